/- The document's answer's SameTexts at the same texts; the closed fact treed. -/
import Derived.Test.YtigcogfjclohjaaGreatDoorTreeText
namespace Go.Proofs.YtigcogfjclohjaaGreatDoor
open Go.RowKit Go.Shelf Go.Lib Go.Maps
open Tf (Fs)

set_option maxRecDepth 100000 in
set_option maxHeartbeats 4000000 in
theorem SameTexts_same {w : World} {va vb : Value} {l : List (List UInt8)} (ha : TRow w va l) (hb : TRow w vb l) (hn : l.length ≤ 1000) :
    Calls Tryz.prog 18 #[va, vb] w fun e w' => e = .returned (.bool true) ∧ Below w.heap.size w w' := by
  obtain ⟨pa, ca, rfl, hca, ia⟩ := ha
  obtain ⟨pb, cb, rfl, hcb, ib⟩ := hb
  have zn : (l.length : Int) ≤ 1000 := by omega
  go_enter Tryz.func18, Tryz.ntmps18
  go_wp2
  go_loopw [5] (fun i wr => ∃ k : Nat, k ≤ l.length ∧ i = .int .i64 k ∧ ∃ q, wr = w.drewN q) (fun i _ => l.length - (intOf i).toNat)
  case atStart => exact ⟨0, by omega, rfl, 0, rfl⟩
  case round =>
    obtain ⟨k, hk, rfl, q, rfl⟩ := hrel
    by_cases hlt : k < l.length
    · have hne : l ≠ [] := by intro e; rw [e] at hlt; simp at hlt
      obtain ⟨ga, cua, rfl, ha1, ha2⟩ := ia hne
      obtain ⟨gb, cub, rfl, hb1, hb2⟩ := ib hne
      have h1 := cell_of_row ha1 (ha2 k hlt)
      have h2 := cell_of_row hb1 (hb2 k hlt)
      have c1 : (k : Int) < (l.length : Int) := by omega
      have c0 : (0 : Int) ≤ (k : Int) := by omega
      clear ia ib ha1 ha2 hb1 hb2 hne
      generalize l[k] = x at *
      go_wp2
      go_region
      go_wp2
      go_roundw
      case rel => exact ⟨k + 1, by omega, by go_num, q + 1, rfl⟩
      case measure => simp [intOf]; omega
    · have c1 : (l.length : Int) ≤ (k : Int) := by omega
      clear ia ib
      go_wp2
      go_ret
      exact ⟨rfl, below_draws (Below.refl _ w) q⟩

theorem pathB_a : pathB [97] = true := by decide +kernel

set_option maxRecDepth 100000 in
set_option maxHeartbeats 4000000 in
theorem treed_calls (w : World) (er : Nat → Value) (hE : TErr w er) (hP : Pow w) :
    Calls Tryz.prog 9 #[] w fun e w' => e = .returned (.bool true) ∧ Below w.heap.size w w' := by
  have c0 : Tf.putCode pathB [] [97] [120] = 0 := by simp [Tf.putCode, pathB_a, Tf.hasP, Tf.clash]
  have eF : Tf.putF pathB [] [97] [120] = [([97], [120])] := by unfold Tf.putF; rw [if_pos c0]; rfl
  have HP : Hid (∀ W (B tb : Nat), Below w.heap.size w W → TreeAt B W tb [] none → Calls Tryz.prog 17 #[Ptr tb, .string (ba [97]), .string (ba [120])] W fun e w' => e = .returned .nilIface ∧ (∃ o', TreeAt B w' tb [([97], [120])] o') ∧ Below B W w') := fun W B tb hW hT => by
    have := Put_calls hT (hE.below hW) (by simp) (by simp) [97] [120] (by simp)
    rw [c0, hE.nil, eF] at this
    exact this
  have eT : Tf.textT [([97], [120])] = [97, 32, 49, 10, 120, 10] := by
    simp [Tf.textT, Tf.entryT, Lib.decDigits_one]
  have HT : Hid (∀ W (B tb : Nat) o, Below w.heap.size w W → TreeAt B W tb [([97], [120])] o → Calls Tryz.prog 13 #[Ptr tb] W fun e w' => e = .returned (.string (ba [97, 32, 49, 10, 120, 10])) ∧ Below W.heap.size W w') := fun W B tb o hW hT => by
    have := Text_calls hT (pow_below hP hW) (by simp [Tf.Rises]) (by simp) (by simp)
    rwa [eT] at this
  clear hE hP
  go_enter Tryz.func9, Tryz.ntmps9
  go_wp2_with fail
  refine (New_calls w).mono ?_
  rintro e w1 ⟨rfl, hT1, g1⟩
  go_wp2_with fail
  refine (HP.out w1 _ _ g1 hT1).mono ?_
  rintro e w2 ⟨rfl, ⟨o, hT2⟩, g2⟩
  have G2 := g1.trans g2
  go_wp2_with fail
  refine (HT.out w2 _ _ o G2 hT2).mono ?_
  rintro e w3 ⟨rfl, g3⟩
  go_wp2
  go_ret
  exact ⟨rfl, G2.trans (g3.mono G2.size)⟩
end Go.Proofs.YtigcogfjclohjaaGreatDoor
