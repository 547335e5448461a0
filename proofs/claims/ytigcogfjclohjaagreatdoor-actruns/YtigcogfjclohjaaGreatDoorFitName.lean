/- The walk of package path's fitName. -/
import Derived.Test.YtigcogfjclohjaaGreatDoorFitSpec
import Derived.Test.YtigcogfjclohjaaGreatDoorShelf2
import Derived.Test.YtigcogfjclohjaaGreatDoorRPath
namespace Go.Proofs.YtigcogfjclohjaaGreatDoor
open Go.RowKit Go.Shelf Go.Lib

theorem seek_append (a b : List (List UInt8)) : ∀ r, seek r (a ++ b) = (seek r a).bind (fun r' => seek r' b) := by
  induction a with
  | nil => intro r; rfl
  | cons x xs ih =>
    intro r
    simp only [List.cons_append, seek]
    split
    · exact ih _
    · rfl

theorem seek_len : ∀ (a : List (List UInt8)) (r r' : List UInt8), seek r a = some r' → r'.length ≤ r.length
  | [], r, r', h => by simp [seek] at h; subst h; exact Nat.le_refl _
  | x :: xs, r, r', h => by
    unfold seek at h
    split at h
    · have := seek_len xs _ _ h
      simp at this
      omega
    · cases h


theorem row_cells (W : World) (l : List (List UInt8)) (j : Nat) (hj : j < l.length) : (W.alloc (.cells ((l.map ba).map Value.string).toArray 9)).cell? ⟨W.heap.size, j, none⟩ = some (.string (ba l[j])) := by
  rw [World.cell?_alloc_at _ _ _ _ rfl, List.getElem?_toArray, List.getElem?_map, List.getElem?_map, List.getElem?_eq_getElem hj]
  rfl

theorem cutB_len (c : UInt8) (s : List UInt8) : (cutB c s).length ≤ s.length + 1 := by
  induction s with
  | nil => simp [cutB]
  | cons x r ih =>
    unfold cutB
    split
    · simp; omega
    · split
      · simp
      · next h => rw [h] at ih; simp at ih ⊢; omega

theorem strCutG (s sep : List UInt8) (m : Int) (w : World) (hs : s.length ≤ 1000000) (hm : w.cell? ⟨14, 0, none⟩ = some (.int .i64 m)) :
    Calls Tryz.prog 77 #[.string (ba s), .string (ba sep)] w fun e w' => e = .returned (.tuple #[.string (ba (Lib.cut s sep).1), .string (ba (Lib.cut s sep).2.1), .bool (Lib.cut s sep).2.2]) ∧ ∃ n, w' = w.drewN n :=
  Tryz.strings_Cut (ba s) (ba sep) m w (by rw [ba_size]; omega) hm

set_option maxRecDepth 100000 in
set_option maxHeartbeats 4000000 in
theorem fitName_calls (p n : List UInt8) (hp : p.length ≤ 1000000) (hn : n.length ≤ 1000000) (m : Int) (w : World) (hm : w.cell? ⟨14, 0, none⟩ = some (.int .i64 m)) :
    Calls Tryz.prog 96 #[.string (ba p), .string (ba n)] w fun e w' => e = .returned (.bool (fitN p n)) ∧ Below w.heap.size w w' := by
  have hcut := strCutG p [42] m w hp hm
  have HF : Hid (fitN p n = (if 0 ≤ Lib.index p [42] then
    (if Lib.hasPrefix n (p.take (Lib.index p [42]).toNat) = true then
      (match seek (n.drop (p.take (Lib.index p [42]).toNat).length) (cutB 42 (p.drop ((Lib.index p [42]).toNat + 1))).dropLast with
       | some r => Lib.hasSuffix r ((cutB 42 (p.drop ((Lib.index p [42]).toNat + 1))).getLastD [])
       | none => false)
     else false)
  else decide (p = n))) := rfl
  by_cases hi : 0 ≤ Lib.index p [42]
  · rw [show Lib.cut p [42] = (p.take (Lib.index p [42]).toNat, p.drop ((Lib.index p [42]).toNat + 1), true) by simp [Lib.cut, hi]] at hcut
    generalize p.take (Lib.index p [42]).toNat = first at *
    have hbl : (p.drop ((Lib.index p [42]).toNat + 1)).length ≤ 1000000 := by simp; omega
    generalize p.drop ((Lib.index p [42]).toNat + 1) = behind at *
    have hf : fitN p n = (if Lib.hasPrefix n first = true then
      (match seek (n.drop first.length) (cutB 42 behind).dropLast with
       | some r => Lib.hasSuffix r ((cutB 42 behind).getLastD [])
       | none => false)
     else false) := by rw [HF.out, if_pos hi]
    have HC : Hid (Calls Tryz.prog 77 #[.string (ba p), .string ⟨#[42]⟩] w fun e w' => e = .returned (.tuple #[.string (ba first), .string (ba behind), .bool true]) ∧ ∃ n, w' = w.drewN n) := hcut
    clear HF hcut hi
    cases hpre : Lib.hasPrefix n first with
    | false =>
      rw [hpre] at hf
      have HF : Hid (fitN p n = false) := hf
      have HP : Hid (∀ W, Calls Tryz.prog 79 #[.string (ba n), .string (ba first)] W fun e w' => e = .returned (.tuple #[.string (ba (Lib.trimPrefix n first)), .bool false]) ∧ w' = W) := fun W => by
        have := Tryz.strings_CutPrefix (ba n) (ba first) W
        rw [show Lib.hasPrefix (ba n).data.toList (ba first).data.toList = false from hpre] at this
        exact this
      clear hf hpre
      go_enter Tryz.func96, Tryz.ntmps96
      go_wp2_with fail
      refine HC.out.mono ?_
      rintro e w1 ⟨rfl, q1, rfl⟩
      go_wp2_with fail
      refine (HP.out _).mono ?_
      rintro e w2 ⟨rfl, rfl⟩
      go_wp2
      go_ret
      exact ⟨ret_bool HF.out.symm, below_draws (Below.refl _ _) q1⟩
    | true =>
      rw [hpre, if_pos rfl] at hf
      have htp : Lib.trimPrefix n first = n.drop first.length := by simp [Lib.trimPrefix, hpre]
      have HP : Hid (∀ W, Calls Tryz.prog 79 #[.string (ba n), .string (ba first)] W fun e w' => e = .returned (.tuple #[.string (ba (n.drop first.length)), .bool true]) ∧ w' = W) := fun W => by
        have := Tryz.strings_CutPrefix (ba n) (ba first) W
        rw [show Lib.hasPrefix (ba n).data.toList (ba first).data.toList = true from hpre, show Lib.trimPrefix (ba n).data.toList (ba first).data.toList = n.drop first.length from htp] at this
        exact this
      have hrl : (n.drop first.length).length ≤ 1000000 := by simp; omega
      generalize n.drop first.length = r0 at *
      obtain ⟨xs, z, hxz⟩ : ∃ xs z, cutB 42 behind = xs ++ [z] := ⟨_, _, (List.dropLast_concat_getLast (cutB_ne 42 behind)).symm⟩
      have hdl : (cutB 42 behind).dropLast = xs := by rw [hxz]; simp
      have hgl : (cutB 42 behind).getLastD [] = z := by rw [hxz]; simp
      rw [hdl, hgl] at hf
      have HF : Hid (fitN p n = (match seek r0 xs with | some r => Lib.hasSuffix r z | none => false)) := hf
      have HS : Hid (∀ W, W.cell? ⟨14, 0, none⟩ = some (.int .i64 m) → Calls Tryz.prog 137 #[.string (ba behind), .string ⟨#[42]⟩] W fun e w' => e = .returned (.slice (some ⟨W.heap.size, 0, none⟩) (xs.length + 1) (xs.length + 1)) ∧ w' = W.alloc (.cells (((xs ++ [z]).map ba).map Value.string).toArray 9)) := fun W hW => by
        have := Tryz.strings_Split (ba behind) (ba [42]) m W (by rw [ba_size]; omega) hW (by rw [ba_size]; simp)
        rw [splitB_cut, count_cut, hxz] at this
        simpa using this
      have hxl : xs.length ≤ 1000000 := by
        have := cutB_len 42 behind
        rw [hxz] at this
        simp at this
        omega
      clear hf hpre htp hdl hgl hxz hbl
      go_enter Tryz.func96, Tryz.ntmps96
      go_wp2_with fail
      refine HC.out.mono ?_
      rintro e w1 ⟨rfl, q1, rfl⟩
      go_wp2_with fail
      refine (HP.out _).mono ?_
      rintro e w2 ⟨rfl, rfl⟩
      go_wp2_with fail
      refine (HS.out (w.drewN q1) hm).mono ?_
      rintro e w3 ⟨rfl, hw3⟩
      have hB3 : Below w.heap.size w w3 := by
        rw [hw3]
        exact (below_draws (Below.refl _ w) q1).alloc (Nat.le_refl _) _
      have hm3 := cell_below' hm hB3
      have hcell : ∀ (j : Nat) (hj : j < (xs ++ [z]).length), w3.cell? ⟨w.heap.size, j, none⟩ = some (.string (ba (xs ++ [z])[j])) := fun j hj => by
        rw [hw3]
        exact row_cells (w.drewN q1) (xs ++ [z]) j hj
      have hcz := hcell xs.length (by simp)
      rw [List.getElem_append_right (by omega)] at hcz
      simp only [Nat.sub_self, List.getElem_cons_zero] at hcz
      have hcx : ∀ (j : Nat) (hj : j < xs.length), w3.cell? ⟨w.heap.size, j, none⟩ = some (.string (ba xs[j])) := fun j hj => by
        have := hcell j (by simp; omega)
        rwa [List.getElem_append_left hj] at this
      clear hw3 hcell HS HP HC
      have e0 : (0 : Int) ≤ (xs.length : Int) := by omega
      have e1 : (xs.length : Int) ≤ 1000000 := by omega
      go_wp2
      go_loopw [8, 9, 42] (fun rest _ i wr => ∃ (k : Nat) (r : List UInt8), k ≤ xs.length ∧ i = .int .i64 k ∧ rest = .string (ba r) ∧ seek r0 (xs.take k) = some r ∧ ∃ q, wr = w3.drewN q) (fun _ _ i _ => xs.length - (intOf i).toNat)
      case atStart => exact ⟨0, r0, by omega, rfl, rfl, rfl, 0, rfl⟩
      case round =>
        obtain ⟨k, r, hk, rfl, rfl, hsk, q, rfl⟩ := hrel
        have hrl2 := seek_len _ _ _ hsk
        have HK : Hid (seek r0 (xs.take k) = some r) := hsk
        clear hsk
        by_cases hlt : k < xs.length
        · have hck := hcx k hlt
          have c1 : (k : Int) < (xs.length : Int) := by omega
          have c0 : (0 : Int) ≤ (k : Int) := by omega
          have hsn : seek r0 (xs.take (k + 1)) = seek r [xs[k]] := by
            rw [List.take_succ_eq_append_getElem hlt, seek_append, HK.out]; rfl
          have hsp : seek r0 xs = (seek r [xs[k]]).bind (fun r' => seek r' (xs.drop (k + 1))) := by
            conv => lhs; rw [← List.take_append_drop (k + 1) xs]
            rw [seek_append, hsn]
          generalize xs[k] = x at *
          have hcu := strCutG r x m (w3.drewN q) (by omega) hm3
          by_cases hix : 0 ≤ Lib.index r x
          · rw [show Lib.cut r x = (r.take (Lib.index r x).toNat, r.drop ((Lib.index r x).toNat + x.length), true) by simp [Lib.cut, hix]] at hcu
            have h1 : seek r0 (xs.take (k + 1)) = some (r.drop ((Lib.index r x).toNat + x.length)) := by rw [hsn]; simp [seek, hix]
            have H1 : Hid (seek r0 (xs.take (k + 1)) = some (r.drop ((Lib.index r x).toNat + x.length))) := h1
            generalize r.drop ((Lib.index r x).toNat + x.length) = r2 at *
            generalize r.take (Lib.index r x).toNat = rt at *
            have HC : Hid (Calls Tryz.prog 77 #[.string (ba r), .string (ba x)] (w3.drewN q) fun e w' => e = .returned (.tuple #[.string (ba rt), .string (ba r2), .bool true]) ∧ ∃ n, w' = (w3.drewN q).drewN n) := hcu
            clear hcu h1 hsn hsp hix HK hcx
            go_wp2_with fail
            refine HC.out.mono ?_
            rintro e w4 ⟨rfl, q4, rfl⟩
            go_wp2
            refine ⟨⟨k + 1, r2, by omega, by go_num, rfl, H1.out, q + q4, ?_⟩, by simp [intOf]; omega⟩
            simp [World.drewN]
          · rw [show Lib.cut r x = (r, [], false) by simp [Lib.cut, hix]] at hcu
            have h2 : fitN p n = false := by rw [HF.out, hsp]; simp [seek, hix]
            have H2 : Hid (fitN p n = false) := h2
            have HC : Hid (Calls Tryz.prog 77 #[.string (ba r), .string (ba x)] (w3.drewN q) fun e w' => e = .returned (.tuple #[.string (ba r), .string (ba []), .bool false]) ∧ ∃ n, w' = (w3.drewN q).drewN n) := hcu
            clear hcu h2 hsn hsp hix HK hcx HF
            go_wp2_with fail
            refine HC.out.mono ?_
            rintro e w4 ⟨rfl, q4, rfl⟩
            go_wp2
            go_ret
            exact ⟨ret_bool H2.out.symm, below_draws hB3 _⟩
        · have c1 : (xs.length : Int) ≤ (k : Int) := by omega
          have h2 : fitN p n = Lib.hasSuffix r z := by
            have := HK.out
            rw [List.take_of_length_le (by omega)] at this
            rw [HF.out, this]
          have H2 : Hid (fitN p n = Lib.hasSuffix r z) := h2
          have HSU : Hid (∀ W, Calls Tryz.prog 138 #[.string (ba r), .string (ba z)] W fun e w' => e = .returned (.bool (Lib.hasSuffix r z)) ∧ w' = W) := fun W => Tryz.strings_HasSuffix (ba r) (ba z) W (by rw [ba_size]; omega)
          clear h2 HK hcx HF
          go_wp2_with fail
          refine (HSU.out _).mono ?_
          rintro e w4 ⟨rfl, rfl⟩
          go_wp2
          go_ret
          exact ⟨ret_bool H2.out.symm, below_draws hB3 _⟩
  · rw [show Lib.cut p [42] = (p, [], false) by simp [Lib.cut, hi]] at hcut
    have hf : fitN p n = decide (p = n) := by rw [HF.out, if_neg hi]
    have HC : Hid (Calls Tryz.prog 77 #[.string (ba p), .string ⟨#[42]⟩] w fun e w' => e = .returned (.tuple #[.string (ba p), .string (ba []), .bool false]) ∧ ∃ n, w' = w.drewN n) := hcut
    clear HF hcut hi
    by_cases hpn : p = n
    · subst hpn
      have HF : Hid (fitN p p = true) := by
        show fitN p p = true
        rw [hf]; simp
      clear hf
      go_enter Tryz.func96, Tryz.ntmps96
      go_wp2_with fail
      refine HC.out.mono ?_
      rintro e w1 ⟨rfl, q1, rfl⟩
      go_wp2
      go_ret
      exact ⟨ret_bool HF.out.symm, below_draws (Below.refl _ _) q1⟩
    · have HF : Hid (fitN p n = false) := by
        show fitN p n = false
        rw [hf]; simp [hpn]
      have hne : (p == n) = false := by simpa using hpn
      clear hf hpn
      go_enter Tryz.func96, Tryz.ntmps96
      go_wp2_with fail
      refine HC.out.mono ?_
      rintro e w1 ⟨rfl, q1, rfl⟩
      go_wp2
      go_ret
      exact ⟨ret_bool HF.out.symm, below_draws (Below.refl _ _) q1⟩
end Go.Proofs.YtigcogfjclohjaaGreatDoor
