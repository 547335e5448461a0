/- The document's answer's made: join. -/
import Derived.Test.YtigcogfjclohjaaGreatDoorALines
namespace Go.Proofs.YtigcogfjclohjaaGreatDoor
open Go.RowKit Go.Shelf Go.Lib

theorem madd (a b : List UInt8) (h : a.length + b.length ≤ 100000000) (W : World) : (Op.stringOp .add (ba a) (ba b)).run Tryz.prog W = .ok (.string (ba (a ++ b))) W := by
  rw [run_string_add_sum (P := Tryz.prog) W (ba a) (ba b) (by rw [ba_size, ba_size]; omega), ba_append]

set_option maxRecDepth 100000 in
set_option maxHeartbeats 4000000 in
theorem made_join (wd : List UInt8) (g o cap : Nat) (x : List UInt8) (l : List (List UInt8)) (hl : l.length ≤ 20) (hwd : wd.length ≤ 100000) (hx : ∀ y ∈ l, y.length ≤ 100000) (hall : ∀ k, (x ++ Lib.joinTail wd (l.take k)).length ≤ 10000000) (w : World) (hcur : ∀ j (hj : j < (x :: l).length), w.cell? ⟨g, o + j, none⟩ = some (.string (ba (x :: l)[j]))) :
    Calls Tryz.prog 56 #[.string ⟨#[106, 111, 105, 110]⟩, .string (ba wd), .slice (some ⟨g, o, none⟩) (l.length + 1) cap] w fun e w' => e = .returned (.string (ba (Lib.join (x :: l) wd))) ∧ Below w.heap.size w w' := by
  have hc0 : w.cell? ⟨g, o, none⟩ = some (.string (ba x)) := hcur 0 (by simp)
  have zl : (l.length : Int) ≤ 20 := by omega
  rw [Lib.join_cons]
  have HX := hid1 hx
  have HA := hid1 hall
  have HC := hid1 fun j (hj : j < l.length) => hcur (j + 1) (by simp; omega)
  clear hx hall hcur
  go_enter Tryz.func56, Tryz.ntmps56
  go_wp2
  go_loopw [7, 8] (fun s i wr => ∃ k : Nat, k ≤ l.length ∧ s = .string (ba (x ++ Lib.joinTail wd (l.take k))) ∧ i = .int .i64 ((k : Int) + 1) ∧ w = wr) (fun _ i _ => l.length + 1 - (intOf i).toNat)
  case atStart => exact ⟨0, Nat.zero_le _, by simp [Lib.joinTail], rfl, rfl⟩
  case round =>
    obtain ⟨k, hk, rfl, rfl, rfl⟩ := hrel
    have h0 := HA.out k
    by_cases hlt : k < l.length
    · have hc := HC.out k hlt
      have hy := HX.out _ (List.getElem_mem hlt)
      simp only [List.getElem_cons_succ] at hc
      have HT := hid1 (Lib.joinTail_take_succ wd l k l[k] (List.getElem?_eq_getElem hlt))
      generalize l[k] = y at *
      generalize Lib.joinTail wd (l.take k) = t at *
      have s1 : ∀ W, (Op.stringOp .add (ba (x ++ t)) (ba wd)).run Tryz.prog W = .ok (.string (ba (x ++ t ++ wd))) W := madd _ _ (by omega)
      have s2 : ∀ W, (Op.stringOp .add (ba (x ++ t ++ wd)) (ba y)).run Tryz.prog W = .ok (.string (ba (x ++ t ++ wd ++ y))) W := madd _ _ (by rw [List.length_append]; omega)
      have c1 : (k : Int) + 1 < (l.length : Int) + 1 := by omega
      have e0 : (0 : Int) ≤ (k : Int) + 1 := by omega
      have e3 : ((k : Int) + 1).toNat = k + 1 := by omega
      have q8 : IntKind.i64.wrap ((k : Int) + 1) = (k : Int) + 1 := by rw [IntKind.wrap_i64]; omega
      have q9 : IntKind.i64.wrap ((k : Int) + 1 + 1) = (k : Int) + 1 + 1 := by rw [IntKind.wrap_i64]; omega
      have HE := hid1 (show x ++ t ++ wd ++ y = x ++ (t ++ wd ++ y) by simp)
      generalize x ++ t ++ wd ++ y = t2 at *
      generalize x ++ t ++ wd = t1 at *
      generalize x ++ t = t0 at *
      go_wp2
      exact ⟨⟨k + 1, by omega, by rw [HT.out, HE.out], by go_num, trivial⟩, by simp [intOf]; omega⟩
    · obtain rfl : k = l.length := by omega
      have c1 : ¬ (l.length : Int) + 1 < (l.length : Int) + 1 := by omega
      rw [List.take_length] at *
      go_wp2
      go_ret
      exact ⟨rfl, Below.refl _ _⟩
end Go.Proofs.YtigcogfjclohjaaGreatDoor
