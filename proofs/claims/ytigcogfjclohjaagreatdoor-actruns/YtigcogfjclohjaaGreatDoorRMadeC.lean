/- The document's answer's made: count. -/
import Derived.Test.YtigcogfjclohjaaGreatDoorRMadeJ
import Derived.Test.YtigcogfjclohjaaGreatDoorACount
import Derived.Test.YtigcogfjclohjaaGreatDoorALaw
import Derived.Test.YtigcogfjclohjaaGreatDoorRDecimal
namespace Go.Proofs.YtigcogfjclohjaaGreatDoor
open Go.RowKit Go.Shelf Go.Lib

theorem bytes_bound {m : Nat} : ∀ {ls : List (List UInt8)}, (∀ x ∈ ls, x.length ≤ m) → Af.bytes ls ≤ ls.length * m
  | [], _ => by simp [Af.bytes]
  | x :: r, h => by
    have ih := bytes_bound (ls := r) fun y hy => h y (by simp [hy])
    have hx := h x (by simp)
    simp only [Af.bytes, List.map_cons, List.sum_cons, List.length_cons, Nat.add_mul, Nat.one_mul] at ih ⊢
    omega
theorem all_len_le : ∀ (ls : List (List UInt8)), (Af.all ls).length ≤ Af.bytes ls
  | [] => by simp [Af.all, Af.bytes]
  | x :: r => by
    have ih := all_len_le r
    have hx := Af.lines_len x
    simp only [Af.all, Af.bytes, List.flatMap_cons, List.length_append, List.map_cons, List.sum_cons] at ih ⊢
    omega
theorem take_bound {m n : Nat} {ls : List (List UInt8)} (hn : ls.length ≤ n) (h : ∀ x ∈ ls, x.length ≤ m) (k : Nat) : Af.bytes (ls.take k) ≤ n * m := by
  refine Nat.le_trans (bytes_bound fun x hx => h x (List.mem_of_mem_take hx)) (Nat.mul_le_mul_right _ ?_)
  simp
  omega

set_option maxRecDepth 100000 in
set_option maxHeartbeats 4000000 in
theorem made_count (wd : List UInt8) (g o cap : Nat) (ls : List (List UInt8)) (hn : ls.length ≤ 20) (hx : ∀ x ∈ ls, x.length ≤ 4000) (w : World) (hg : g < w.heap.size) (hcur : ∀ j (hj : j < ls.length), w.cell? ⟨g, o + j, none⟩ = some (.string (ba ls[j]))) :
    Calls Tryz.prog 56 #[.string ⟨#[99, 111, 117, 110, 116]⟩, .string (ba wd), .slice (some ⟨g, o, none⟩) ls.length cap] w fun e w' => e = .returned (.string (ba (Af.count ls))) ∧ Below w.heap.size w w' := by
  have zl : (ls.length : Int) ≤ 20 := by omega
  have HC := hid1 hcur
  have HX := hid1 hx
  have HTB := hid1 fun k => take_bound hn hx k
  have HLL := hid1 fun (y : List UInt8) (hy : y.length ≤ 4000) W => rLinesOf_calls y (by omega) W
  have HD := hid1 Decimal_calls
  clear hcur hx
  go_enter Tryz.func56, Tryz.ntmps56
  go_wp2
  go_loopw [19, 20, 21] (fun n b i wr => ∃ k : Nat, k ≤ ls.length ∧ n = .int .i64 ((Af.all (ls.take k)).length : Nat) ∧ b = .int .i64 (Af.bytes (ls.take k) : Nat) ∧ i = .int .i64 k ∧ Below w.heap.size w wr) (fun _ _ i _ => ls.length - (intOf i).toNat)
  case atStart => exact ⟨0, Nat.zero_le _, rfl, rfl, rfl, Below.refl _ _⟩
  case round =>
    obtain ⟨k, hk, rfl, rfl, rfl, hB⟩ := hrel
    have c0 : (0 : Int) ≤ (k : Int) := by omega
    have hb0 : Af.bytes (ls.take k) ≤ 80000 := HTB.out k
    have ha0 : (Af.all (ls.take k)).length ≤ 80000 := Nat.le_trans (all_len_le _) hb0
    by_cases hlt : k < ls.length
    · have c1 : (k : Int) < (ls.length : Int) := by omega
      have hy := HX.out _ (List.getElem_mem hlt)
      have hcell := (hB.cell (p := ⟨g, o + k, none⟩) hg).trans (HC.out k hlt)
      have hgr : g < wr.heap.size := Nat.lt_of_lt_of_le hg hB.size
      have HA : Hid ((Af.all (ls.take (k + 1))).length = (Af.all (ls.take k)).length + (Af.lines ls[k]).length) := by
        refine hid1 ?_
        rw [all_take hlt, List.length_append]
      have HBy := hid1 (bytes_take hlt)
      have H1 := HLL.out ls[k] hy wr
      have hly := Af.lines_len ls[k]
      generalize ls[k] = y at *
      generalize Af.lines y = L at *
      generalize (Af.all (ls.take k)).length = n at *
      generalize Af.bytes (ls.take k) = b at *
      have q8 : IntKind.i64.wrap (k : Int) = (k : Int) := by rw [IntKind.wrap_i64]; omega
      have q9 : IntKind.i64.wrap ((n : Int) + (L.length : Int)) = ((n + L.length : Nat) : Int) := by rw [IntKind.wrap_i64]; omega
      have q7 : IntKind.i64.wrap ((b : Int) + (y.length : Int)) = ((b + y.length : Nat) : Int) := by rw [IntKind.wrap_i64]; omega
      go_wp2_with fail
      refine Calls.mono H1 ?_
      rintro e w1 ⟨v, rfl, ⟨pa, lc, rfl, hcap, _⟩, g1⟩
      have hcell1 := (g1.cell (p := ⟨g, o + k, none⟩) hgr).trans hcell
      go_wp2
      exact ⟨⟨k + 1, by omega, by rw [HA.out, Int.natCast_add], by rw [HBy.out, Int.natCast_add], by go_num, hB.trans (g1.mono hB.size)⟩, by simp [intOf]; omega⟩
    · obtain rfl : k = ls.length := by omega
      have c1 : ¬ (ls.length : Int) < (ls.length : Int) := by omega
      have HQ : Hid (Af.count ls = Lib.decDigits (Af.all ls).length ++ 32 :: (Lib.decDigits (Af.bytes ls) ++ [10])) := rfl
      rw [List.take_length] at *
      have H1 := hid1 fun W => HD.out (Af.all ls).length (by omega) W
      have H2 := hid1 fun W => HD.out (Af.bytes ls) (by omega) W
      have hd1 := digits_len (Af.all ls).length (by omega)
      have hd2 := digits_len (Af.bytes ls) (by omega)
      generalize (Af.all ls).length = n at *
      generalize Af.bytes ls = b at *
      generalize Lib.decDigits n = dn at *
      generalize Lib.decDigits b = db at *
      have s1 : ∀ W, (Op.stringOp .add (ba dn) ⟨#[32]⟩).run Tryz.prog W = .ok (.string (ba (dn ++ [32]))) W := madd dn [32] (by simp; omega)
      have s2 : ∀ W, (Op.stringOp .add (ba (dn ++ [32])) (ba db)).run Tryz.prog W = .ok (.string (ba (dn ++ [32] ++ db))) W := madd (dn ++ [32]) db (by simp; omega)
      have s3 : ∀ W, (Op.stringOp .add (ba (dn ++ [32] ++ db)) ⟨#[10]⟩).run Tryz.prog W = .ok (.string (ba (dn ++ [32] ++ db ++ [10]))) W := madd (dn ++ [32] ++ db) [10] (by simp; omega)
      have HE : Hid (Af.count ls = dn ++ [32] ++ db ++ [10]) := by
        refine hid1 ?_
        rw [HQ.out]
        simp
      generalize dn ++ [32] ++ db ++ [10] = t3 at *
      generalize dn ++ [32] ++ db = t2 at *
      generalize dn ++ [32] = t1 at *
      go_wp2_with fail
      refine Calls.mono (H1.out _) ?_
      rintro e w1 ⟨rfl, g1⟩
      go_wp2_with fail
      refine Calls.mono (H2.out _) ?_
      rintro e w2 ⟨rfl, g2⟩
      go_wp2
      go_ret
      have hB1 := hB.trans (g1.mono hB.size)
      refine ⟨?_, hB1.trans (g2.mono hB1.size)⟩
      show Ending.returned (.string (ba t3)) = _
      rw [HE.out]
end Go.Proofs.YtigcogfjclohjaaGreatDoor
