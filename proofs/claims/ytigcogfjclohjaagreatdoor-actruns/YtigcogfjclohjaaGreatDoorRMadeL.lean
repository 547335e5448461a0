/- The document's answer's made: lines, head. -/
import Derived.Test.YtigcogfjclohjaaGreatDoorRMadeJ
import Derived.Test.YtigcogfjclohjaaGreatDoorRHas
import Derived.Test.YtigcogfjclohjaaGreatDoorALaw
namespace Go.Proofs.YtigcogfjclohjaaGreatDoor
open Go.RowKit Go.Shelf Go.Lib

theorem told_step (l : List (List UInt8)) (x : List UInt8) : Af.told (l ++ [x]) = Af.told l ++ x ++ [10] := by
  rw [Af.told_append]
  simp [Af.told]
theorem withW_take (wd : List UInt8) (L : List (List UInt8)) (k : Nat) (hk : k < L.length) : Af.withW wd (L.take (k + 1)) = Af.withW wd (L.take k) ++ (if Lib.contains L[k] wd then [L[k]] else []) := by
  unfold Af.withW
  rw [List.take_succ_eq_append_getElem hk, List.filter_append]
  congr 1
  by_cases h : Lib.contains L[k] wd <;> simp [h]
set_option maxRecDepth 100000 in
set_option maxHeartbeats 4000000 in
theorem made_lines (wd x : List UInt8) (g o cap : Nat) (hwd : wd.length ≤ 1000) (hx : x.length ≤ 100000) (w : World) (hc : w.cell? ⟨g, o, none⟩ = some (.string (ba x))) :
    Calls Tryz.prog 56 #[.string ⟨#[108, 105, 110, 101, 115]⟩, .string (ba wd), .slice (some ⟨g, o, none⟩) 1 cap] w fun e w' => e = .returned (.string (ba (Af.told (Af.withW wd (Af.lines x))))) ∧ Below w.heap.size w w' := by
  have HL := hid1 (rLinesOf_calls x (by omega) w)
  have hll : (Af.lines x).length ≤ 100000 := Nat.le_trans (Af.lines_len x) hx
  have hlx : ∀ y ∈ Af.lines x, y.length ≤ 100000 := fun y hy => Nat.le_trans (Af.line_len hy) hx
  have htl : ∀ k, (Af.told (Af.withW wd ((Af.lines x).take k))).length ≤ 100001 := fun k => by
    have h1 := withW_len wd ((Af.lines x).take k)
    have h2 := told_take_len (l := Af.lines x) k
    have h3 := (Af.told_lines_len x).2
    omega
  generalize Af.lines x = L at *
  have HX := hid1 hlx
  have HTL := hid1 htl
  have HI := hid1 fun (y : List UInt8) (hy : y.length ≤ 100000) W => in_calls y wd (by omega) (by omega) W
  have zl : (L.length : Int) ≤ 100000 := by omega
  clear hlx htl
  go_enter Tryz.func56, Tryz.ntmps56
  go_wp2_with fail
  refine Calls.mono HL.out ?_
  rintro e w1 ⟨v, rfl, hrow, hB⟩
  obtain ⟨pa, lc, rfl, hcap, hin⟩ := hrow
  have HR := hid1 hin
  clear hin HL hc
  go_wp2
  go_loopw [7, 12] (fun s i wr => ∃ k : Nat, k ≤ L.length ∧ s = .string (ba (Af.told (Af.withW wd (L.take k)))) ∧ i = .int .i64 k ∧ w1 = wr) (fun _ i _ => L.length - (intOf i).toNat)
  case atStart => exact ⟨0, Nat.zero_le _, rfl, rfl, rfl⟩
  case round =>
    obtain ⟨k, hk, rfl, rfl, rfl⟩ := hrel
    have c0 : (0 : Int) ≤ (k : Int) := by omega
    have hl0 := HTL.out k
    by_cases hlt : k < L.length
    · obtain ⟨g1, cur, rfl, hg1, hcur⟩ := HR.out (by intro e; rw [e] at hlt; simp at hlt)
      have hcell := cell_of_row hg1 (hcur k hlt)
      have c1 : (k : Int) < (L.length : Int) := by omega
      have hy := HX.out _ (List.getElem_mem hlt)
      have HW := hid1 (withW_take wd L k hlt)
      have H1 := HI.out L[k] hy w1
      clear hcur HR hg1
      generalize L[k] = y at *
      generalize Af.withW wd (L.take k) = fl at *
      have q8 : IntKind.i64.wrap (k : Int) = (k : Int) := by rw [IntKind.wrap_i64]; omega
      cases hcn : Lib.contains y wd with
      | false =>
        rw [hcn] at H1
        have HE := hid1 (show Af.told (Af.withW wd (L.take (k + 1))) = Af.told fl by rw [HW.out, hcn]; simp)
        generalize Af.told fl = t at *
        go_wp2_with fail
        refine Calls.mono H1 ?_
        rintro e w2 ⟨rfl, rfl⟩
        go_wp2
        exact ⟨⟨k + 1, by omega, by rw [HE.out], by go_num, trivial⟩, by simp [intOf]; omega⟩
      | true =>
        rw [hcn] at H1
        have HE := hid1 (show Af.told (Af.withW wd (L.take (k + 1))) = Af.told fl ++ y ++ [10] by rw [HW.out, hcn]; exact told_step fl y)
        generalize Af.told fl = t at *
        have s1 : ∀ W, (Op.stringOp .add (ba t) (ba y)).run Tryz.prog W = .ok (.string (ba (t ++ y))) W := madd t y (by omega)
        have s2 : ∀ W, (Op.stringOp .add (ba (t ++ y)) ⟨#[10]⟩).run Tryz.prog W = .ok (.string (ba (t ++ y ++ [10]))) W := madd (t ++ y) [10] (by rw [List.length_append]; simp; omega)
        generalize t ++ y ++ [10] = t2 at *
        generalize t ++ y = t1 at *
        go_wp2_with fail
        refine Calls.mono H1 ?_
        rintro e w2 ⟨rfl, rfl⟩
        go_wp2
        exact ⟨⟨k + 1, by omega, by rw [HE.out], by go_num, trivial⟩, by simp [intOf]; omega⟩
    · obtain rfl : k = L.length := by omega
      have c1 : ¬ (L.length : Int) < (L.length : Int) := by omega
      rw [List.take_length] at *
      go_wp2
      go_ret
      exact ⟨rfl, hB⟩
end Go.Proofs.YtigcogfjclohjaaGreatDoor
