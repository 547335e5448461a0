/- The document's answer's Text of a tree: the walk. -/
import Derived.Test.YtigcogfjclohjaaGreatDoorM5
import Derived.Test.YtigcogfjclohjaaGreatDoorM3
import Derived.Deep.RegionHeld3
namespace Go.Proofs.YtigcogfjclohjaaGreatDoor
open Go.RowKit Go.Shelf Go.Lib Go.Maps
open Tf (Fs)

theorem sadd (a b : List UInt8) (h : a.length + b.length ≤ 100000000) (W : World) : (Op.stringOp .add (ba a) (ba b)).run Tryz.prog W = .ok (.string (ba (a ++ b))) W := by
  rw [run_string_add_sum (P := Tryz.prog) W (ba a) (ba b) (by rw [ba_size, ba_size]; omega), ba_append]

set_option maxRecDepth 100000 in
set_option maxHeartbeats 8000000 in
theorem rText_calls {B : Nat} {w : World} {tb : Nat} {fs : Fs} {v : Value} (h : RTreeAt B w tb fs v) (hw : Tf.Well pathB fs) :
    Calls Tryz.prog 14 #[Ptr tb] w fun e w' => e = .returned (.string (ba (Tf.textT fs))) ∧ Below w.heap.size w w' := by
  have hlen : ∀ f ∈ fs, f.1.length ≤ 64 := well_len hw
  have hn : fs.length ≤ 60 := hw.few
  have hby : ∀ f ∈ fs, f.2.length ≤ 2000 := fun f hf => (hw.each f hf).2
  have hlenA := fun k : Nat => textT_len (fs := fs.take k) (fun f hf => ⟨by have := hlen f (List.mem_of_mem_take hf); omega, hby f (List.mem_of_mem_take hf)⟩)
  have hc := h.cell
  have htb := h.lt
  obtain ⟨pa, cap, rfl, hcap, hin⟩ := FRow.of_owns h.row
  have zn : (fs.length : Int) ≤ 60 := by omega
  clear h hw
  go_enter Tryz.func14, Tryz.ntmps14
  go_wp2
  go_loopw [3, 4] (fun s i wr => ∃ k : Nat, k ≤ fs.length ∧ s = .string (ba (Tf.textT (fs.take k))) ∧ i = .int .i64 k ∧ Below w.heap.size w wr) (fun _ i _ => fs.length - (intOf i).toNat)
  case atStart => exact ⟨0, Nat.zero_le _, rfl, rfl, Below.refl _ _⟩
  case round =>
    obtain ⟨k, hk, rfl, rfl, hB⟩ := hrel
    by_cases hlt : k < fs.length
    · obtain ⟨g, cur, rfl, hg, hcur⟩ := hin (by intro e; rw [e] at hlt; simp at hlt)
      have hgl : g < w.heap.size := (Array.getElem?_eq_some_iff.1 hg).1
      have d0 := (hB.cell (p := ⟨tb, 0, none⟩) htb).trans hc
      have d1 := (hB.cell (p := ⟨g, k * 2, none⟩) hgl).trans (cell_of_row hg (hcur k hlt).1)
      have d2 := (hB.cell (p := ⟨g, k * 2 + 1, none⟩) hgl).trans (cell_of_row hg (hcur k hlt).2)
      have hx64 := hlen _ (List.getElem_mem hlt)
      have hy2 := hby _ (List.getElem_mem hlt)
      have hl0 := hlenA k
      have hstep : Hid (Tf.textT (fs.take (k + 1)) = Tf.textT (fs.take k) ++ (fs[k].1 ++ 32 :: (Lib.decDigits fs[k].2.length ++ 10 :: (fs[k].2 ++ [10])))) := textT_take hlt
      rw [List.length_take] at hl0
      have hdl := digits_len fs[k].2.length (by omega)
      clear hin hcur hg hlenA
      generalize fs[k].1 = x at *
      generalize fs[k].2 = y at *
      generalize Tf.textT (fs.take k) = t at *
      have zt : (t.length : Int) ≤ 240000 := by
        have : min k fs.length * 4000 ≤ 60 * 4000 := Nat.mul_le_mul_right _ (by omega)
        omega
      have zx : (x.length : Int) ≤ 64 := by omega
      have zy : (y.length : Int) ≤ 2000 := by omega
      have zd : ((Lib.decDigits y.length).length : Int) ≤ 21 := by omega
      have HD : Hid (∀ W, Below wr.heap.size wr W → Calls Tryz.prog 31 #[.int .i64 (y.length : Int)] W fun e w' => e = .returned (.string (ba (Lib.decDigits y.length))) ∧ Below wr.heap.size wr w') := fun W hW =>
        (Decimal_calls y.length (by omega) W).mono fun e w' ⟨h1, h2⟩ => ⟨h1, hW.trans (h2.mono hW.size)⟩
      have hgr : g < wr.heap.size := Nat.lt_of_lt_of_le hgl hB.size
      have htr : tb < wr.heap.size := Nat.lt_of_lt_of_le htb hB.size
      have c1 : (k : Int) < (fs.length : Int) := by omega
      have c0 : (0 : Int) ≤ (k : Int) := by omega
      have q8 : IntKind.i64.wrap (k : Int) = (k : Int) := by rw [IntKind.wrap_i64]; omega
      generalize Lib.decDigits y.length = dd at *
      have s1 : ∀ W, (Op.stringOp .add (ba t) (ba x)).run Tryz.prog W = .ok (.string (ba (t ++ x))) W := sadd t x (by omega)
      have s2 : ∀ W, (Op.stringOp .add (ba (t ++ x)) ⟨#[32]⟩).run Tryz.prog W = .ok (.string (ba (t ++ x ++ [32]))) W := sadd (t ++ x) [32] (by simp only [List.length_append, List.length_cons, List.length_nil]; omega)
      have s3 : ∀ W, (Op.stringOp .add (ba (t ++ x ++ [32])) (ba dd)).run Tryz.prog W = .ok (.string (ba (t ++ x ++ [32] ++ dd))) W := sadd _ _ (by simp only [List.length_append, List.length_cons, List.length_nil]; omega)
      have s4 : ∀ W, (Op.stringOp .add (ba (t ++ x ++ [32] ++ dd)) ⟨#[10]⟩).run Tryz.prog W = .ok (.string (ba (t ++ x ++ [32] ++ dd ++ [10]))) W := sadd _ [10] (by simp only [List.length_append, List.length_cons, List.length_nil]; omega)
      have s5 : ∀ W, (Op.stringOp .add (ba (t ++ x ++ [32] ++ dd ++ [10])) (ba y)).run Tryz.prog W = .ok (.string (ba (t ++ x ++ [32] ++ dd ++ [10] ++ y))) W := sadd _ _ (by simp only [List.length_append, List.length_cons, List.length_nil]; omega)
      have s6 : ∀ W, (Op.stringOp .add (ba (t ++ x ++ [32] ++ dd ++ [10] ++ y)) ⟨#[10]⟩).run Tryz.prog W = .ok (.string (ba (t ++ x ++ [32] ++ dd ++ [10] ++ y ++ [10]))) W := sadd _ [10] (by simp only [List.length_append, List.length_cons, List.length_nil]; omega)
      generalize ht1 : t ++ x = t1 at *
      generalize ht2 : t1 ++ [32] = t2 at *
      generalize ht3 : t2 ++ dd = t3 at *
      generalize ht4 : t3 ++ [10] = t4 at *
      generalize ht5 : t4 ++ y = t5 at *
      generalize ht6 : t5 ++ [10] = t6 at *
      have hst0 : Tf.textT (fs.take (k + 1)) = t6 := by
        rw [hstep.out, ← ht6, ← ht5, ← ht4, ← ht3, ← ht2, ← ht1]
        simp
      have hst : Hid (Tf.textT (fs.take (k + 1)) = t6) := hst0
      clear hst0 ht1 ht2 ht3 ht4 ht5 ht6 hstep
      go_wp2
      go_region_held3 (fun w' => w'.cell? ⟨tb, 0, none⟩ = some (.slice (some ⟨g, 0, none⟩) fs.length cap) ∧ w'.cell? ⟨g, k * 2, none⟩ = some (.string (ba x)) ∧ w'.cell? ⟨g, k * 2 + 1, none⟩ = some (.string (ba y))) (first | go_keep | fail)
        (first | (go_at_call 31; refine (HD.out _ (by exact (Below.refl _ wr).drew)).mono ?_; rintro e w3 ⟨rfl, g3⟩; have e0 := (g3.cell (p := ⟨tb, 0, none⟩) htr).trans d0; have e1 := (g3.cell (p := ⟨g, k * 2, none⟩) hgr).trans d1; have e2 := (g3.cell (p := ⟨g, k * 2 + 1, none⟩) hgr).trans d2) | fail)
      all_goals
        go_wp2
        exact ⟨⟨k + 1, by omega, by rw [hst.out], by go_num, hB.trans (g3.mono hB.size)⟩, by simp [intOf]; omega⟩
    · have c1 : (fs.length : Int) ≤ (k : Int) := by omega
      obtain rfl : k = fs.length := by omega
      have d0 := (hB.cell (p := ⟨tb, 0, none⟩) htb).trans hc
      clear hin hlenA
      go_wp2
      go_ret
      exact ⟨by simp, hB⟩
end Go.Proofs.YtigcogfjclohjaaGreatDoor
