import Derived.Test.YtmhipgompplkdaaGreatDoorWT43
import Derived.Test.YtmhipgompplkdaaGreatDoorWT08
import Derived.Test.YtmhipgompplkdaaGreatDoorWT09
import Derived.Test.YtmhipgompplkdaaGreatDoorWT37
import Derived.Test.YtmhipgompplkdaaGreatDoorWT18
import Derived.Test.YtmhipgompplkdaaGreatDoorWT17
import Derived.Test.YtmhipgompplkdaaGreatDoorWT07
import Derived.Deep.RegionHeld3
import Derived.Test.YtmhipgompplkdaaGreatDoorWT30
namespace Go.Proofs.YtmhipgompplkdaaGreatDoor
open Go.RowKit Go.Shelf Go.Lib
def OfFault (l : List Ru) (out : List UInt8) (f : Nat × Int) : Prop :=
  ((Ru.fault l).1 ≠ 0 ∧ f = Ru.fault l) ∨
  ((Ru.fault l).1 = 0 ∧ (∀ x ∈ l, x.out ≠ out) ∧ f = (6, -1)) ∨
  ((Ru.fault l).1 = 0 ∧ (∃ x ∈ l, x.out = out) ∧ Ru.order l (Bf.need l [out]) = none ∧ f = (9, -1)) ∨
  ((Ru.fault l).1 = 0 ∧ (∃ x ∈ l, x.out = out) ∧ (Ru.order l (Bf.need l [out])).isSome = true ∧ f = (0, -1))
theorem fault_field (V : World) (a b : Int) : (Instr.field 75 (.agg #[.int .i64 a, .int .i64 b]) 0).run Tryz.prog V = .ok (.int .i64 a) V := by kernel_rfl
set_option maxRecDepth 100000 in
set_option maxHeartbeats 8000000 in
theorem WantFault_calls {w : World} (v : Value) (l : List Ru) (hrow : RRow w v l) (hn : l.length ≤ 1000) (hS : ∀ x ∈ l, x.Small) (out : List UInt8) :
    Calls Tryz.prog 76 #[v, .string (ba out)] w fun e w' => ∃ f : Nat × Int, e = .returned (.agg #[.int .i64 (f.1 : Nat), .int .i64 f.2]) ∧ OfFault l out f ∧ Below w.heap.size w w' := by
  have hB0 : Below w.heap.size w (w.alloc (.cells #[.int .i64 0, .int .i64 0] 75)) := (Below.refl _ w).alloc (Nat.le_refl _) _
  have hr0 : (w.alloc (.cells #[.int .i64 0, .int .i64 0] 75)).heap[w.heap.size]? = some (.cells #[.int .i64 0, .int .i64 0] 75 (0, 0)) := by
    show (w.heap.push _)[w.heap.size]? = _
    simp
  have HB0 := hid1 hB0
  have HR0 := hid1 hr0
  have HN := hid1 fun (V : World) (g : Below w.heap.size w V) (vo : Value) (hvo : IRow V vo [out]) => BuildFault_calls v l (hrow.below g) hn hS vo [out] hvo (by simp)
  have HF := hid1 fun (V : World) (g : Below w.heap.size w V) => SheetFault_calls v l (hrow.below g) hn hS
  have HB := hid1 fun (V : World) (c : Int) => rBare_calls V c
  have hfd : ∀ (V : World) (a b : Int), (Instr.field 75 (.agg #[.int .i64 a, .int .i64 b]) 0).run Tryz.prog V = .ok (.int .i64 a) V := fault_field
  have gA : Below (w.alloc (.cells #[.int .i64 0, .int .i64 0] 75)).heap.size (w.alloc (.cells #[.int .i64 0, .int .i64 0] 75)) ((w.alloc (.cells #[.int .i64 0, .int .i64 0] 75)).alloc (.cells #[.string (ba out)] 9)) := (Below.refl _ _).alloc (Nat.le_refl _) _
  have G2 := below_then hB0 gA
  have HX : Hid (IRow ((w.alloc (.cells #[.int .i64 0, .int .i64 0] 75)).alloc (.cells #[.string (ba out)] 9)) (.slice (some ⟨w.heap.size + 1, 0, none⟩) 1 1) [out]) := hid1 ⟨_, 1, rfl, fun _ => ⟨_, 0, rfl, by simp, fun j hj => by
    obtain rfl : j = 0 := by simpa using hj
    simp⟩⟩
  have HN1 := hid1 (HN.out _ G2 _ HX.out)
  have HRR := hid1 (row_below hr0 gA)
  clear hrow hB0 hr0 HN HX gA
  go_enter Tryz.func76, Tryz.ntmps76
  go_wp2_with fail
  refine HN1.out.mono ?_
  rintro e w1 ⟨f, rfl, hNF, g1⟩
  have X1 := g1
  have G3 := below_then G2 g1
  clear HN1
  rcases hNF with ⟨hf, rfl⟩ | ⟨hf, k, hk, h1, _, rfl⟩ | ⟨hf, h1, h2, rfl⟩ | ⟨hf, h1, h2, rfl⟩
  · have HQ0 : Hid (OfFault l out (Ru.fault l)) := hid1 (.inl ⟨hf, rfl⟩)
    obtain ⟨fc, fa, hfe⟩ : ∃ fc fa, Ru.fault l = (fc, fa) := ⟨_, _, rfl⟩
    rw [hfe] at HQ0 HF hf
    have hc0 : fc ≠ 0 := hf
    rw [hfe]
    clear hfe hf
    simp only at HF ⊢
    by_cases h6 : fc = 6
    · subst h6
      by_cases ha : fa = 0
      · subst ha
        have HQ : Hid (OfFault l out (6, 0)) := hid1 HQ0.out
        have a1 : Below w1.heap.size w1 (w1.alloc (.cells #[.int .i64 6, .int .i64 (0)] 75)) := (Below.refl _ w1).alloc (Nat.le_refl _) _
        have X2 := below_then X1 a1
        have G4 := below_then G3 a1
        have b0 : (w1.alloc (.cells #[.int .i64 6, .int .i64 (0)] 75)).cell? ⟨w1.heap.size, 0, none⟩ = some (.int .i64 6) := by simp
        have b1 : (w1.alloc (.cells #[.int .i64 6, .int .i64 (0)] 75)).cell? ⟨w1.heap.size, 1, none⟩ = some (.int .i64 (0)) := by simp
        have HSh := hid1 (HF.out _ G4)
        clear HF
        go_wp2_with fail
        refine HSh.out.mono ?_
        rintro e w2 ⟨rfl, g2⟩
        have G5 := below_then G4 g2
        have X3 := below_then X2 g2
        have c0 := cell_below' b0 g2
        have c1 := cell_below' b1 g2
        clear HSh
        have rr := row_below HRR.out X3
        have z0 := cell_of_row (j := 0) rr rfl
        have z1 := cell_of_row (j := 1) rr rfl
        have f0 : w2.frozen? ⟨w.heap.size, 0, none⟩ = false := by simp [World.frozen?, rr]
        have f1 : w2.frozen? ⟨w.heap.size, 1, none⟩ = false := by simp [World.frozen?, rr]
        have qq := hid1 (flt_cells rr (.int .i64 6) (.int .i64 (0)))
        clear rr
        go_wp2
        refine bodyPost_ret (v := .agg #[.int .i64 6, .int .i64 (0)]) ?_ rfl ⟨(6, 0), rfl, HQ.out, ?_⟩
        · obtain ⟨q0, q1⟩ := qq.out
          simp [results, Tryz.f76, go_sem, q0, q1]
        · exact (G5.setCell (p := ⟨w.heap.size, 0, none⟩) (Nat.le_refl _) _).setCell (p := ⟨w.heap.size, 1, none⟩) (Nat.le_refl _) _
      · have e1 : (fa == 0) = false := by simpa using ha
        have HQ : Hid (OfFault l out (6, fa)) := hid1 HQ0.out
        clear HF
        have a1 : Below w1.heap.size w1 (w1.alloc (.cells #[.int .i64 6, .int .i64 (fa)] 75)) := (Below.refl _ w1).alloc (Nat.le_refl _) _
        have X2 := below_then X1 a1
        have G4 := below_then G3 a1
        have b0 : (w1.alloc (.cells #[.int .i64 6, .int .i64 (fa)] 75)).cell? ⟨w1.heap.size, 0, none⟩ = some (.int .i64 6) := by simp
        have b1 : (w1.alloc (.cells #[.int .i64 6, .int .i64 (fa)] 75)).cell? ⟨w1.heap.size, 1, none⟩ = some (.int .i64 (fa)) := by simp
        have rr := row_below HRR.out X2
        have z0 := cell_of_row (j := 0) rr rfl
        have z1 := cell_of_row (j := 1) rr rfl
        have f0 : (w1.alloc (.cells #[.int .i64 6, .int .i64 (fa)] 75)).frozen? ⟨w.heap.size, 0, none⟩ = false := by simp [World.frozen?, rr]
        have f1 : (w1.alloc (.cells #[.int .i64 6, .int .i64 (fa)] 75)).frozen? ⟨w.heap.size, 1, none⟩ = false := by simp [World.frozen?, rr]
        have qq := hid1 (flt_cells rr (.int .i64 6) (.int .i64 (fa)))
        clear rr
        go_wp2
        refine bodyPost_ret (v := .agg #[.int .i64 6, .int .i64 (fa)]) ?_ rfl ⟨(6, fa), rfl, HQ.out, ?_⟩
        · obtain ⟨q0, q1⟩ := qq.out
          simp [results, Tryz.f76, go_sem, q0, q1]
        · exact (G4.setCell (p := ⟨w.heap.size, 0, none⟩) (Nat.le_refl _) _).setCell (p := ⟨w.heap.size, 1, none⟩) (Nat.le_refl _) _
    · have e6 : ((fc : Int) == 6) = false := by simp; omega
      have HQ : Hid (OfFault l out (fc, fa)) := hid1 HQ0.out
      clear HF
      have a1 : Below w1.heap.size w1 (w1.alloc (.cells #[.int .i64 (fc : Nat), .int .i64 (fa)] 75)) := (Below.refl _ w1).alloc (Nat.le_refl _) _
      have X2 := below_then X1 a1
      have G4 := below_then G3 a1
      have b0 : (w1.alloc (.cells #[.int .i64 (fc : Nat), .int .i64 (fa)] 75)).cell? ⟨w1.heap.size, 0, none⟩ = some (.int .i64 (fc : Nat)) := by simp
      have b1 : (w1.alloc (.cells #[.int .i64 (fc : Nat), .int .i64 (fa)] 75)).cell? ⟨w1.heap.size, 1, none⟩ = some (.int .i64 (fa)) := by simp
      have rr := row_below HRR.out X2
      have z0 := cell_of_row (j := 0) rr rfl
      have z1 := cell_of_row (j := 1) rr rfl
      have f0 : (w1.alloc (.cells #[.int .i64 (fc : Nat), .int .i64 (fa)] 75)).frozen? ⟨w.heap.size, 0, none⟩ = false := by simp [World.frozen?, rr]
      have f1 : (w1.alloc (.cells #[.int .i64 (fc : Nat), .int .i64 (fa)] 75)).frozen? ⟨w.heap.size, 1, none⟩ = false := by simp [World.frozen?, rr]
      have qq := hid1 (flt_cells rr (.int .i64 (fc : Nat)) (.int .i64 (fa)))
      clear rr
      go_wp2
      refine bodyPost_ret (v := .agg #[.int .i64 (fc : Nat), .int .i64 (fa)]) ?_ rfl ⟨(fc, fa), rfl, HQ.out, ?_⟩
      · obtain ⟨q0, q1⟩ := qq.out
        simp [results, Tryz.f76, go_sem, q0, q1]
      · exact (G4.setCell (p := ⟨w.heap.size, 0, none⟩) (Nat.le_refl _) _).setCell (p := ⟨w.heap.size, 1, none⟩) (Nat.le_refl _) _
  · obtain rfl : k = 0 := by simpa using hk
    have hfz := Ru.fault_zero hf
    have HQ : Hid (OfFault l out (6, -1)) := hid1 (.inr (.inl ⟨hf, fun x hx => h1 x hx, rfl⟩))
    clear h1
    have a1 : Below w1.heap.size w1 (w1.alloc (.cells #[.int .i64 6, .int .i64 (0)] 75)) := (Below.refl _ w1).alloc (Nat.le_refl _) _
    have X2 := below_then X1 a1
    have G4 := below_then G3 a1
    have b0 : (w1.alloc (.cells #[.int .i64 6, .int .i64 (0)] 75)).cell? ⟨w1.heap.size, 0, none⟩ = some (.int .i64 6) := by simp
    have b1 : (w1.alloc (.cells #[.int .i64 6, .int .i64 (0)] 75)).cell? ⟨w1.heap.size, 1, none⟩ = some (.int .i64 (0)) := by simp
    have HSh := hid1 (HF.out _ G4)
    rw [hfz] at HSh
    clear HF
    go_wp2_with fail
    refine HSh.out.mono ?_
    rintro e w2 ⟨rfl, g2⟩
    have G5 := below_then G4 g2
    have X3 := below_then X2 g2
    have c0 := cell_below' b0 g2
    have c1 := cell_below' b1 g2
    clear HSh
    have HBn := hid1 (HB.out w2 6)
    go_wp2_with fail
    refine HBn.out.mono ?_
    rintro e w3 ⟨rfl, g3⟩
    have G6 := below_then G5 g3
    have X4 := below_then X3 g3
    clear HBn
    have rr := row_below HRR.out X4
    have z0 := cell_of_row (j := 0) rr rfl
    have z1 := cell_of_row (j := 1) rr rfl
    have f0 : w3.frozen? ⟨w.heap.size, 0, none⟩ = false := by simp [World.frozen?, rr]
    have f1 : w3.frozen? ⟨w.heap.size, 1, none⟩ = false := by simp [World.frozen?, rr]
    have qq := hid1 (flt_cells rr (.int .i64 6) (.int .i64 (-1)))
    clear rr
    go_wp2
    refine bodyPost_ret (v := .agg #[.int .i64 6, .int .i64 (-1)]) ?_ rfl ⟨(6, -1), rfl, HQ.out, ?_⟩
    · obtain ⟨q0, q1⟩ := qq.out
      simp [results, Tryz.f76, go_sem, q0, q1]
    · exact (G6.setCell (p := ⟨w.heap.size, 0, none⟩) (Nat.le_refl _) _).setCell (p := ⟨w.heap.size, 1, none⟩) (Nat.le_refl _) _
  · have HQ : Hid (OfFault l out (9, -1)) := hid1 (.inr (.inr (.inl ⟨hf, h1 0 (by simp), h2, rfl⟩)))
    clear h1 h2 HF
    have a1 : Below w1.heap.size w1 (w1.alloc (.cells #[.int .i64 9, .int .i64 (-1)] 75)) := (Below.refl _ w1).alloc (Nat.le_refl _) _
    have X2 := below_then X1 a1
    have G4 := below_then G3 a1
    have b0 : (w1.alloc (.cells #[.int .i64 9, .int .i64 (-1)] 75)).cell? ⟨w1.heap.size, 0, none⟩ = some (.int .i64 9) := by simp
    have b1 : (w1.alloc (.cells #[.int .i64 9, .int .i64 (-1)] 75)).cell? ⟨w1.heap.size, 1, none⟩ = some (.int .i64 (-1)) := by simp
    have rr := row_below HRR.out X2
    have z0 := cell_of_row (j := 0) rr rfl
    have z1 := cell_of_row (j := 1) rr rfl
    have f0 : (w1.alloc (.cells #[.int .i64 9, .int .i64 (-1)] 75)).frozen? ⟨w.heap.size, 0, none⟩ = false := by simp [World.frozen?, rr]
    have f1 : (w1.alloc (.cells #[.int .i64 9, .int .i64 (-1)] 75)).frozen? ⟨w.heap.size, 1, none⟩ = false := by simp [World.frozen?, rr]
    have qq := hid1 (flt_cells rr (.int .i64 9) (.int .i64 (-1)))
    clear rr
    go_wp2
    refine bodyPost_ret (v := .agg #[.int .i64 9, .int .i64 (-1)]) ?_ rfl ⟨(9, -1), rfl, HQ.out, ?_⟩
    · obtain ⟨q0, q1⟩ := qq.out
      simp [results, Tryz.f76, go_sem, q0, q1]
    · exact (G4.setCell (p := ⟨w.heap.size, 0, none⟩) (Nat.le_refl _) _).setCell (p := ⟨w.heap.size, 1, none⟩) (Nat.le_refl _) _
  · have HQ : Hid (OfFault l out (0, -1)) := hid1 (.inr (.inr (.inr ⟨hf, h1 0 (by simp), h2, rfl⟩)))
    clear h1 h2 HF
    have a1 : Below w1.heap.size w1 (w1.alloc (.cells #[.int .i64 0, .int .i64 (-1)] 75)) := (Below.refl _ w1).alloc (Nat.le_refl _) _
    have X2 := below_then X1 a1
    have G4 := below_then G3 a1
    have b0 : (w1.alloc (.cells #[.int .i64 0, .int .i64 (-1)] 75)).cell? ⟨w1.heap.size, 0, none⟩ = some (.int .i64 0) := by simp
    have b1 : (w1.alloc (.cells #[.int .i64 0, .int .i64 (-1)] 75)).cell? ⟨w1.heap.size, 1, none⟩ = some (.int .i64 (-1)) := by simp
    have rr := row_below HRR.out X2
    have z0 := cell_of_row (j := 0) rr rfl
    have z1 := cell_of_row (j := 1) rr rfl
    have f0 : (w1.alloc (.cells #[.int .i64 0, .int .i64 (-1)] 75)).frozen? ⟨w.heap.size, 0, none⟩ = false := by simp [World.frozen?, rr]
    have f1 : (w1.alloc (.cells #[.int .i64 0, .int .i64 (-1)] 75)).frozen? ⟨w.heap.size, 1, none⟩ = false := by simp [World.frozen?, rr]
    have qq := hid1 (flt_cells rr (.int .i64 0) (.int .i64 (-1)))
    clear rr
    go_wp2
    refine bodyPost_ret (v := .agg #[.int .i64 0, .int .i64 (-1)]) ?_ rfl ⟨(0, -1), rfl, HQ.out, ?_⟩
    · obtain ⟨q0, q1⟩ := qq.out
      simp [results, Tryz.f76, go_sem, q0, q1]
    · exact (G4.setCell (p := ⟨w.heap.size, 0, none⟩) (Nat.le_refl _) _).setCell (p := ⟨w.heap.size, 1, none⟩) (Nat.le_refl _) _
end Go.Proofs.YtmhipgompplkdaaGreatDoor
namespace Go.Proofs.YtmhipgompplkdaaGreatDoor
open Go.RowKit Go.Shelf Go.Lib
def PlRow (W : World) (g n : Nat) (f : Nat → Value) : Prop := g < W.heap.size ∧ ∀ j, j < n → W.cell? ⟨g, j, none⟩ = some (f j) ∧ W.frozen? ⟨g, j, none⟩ = false
def upd (f : Nat → Value) (i : Nat) (v : Value) : Nat → Value := fun j => if j = i then v else f j
theorem upd_same (f : Nat → Value) (i : Nat) (v : Value) : upd f i v i = v := if_pos rfl
theorem upd_other {f : Nat → Value} {i j : Nat} {v : Value} (h : j ≠ i) : upd f i v j = f j := if_neg h
theorem PlRow.same {W W' : World} {g n : Nat} {f : Nat → Value} (h : PlRow W g n f) (hz : W.heap.size ≤ W'.heap.size) (hb : W'.heap[g]? = W.heap[g]?) : PlRow W' g n f :=
  ⟨Nat.lt_of_lt_of_le h.1 hz, fun j hj => ⟨(World.cell?_of_block (a := ⟨g, j, none⟩) hb).trans (h.2 j hj).1, (World.frozen?_of_block (a := ⟨g, j, none⟩) hb).trans (h.2 j hj).2⟩⟩
theorem PlRow.set {W : World} {g n : Nat} {f : Nat → Value} (h : PlRow W g n f) {i : Nat} (hi : i < n) (v : Value) : PlRow (W.setCell ⟨g, i, none⟩ v) g n (upd f i v) := by
  refine ⟨by simpa using h.1, fun j hj => ⟨?_, ?_⟩⟩
  · by_cases e : j = i
    · subst e
      rw [upd_same]
      exact World.cell?_setCell_same' _ _ _ (by rw [(h.2 j hj).1]; rfl)
    · rw [upd_other e, World.cell?_setCell_other]
      · exact (h.2 j hj).1
      · simp
  · rw [World.frozen?_setCell]
    exact (h.2 j hj).2
theorem size_setCell (W : World) (a : Addr) (v : Value) : (W.setCell a v).heap.size = W.heap.size := by simp
theorem below_setCell {B : Nat} {w W : World} (h : Below B w W) {g i : Nat} (hg : B ≤ g) (v : Value) : Below B w (W.setCell ⟨g, i, none⟩ v) :=
  ⟨h.os, h.tape, h.output, by rw [size_setCell]; exact h.size, fun j hj => (Below.heap_setCell W ⟨g, i, none⟩ v j (by show j ≠ g; omega)).trans (h.block j hj)⟩
structure MBr (w0 W : World) (mb tb : Nat) (tv lv cv : Value) (gs go gh gw : Nat) (l : List Ru) (fs : Tf.Fs) (vS vO vH vW : Nat → Value) : Prop where
  base : Below w0.heap.size w0 W
  rules : RRow w0 lv l
  low : w0.heap.size ≤ mb ∧ w0.heap.size ≤ gs ∧ w0.heap.size ≤ go ∧ w0.heap.size ≤ gh ∧ w0.heap.size ≤ gw
  c0 : W.cell? ⟨mb, 0, none⟩ = some (Ptr tb)
  c1 : W.cell? ⟨mb, 1, none⟩ = some lv
  c2 : W.cell? ⟨mb, 2, none⟩ = some (.slice (some ⟨gs, 0, none⟩) l.length l.length)
  c3 : W.cell? ⟨mb, 3, none⟩ = some (.slice (some ⟨go, 0, none⟩) l.length l.length)
  c4 : W.cell? ⟨mb, 4, none⟩ = some (.slice (some ⟨gh, 0, none⟩) l.length l.length)
  c5 : W.cell? ⟨mb, 5, none⟩ = some (.slice (some ⟨gw, 0, none⟩) l.length l.length)
  c6 : W.cell? ⟨mb, 6, none⟩ = some cv
  rs : PlRow W gs l.length vS
  ro : PlRow W go l.length vO
  rh : PlRow W gh l.length vH
  rw : PlRow W gw l.length vW
  tree : RTreeAt w0.heap.size W tb fs tv
  n1 : gs ≠ go ∧ gs ≠ gh ∧ gs ≠ gw ∧ go ≠ gh ∧ go ≠ gw ∧ gh ≠ gw
  nm : mb ≠ gs ∧ mb ≠ go ∧ mb ≠ gh ∧ mb ≠ gw
  nt : ∀ j, (j = tb ∨ some j = tv.ownBlock) → j ≠ gs ∧ j ≠ go ∧ j ≠ gh ∧ j ≠ gw
section
variable {w0 W W' : World} {mb tb : Nat} {tv lv cv : Value} {gs go gh gw : Nat} {l : List Ru} {fs : Tf.Fs} {vS vO vH vW : Nat → Value}
def MBlk (mb tb : Nat) (tv : Value) (gs go gh gw : Nat) (j : Nat) : Prop := j = mb ∨ j = tb ∨ some j = tv.ownBlock ∨ j = gs ∨ j = go ∨ j = gh ∨ j = gw
theorem MBr.lt (h : MBr w0 W mb tb tv lv cv gs go gh gw l fs vS vO vH vW) : ∀ j, MBlk mb tb tv gs go gh gw j → j < W.heap.size := by
  rintro j (rfl | rfl | hj | rfl | rfl | rfl | rfl)
  · exact lt_of_cell h.c0
  · exact h.tree.lt
  · exact (h.tree.row.lt j hj.symm).2
  · exact h.rs.1
  · exact h.ro.1
  · exact h.rh.1
  · exact h.rw.1
theorem MBr.ge (h : MBr w0 W mb tb tv lv cv gs go gh gw l fs vS vO vH vW) : ∀ j, MBlk mb tb tv gs go gh gw j → w0.heap.size ≤ j := by
  obtain ⟨h1, h2, h3, h4, h5⟩ := h.low
  rintro j (rfl | rfl | hj | rfl | rfl | rfl | rfl)
  · exact h1
  · exact h.tree.low
  · exact (h.tree.row.lt j hj.symm).1
  · exact h2
  · exact h3
  · exact h4
  · exact h5
theorem RTreeAt.same {B : Nat} (h : RTreeAt B W tb fs tv) (hb : ∀ j, (j = tb ∨ some j = tv.ownBlock) → W'.heap[j]? = W.heap[j]?) : RTreeAt B W' tb fs tv := by
  have bt := hb tb (.inl rfl)
  refine ⟨h.low, (World.cell?_of_block (a := ⟨tb, 0, none⟩) bt).trans h.cell, (World.frozen?_of_block (a := ⟨tb, 0, none⟩) bt).trans h.free, ⟨h.row.1, ?_⟩, h.apart, h.nil⟩
  rcases h.row.2 with h1 | ⟨g, cap, cur, e, h0, hg, h2⟩
  · exact .inl h1
  · exact .inr ⟨g, cap, cur, e, h0, (hb g (.inr (by rw [e]; rfl))).trans hg, h2⟩
theorem MBr.same (h : MBr w0 W mb tb tv lv cv gs go gh gw l fs vS vO vH vW) (hB : Below w0.heap.size w0 W') (hz : W.heap.size ≤ W'.heap.size) (hb : ∀ j, MBlk mb tb tv gs go gh gw j → W'.heap[j]? = W.heap[j]?) : MBr w0 W' mb tb tv lv cv gs go gh gw l fs vS vO vH vW := by
  have bm := hb mb (.inl rfl)
  have cc : ∀ {i : Nat} {u : Value}, W.cell? ⟨mb, i, none⟩ = some u → W'.cell? ⟨mb, i, none⟩ = some u := fun {i u} hc => (World.cell?_of_block (a := ⟨mb, i, none⟩) bm).trans hc
  exact ⟨hB, h.rules, h.low, cc h.c0, cc h.c1, cc h.c2, cc h.c3, cc h.c4, cc h.c5, cc h.c6, h.rs.same hz (hb gs (.inr (.inr (.inr (.inl rfl))))), h.ro.same hz (hb go (.inr (.inr (.inr (.inr (.inl rfl)))))), h.rh.same hz (hb gh (.inr (.inr (.inr (.inr (.inr (.inl rfl))))))), h.rw.same hz (hb gw (.inr (.inr (.inr (.inr (.inr (.inr rfl))))))), h.tree.same (fun j hj => hb j (hj.elim (fun e => .inr (.inl e)) fun e => .inr (.inr (.inl e)))), h.n1, h.nm, h.nt⟩
theorem MBr.below (h : MBr w0 W mb tb tv lv cv gs go gh gw l fs vS vO vH vW) (hb : Below W.heap.size W W') : MBr w0 W' mb tb tv lv cv gs go gh gw l fs vS vO vH vW :=
  h.same (h.base.trans (hb.mono h.base.size)) hb.size fun j hj => hb.block j (h.lt j hj)
theorem MBr.row (h : MBr w0 W mb tb tv lv cv gs go gh gw l fs vS vO vH vW) : RRow W lv l := h.rules.below h.base
theorem MBr.store (h : MBr w0 W mb tb tv lv cv gs go gh gw l fs vS vO vH vW) {g i : Nat} (hg : g = gs ∨ g = go ∨ g = gh ∨ g = gw) (v : Value) {vS' vO' vH' vW' : Nat → Value}
    (rs : PlRow (W.setCell ⟨g, i, none⟩ v) gs l.length vS') (ro : PlRow (W.setCell ⟨g, i, none⟩ v) go l.length vO') (rh : PlRow (W.setCell ⟨g, i, none⟩ v) gh l.length vH') (rw : PlRow (W.setCell ⟨g, i, none⟩ v) gw l.length vW') :
    MBr w0 (W.setCell ⟨g, i, none⟩ v) mb tb tv lv cv gs go gh gw l fs vS' vO' vH' vW' := by
  have hS : ∀ c, c ≠ g → (W.setCell ⟨g, i, none⟩ v).heap[c]? = W.heap[c]? := fun c hc => Below.heap_setCell W ⟨g, i, none⟩ v c hc
  obtain ⟨l1, l2, l3, l4, l5⟩ := h.low
  have hlow : w0.heap.size ≤ g := by rcases hg with e | e | e | e <;> omega
  obtain ⟨m1, m2, m3, m4⟩ := h.nm
  have bm := hS mb (by rcases hg with e | e | e | e <;> omega)
  have cc : ∀ {j : Nat} {u : Value}, W.cell? ⟨mb, j, none⟩ = some u → (W.setCell ⟨g, i, none⟩ v).cell? ⟨mb, j, none⟩ = some u := fun {j u} hc => (World.cell?_of_block (a := ⟨mb, j, none⟩) bm).trans hc
  refine ⟨below_setCell h.base hlow v, h.rules, h.low, cc h.c0, cc h.c1, cc h.c2, cc h.c3, cc h.c4, cc h.c5, cc h.c6, rs, ro, rh, rw, h.tree.same (fun j hj => hS j ?_), h.n1, h.nm, h.nt⟩
  obtain ⟨t1, t2, t3, t4⟩ := h.nt j hj
  rcases hg with e | e | e | e <;> omega
theorem PlRow.other {g g' i n : Nat} {f : Nat → Value} (h : PlRow W g n f) (hg : g ≠ g') (v : Value) : PlRow (W.setCell ⟨g', i, none⟩ v) g n f :=
  h.same (by rw [size_setCell]; exact Nat.le_refl _) (Below.heap_setCell W ⟨g', i, none⟩ v g hg)
theorem MBr.setS (h : MBr w0 W mb tb tv lv cv gs go gh gw l fs vS vO vH vW) {i : Nat} (hi : i < l.length) (v : Value) : MBr w0 (W.setCell ⟨gs, i, none⟩ v) mb tb tv lv cv gs go gh gw l fs (upd vS i v) vO vH vW := by
  obtain ⟨a1, a2, a3, a4, a5, a6⟩ := h.n1
  exact h.store (.inl rfl) v (h.rs.set hi v) (h.ro.other (by omega) v) (h.rh.other (by omega) v) (h.rw.other (by omega) v)
end
end Go.Proofs.YtmhipgompplkdaaGreatDoor
namespace Go.Proofs.YtmhipgompplkdaaGreatDoor
open Go.RowKit Go.Shelf Go.Lib
abbrev FailO (gs gw : Nat) (W w : World) : Prop := Only (fun j => j = gs ∨ j = gw) W w
theorem FailO.drew {gs gw : Nat} {W w : World} (h : FailO gs gw W w) (q : Nat) : FailO gs gw W (w.drewN q) := ⟨h.os, h.tape, h.output, h.size, h.block⟩
theorem FailO.set {gs gw : Nat} {W w : World} (h : FailO gs gw W w) (i : Nat) (v : Value) : FailO gs gw W (w.setCell ⟨gs, i, none⟩ v) :=
  ⟨h.os, h.tape, h.output, by rw [size_setCell]; exact h.size, fun j hj hn => (Below.heap_setCell w ⟨gs, i, none⟩ v j (fun e => hn (.inl e))).trans (h.block j hj hn)⟩
theorem MBr.drew {w0 W : World} {mb tb : Nat} {tv lv cv : Value} {gs go gh gw : Nat} {l : List Ru} {fs : Tf.Fs} {vS vO vH vW : Nat → Value} (h : MBr w0 W mb tb tv lv cv gs go gh gw l fs vS vO vH vW) (q : Nat) : MBr w0 (W.drewN q) mb tb tv lv cv gs go gh gw l fs vS vO vH vW :=
  h.same (below_draws h.base q) (Nat.le_refl _) fun _ _ => rfl
end Go.Proofs.YtmhipgompplkdaaGreatDoor
namespace Go.Proofs.YtmhipgompplkdaaGreatDoor
open Go.RowKit Go.Shelf Go.Lib
def ActTells (act : Bf.Act) : Prop := ∀ (W : World) nm wd v ls, IRow W v ls → wd.length ≤ 1000000 → (∀ x ∈ ls, x.length ≤ 3000) → Calls Tryz.prog 35 #[.string (ba nm), .string (ba wd), v] W fun e w' => e = .returned (.tuple #[.string (ba (act nm wd ls).1), .int .i64 ((act nm wd ls).2 : Nat)]) ∧ Below W.heap.size W w'
def MCa (T : Nat → Prop) (W : World) (cv : Value) : Bf.Ca → Prop
  | none => cv = .pointer none ∧ ∀ j, ¬ T j
  | some (m, l) => (∃ p, cv = .pointer (some p)) ∧ MAt T W cv m l
theorem MCa.same {T : Nat → Prop} {W W' : World} {cv : Value} {c : Bf.Ca} (h : MCa T W cv c) (hz : W.heap.size ≤ W'.heap.size) (hb : ∀ k, T k → W'.heap[k]? = W.heap[k]?) : MCa T W' cv c := by
  match c, h with
  | none, h => exact h
  | some (m, l), h => exact ⟨h.1, h.2.same hz hb⟩
theorem MCa.lt {T : Nat → Prop} {W : World} {cv : Value} {c : Bf.Ca} (h : MCa T W cv c) : ∀ k, T k → k < W.heap.size := by
  match c, h with
  | none, h => exact fun k hk => absurd hk (h.2 k)
  | some (m, l), h => exact h.2.lt
theorem MCa.below {T : Nat → Prop} {W W' : World} {cv : Value} {c : Bf.Ca} (h : MCa T W cv c) (hb : Below W.heap.size W W') : MCa T W' cv c := h.same hb.size fun k hk => hb.block k (h.lt k hk)
theorem MCa.fail {W V w' : World} {mb tb : Nat} {tv cv : Value} {gs go gh gw : Nat} {T : Nat → Prop} {c : Bf.Ca} (h : MCa T W cv c) (hT : ∀ j, MBlk mb tb tv gs go gh gw j → ¬ T j) (g : Below W.heap.size W V) (o : FailO gs gw V w') : MCa T w' cv c :=
  (h.below g).same o.size fun k hk => o.block k ((h.below g).lt k hk) fun x => hT k (x.elim (fun e => .inr (.inr (.inr (.inl e)))) fun e => .inr (.inr (.inr (.inr (.inr (.inr e)))))) hk
theorem MCa.stored {W V : World} {mb tb : Nat} {tv cv : Value} {gs go gh gw : Nat} {T : Nat → Prop} {c : Bf.Ca} (h : MCa T W cv c) (hT : ∀ j, MBlk mb tb tv gs go gh gw j → ¬ T j) (g : Below W.heap.size W V) {a b i : Nat} {u v : Value} (ha : a = gs ∨ a = go ∨ a = gh ∨ a = gw) (hb : b = gs ∨ b = go ∨ b = gh ∨ b = gw) : MCa T ((V.setCell ⟨a, i, none⟩ u).setCell ⟨b, i, none⟩ v) cv c := by
  have key : ∀ x j, (x = gs ∨ x = go ∨ x = gh ∨ x = gw) → T j → j ≠ x := fun x j hx ht e => hT j (by subst e; exact .inr (.inr (.inr hx))) ht
  exact (h.below g).same (by rw [size_setCell, size_setCell]; exact Nat.le_refl _) fun k hk => (Below.heap_setCell _ ⟨b, i, none⟩ v k (key b k hb hk)).trans (Below.heap_setCell V ⟨a, i, none⟩ u k (key a k ha hk))
theorem get_own {fs : Tf.Fs} (hr : Tf.Rises fs) {k : Nat} (hk : k < fs.length) : Tf.get fs fs[k].1 = some fs[k].2 := by
  unfold Tf.get
  have : fs.find? (fun f => f.1 == fs[k].1) = some fs[k] := by
    rw [List.find?_eq_some_iff_getElem]
    refine ⟨by simp, k, hk, rfl, fun j hj => ?_⟩
    have h1 := List.pairwise_iff_getElem.1 hr j k (by omega) hk hj
    simp only [Bool.not_eq_true', beq_eq_false_iff_ne]
    intro e
    rw [e, WideAt.bytes_irrefl] at h1
    cases h1
  rw [this]
  rfl
theorem rises_once {fs : Tf.Fs} (hr : Tf.Rises fs) {j k : Nat} (hj : j < fs.length) (hk : k < fs.length) (h : fs[j].1 = fs[k].1) : j = k := by
  rcases Nat.lt_trichotomy j k with h1 | h1 | h1
  · have := List.pairwise_iff_getElem.1 hr j k hj hk h1
    rw [h, WideAt.bytes_irrefl] at this
    cases this
  · exact h1
  · have := List.pairwise_iff_getElem.1 hr k j hk hj h1
    rw [h, WideAt.bytes_irrefl] at this
    cases this
theorem rFind_none {B : Nat} {w : World} {tb : Nat} {fs : Tf.Fs} {v : Value} (h : RTreeAt B w tb fs v) (hn : fs.length ≤ 1000) (hr : Tf.Rises fs) {p : List UInt8} (hg : Tf.get fs p = none) :
    Calls Tryz.prog 28 #[Ptr tb, .string (ba p)] w fun e w' => e = .returned (.int .i64 (-1)) ∧ w' = w := by
  refine (rFind_calls h hn p).mono ?_
  rintro e w' ⟨⟨k, hk, rfl, e1⟩ | ⟨_, rfl⟩, rfl⟩
  · have := get_own hr hk
    rw [e1, hg] at this
    cases this
  · exact ⟨rfl, rfl⟩
theorem rFind_some {B : Nat} {w : World} {tb : Nat} {fs : Tf.Fs} {v : Value} (h : RTreeAt B w tb fs v) (hn : fs.length ≤ 1000) (hr : Tf.Rises fs) {m : Nat} (hm : m < fs.length) :
    Calls Tryz.prog 28 #[Ptr tb, .string (ba fs[m].1)] w fun e w' => e = .returned (.int .i64 (m : Nat)) ∧ w' = w := by
  refine (rFind_calls h hn fs[m].1).mono ?_
  rintro e w' ⟨⟨k, hk, rfl, e1⟩ | ⟨h1, rfl⟩, rfl⟩
  · obtain rfl := rises_once hr hk hm e1
    exact ⟨rfl, rfl⟩
  · exfalso
    unfold Tf.hasP at h1
    rw [List.any_eq_false] at h1
    exact h1 fs[m] (List.getElem_mem hm) (by simp)
theorem get_at_some {fs : Tf.Fs} {p b : List UInt8} (h : Tf.get fs p = some b) : ∃ m, ∃ hm : m < fs.length, fs[m].1 = p ∧ fs[m].2 = b := by
  obtain ⟨m, hm, e⟩ := List.getElem_of_mem (Bf.get_mem h)
  exact ⟨m, hm, by rw [e], by rw [e]⟩
namespace Bf
def acc (d : Bd) (o : List (List UInt8)) (x : List UInt8) (j : Nat) : List (List UInt8) := match mkr d.l x with | some m => if m < j then o ++ [(d.st m).out] else o | none => o
end Bf
end Go.Proofs.YtmhipgompplkdaaGreatDoor
