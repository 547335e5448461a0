/- The document's answer's Remove and Paths: the walks. -/
import Derived.Test.YtpkkhabiheobnaaGreatDoorRPutK
namespace Go.Proofs.YtpkkhabiheobnaaGreatDoor
open Go.RowKit Go.Shelf Go.Lib Go.Maps
open Tf (Fs)

theorem del_at {fs : Fs} (hr : Tf.Rises fs) {k : Nat} (hk : k < fs.length) : Tf.del fs fs[k].1 = fs.take k ++ fs.drop (k + 1) := by
  have e : fs = fs.take k ++ fs[k] :: fs.drop (k + 1) := by rw [List.getElem_cons_drop, List.take_append_drop]
  unfold Tf.del
  conv => lhs; arg 2; rw [e]
  rw [List.filter_append, List.filter_cons_of_neg (by simp)]
  congr 1
  · rw [List.filter_eq_self]
    intro f hf
    obtain ⟨j, hj, rfl⟩ := List.mem_iff_getElem.1 hf
    rw [List.length_take] at hj
    rw [List.getElem_take]
    simpa using rises_ne hr (by omega) hk (by omega)
  · rw [List.filter_eq_self]
    intro f hf
    obtain ⟨j, hj, rfl⟩ := List.mem_iff_getElem.1 hf
    rw [List.length_drop] at hj
    rw [List.getElem_drop]
    simpa using rises_ne hr (by omega) hk (by omega)

theorem rRemove_no {B : Nat} {w : World} {tb : Nat} {fs : Fs} {v : Value} (h : RTreeAt B w tb fs v) (hfew : fs.length ≤ 1000) (p : List UInt8) (ht : Tf.hasP fs p = false) :
    Calls Tryz.prog 18 #[Ptr tb, .string (ba p)] w fun e w' => e = .returned (.int .i64 6) ∧ w' = w := by
  have HF := rFind_calls h hfew p
  go_enter Tryz.func18, Tryz.ntmps18
  go_wp2_with fail
  refine HF.mono ?_
  rintro e w1 ⟨hres, rfl⟩
  rcases hres with ⟨k', hk', _, hp'⟩ | ⟨_, rfl⟩
  · exfalso
    have : Tf.hasP fs p = true := List.any_eq_true.2 ⟨fs[k'], List.getElem_mem hk', by simp [hp']⟩
    rw [this] at ht
    cases ht
  · go_wp2
    go_ret
    exact ⟨rfl, rfl⟩

set_option maxRecDepth 100000 in
set_option maxHeartbeats 4000000 in
theorem rRemove_one {B : Nat} {w : World} {tb : Nat} {f : List UInt8 × List UInt8} {v : Value} (h : RTreeAt B w tb [f] v) :
    Calls Tryz.prog 18 #[Ptr tb, .string (ba f.1)] w fun e w' => e = .returned (.int .i64 0) ∧ (∃ v', RowON w v v' ∧ RTreeAt B w' tb [] v') ∧ Below B w w' ∧ Kept (mS tb v) w w' := by
  have hBw : B ≤ w.heap.size := by have := h.low; have := h.lt; omega
  obtain ⟨i0, hi, hz0, hz1, hz2⟩ := info_parts Tryz.infoRFile
  have HF := rFind_calls h (by simp) f.1
  have hcell := h.cell
  have hfree := h.free
  have htb := h.lt
  have hrow := FRow.of_owns h.row
  obtain ⟨pa, cap, rfl, hcap, hin⟩ := hrow
  obtain ⟨g, cur, rfl, hg, hcur⟩ := hin (by simp)
  have y4 : (1 : Int) ≤ (cap : Int) := by simp at hcap; omega
  have zc : 1 < cap ∨ 1 = cap := by simp at hcap; omega
  clear hin hcur
  go_enter Tryz.func18, Tryz.ntmps18
  go_wp2_with fail
  refine HF.mono ?_
  rintro e w1 ⟨hres, rfl⟩
  rcases hres with ⟨k', hk', rfl, hp'⟩ | ⟨hf, _⟩
  · obtain rfl : k' = 0 := by simp at hk'; exact hk'
    rcases zc with zc | zc
    · have zc1 : (1 : Int) < (cap : Int) := by omega
      go_wp2_with (first
        | (at_builtin; have gr1' := gr1; refine wpList_append_own_at _ rfl _ _ 44 rfl B 54 i0 (.agg #[.string ⟨#[]⟩, .string ⟨#[]⟩]) 2 32 Tryz.underlying44 hi hz0 hz1 hz2 rfl (by decide) (.slice none 0 0) 0 [] rfl (World.ownsRow_nil _ _ _ _) _ 0 _ [] rfl rfl (by simp) (by simp) (by unfold maxLen; omega) (by omega) (by have := b3.size; omega) ?_; intro v5 w5 o5 gr5 n5 loc5; (obtain rfl := n5.2 ⟨rfl, rfl⟩); (have b5 : Below w1.heap.size w1 w5 := b3.grown gr5 b3.size (fun j e => by cases e)); (have hcell5 := cell_below' hcell b5); (have hfree5 := (b5.frozen (p := ⟨tb, 0, none⟩) htb).trans hfree))
        | (at_builtin; refine wpList_append_own_at _ rfl _ _ 44 rfl B 54 i0 (.agg #[.string ⟨#[]⟩, .string ⟨#[]⟩]) 2 32 Tryz.underlying44 hi hz0 hz1 hz2 rfl (by decide) (.slice none 0 0) 0 [] rfl (World.ownsRow_nil _ _ _ _) ⟨g, 0, none⟩ 0 _ [] rfl rfl (by simp) (by simp) (by unfold maxLen; omega) (by omega) hBw ?_; intro v3 w3 o3 gr1 n3 loc3; (obtain rfl := n3.2 ⟨rfl, rfl⟩); (have b3 : Below w1.heap.size w1 w3 := (Below.refl _ w1).grown gr1 (Nat.le_refl _) (fun j e => by cases e)); (have hcell3 := cell_below' hcell b3))
        | go_in)
      all_goals
        go_wp2
        go_ret
        refine ⟨rfl, ⟨_, .inr (fun j e => by cases e), h.low, World.cell?_setCell_same' _ _ _ (by rw [hcell5]; rfl), by rw [World.frozen?_setCell]; exact hfree5, World.ownsRow_nil _ _ _ _, (fun e => by cases e), fun _ => rfl⟩, (b5.mono hBw).setCell (p := ⟨tb, 0, none⟩) h.low _, (Kept.of b5).setCell (p := ⟨tb, 0, none⟩) (.inl rfl) _⟩
    · subst zc
      go_wp2_with (first
        | (at_builtin; have gr1' := gr1; refine wpList_append_own_at _ rfl _ _ 44 rfl B 54 i0 (.agg #[.string ⟨#[]⟩, .string ⟨#[]⟩]) 2 32 Tryz.underlying44 hi hz0 hz1 hz2 rfl (by decide) (.slice none 0 0) 0 [] rfl (World.ownsRow_nil _ _ _ _) _ 0 _ [] rfl rfl (by simp) (by simp) (by unfold maxLen; omega) (by omega) (by have := b3.size; omega) ?_; intro v5 w5 o5 gr5 n5 loc5; (obtain rfl := n5.2 ⟨rfl, rfl⟩); (have b5 : Below w1.heap.size w1 w5 := b3.grown gr5 b3.size (fun j e => by cases e)); (have hcell5 := cell_below' hcell b5); (have hfree5 := (b5.frozen (p := ⟨tb, 0, none⟩) htb).trans hfree))
        | (at_builtin; refine wpList_append_own_at _ rfl _ _ 44 rfl B 54 i0 (.agg #[.string ⟨#[]⟩, .string ⟨#[]⟩]) 2 32 Tryz.underlying44 hi hz0 hz1 hz2 rfl (by decide) (.slice none 0 0) 0 [] rfl (World.ownsRow_nil _ _ _ _) ⟨g, 0, none⟩ 0 _ [] rfl rfl (by simp) (by simp) (by unfold maxLen; omega) (by omega) hBw ?_; intro v3 w3 o3 gr1 n3 loc3; (obtain rfl := n3.2 ⟨rfl, rfl⟩); (have b3 : Below w1.heap.size w1 w3 := (Below.refl _ w1).grown gr1 (Nat.le_refl _) (fun j e => by cases e)); (have hcell3 := cell_below' hcell b3))
        | go_in)
      all_goals
        go_wp2
        go_ret
        refine ⟨rfl, ⟨_, .inr (fun j e => by cases e), h.low, World.cell?_setCell_same' _ _ _ (by rw [hcell5]; rfl), by rw [World.frozen?_setCell]; exact hfree5, World.ownsRow_nil _ _ _ _, (fun e => by cases e), fun _ => rfl⟩, (b5.mono hBw).setCell (p := ⟨tb, 0, none⟩) h.low _, (Kept.of b5).setCell (p := ⟨tb, 0, none⟩) (.inl rfl) _⟩
  · simp [Tf.hasP] at hf

set_option maxRecDepth 100000 in
set_option maxHeartbeats 4000000 in
theorem rRemove_many {B : Nat} {w : World} {tb : Nat} {fs : Fs} {v : Value} (h : RTreeAt B w tb fs v) (hr : Tf.Rises fs) (hfew : fs.length ≤ 1000) (h2 : 2 ≤ fs.length) (p : List UInt8) (ht : Tf.hasP fs p = true) :
    Calls Tryz.prog 18 #[Ptr tb, .string (ba p)] w fun e w' => e = .returned (.int .i64 0) ∧ (∃ v', RowON w v v' ∧ RTreeAt B w' tb (Tf.del fs p) v') ∧ Below B w w' ∧ Kept (mS tb v) w w' := by
  have hBw : B ≤ w.heap.size := by have := h.low; have := h.lt; omega
  obtain ⟨i0, hi, hz0, hz1, hz2⟩ := info_parts Tryz.infoRFile
  have HF := rFind_calls h hfew p
  have hcell := h.cell
  have hfree := h.free
  have htb := h.lt
  have hrow := FRow.of_owns h.row
  obtain ⟨pa, cap, rfl, hcap, hin⟩ := hrow
  obtain ⟨g, cur, rfl, hg, hcur⟩ := hin (by intro e; rw [e] at h2; simp at h2)
  have src := h.row.cells (g := g) rfl
  have M0 := Made.start B w tb
  clear hin hcur
  go_enter Tryz.func18, Tryz.ntmps18
  go_wp2_with fail
  refine HF.mono ?_
  rintro e w1 ⟨hres, rfl⟩
  rcases hres with ⟨k', hk', rfl, hp'⟩ | ⟨hf, _⟩
  · have ep : Hid (Tf.del fs p = fs.take k' ++ fs.drop (k' + 1)) := by rw [← hp']; exact del_at hr hk'
    have y0 : (0 : Int) ≤ (k' : Int) := by omega
    have y1 : (k' : Int) < (fs.length : Int) := by omega
    have y2 : (k' : Int) + 1 ≤ (fs.length : Int) := by omega
    have y4 : (fs.length : Int) ≤ (cap : Int) := by omega
    have y5 : (fs.length : Int) ≤ 1000 := by omega
    have src1 : ∀ j u, (entCells (fs.take k'))[j]? = some u → w1.cell? ((⟨g, 0, none⟩ : Addr).add j) = some u := fun j u hj => src j u (by rw [entCells_take, List.getElem?_take] at hj; split at hj; exact hj; cases hj)
    have src2 : ∀ j u, (entCells (fs.drop (k' + 1)))[j]? = some u → w1.cell? ((⟨g, (k' + 1) * 2, none⟩ : Addr).add j) = some u := fun j u hj => by
      rw [entCells_drop, List.getElem?_drop] at hj
      have := src _ u hj
      rw [add_plain] at this ⊢
      simpa using this
    have ln1 : (fs.take k').length = k' := by rw [List.length_take]; omega
    have ln2 : (fs.drop (k' + 1)).length = fs.length - (k' + 1) := List.length_drop
    have zc : k' + 1 < cap ∨ k' + 1 = cap := by omega
    have hlN : (fs.take k' ++ fs.drop (k' + 1)).length = fs.length - 1 := by rw [List.length_append, ln1, ln2]; omega
    have hneN : fs.take k' ++ fs.drop (k' + 1) ≠ [] := fun e => by rw [e] at hlN; simp at hlN; omega
    have yd : ((fs.length - (k' + 1) : Nat) : Int) = (fs.length : Int) - ((k' : Int) + 1) := by omega
    rcases zc with zc | zc
    · have zc1 : (k' : Int) + 1 < (cap : Int) := by omega
      have zc2 : ¬ cap = k' + 1 := by omega
      go_wp2_with (first
        | (at_builtin; have M1' := M1; refine wpList_append_own_at _ rfl _ _ 44 rfl B 54 i0 (.agg #[.string ⟨#[]⟩, .string ⟨#[]⟩]) 2 32 Tryz.underlying44 hi hz0 hz1 hz2 rfl (by decide) _ _ _ rfl M1'.row _ (fs.length - (k' + 1)) _ (entCells (fs.drop (k' + 1))) rfl (by rw [entCells_len, ln2]) (fun j u hj => M1.cell (src2 j u hj)) (entCells_one _) (by unfold maxLen; rw [ln1]; omega) (by rw [ln1]; omega) (by have := M1.below.size; omega) ?_; intro v3 w5 o3 gr3 n3 loc3; (have M3 : Made B w1 w5 tb v3 (fs.take k' ++ fs.drop (k' + 1)) := M1.more (m := fs.drop (k' + 1)) (by rw [ln2]; exact o3) gr3 rfl loc3); (have hcell5 := M3.cell hcell); (have hfree5 := (M3.below.frozen (p := ⟨tb, 0, none⟩) htb).trans hfree); (obtain ⟨g3, c3, rfl⟩ := M3.shape hneN (fs.length - 1) hlN))
        | (at_builtin; refine wpList_append_own_at _ rfl _ _ 44 rfl B 54 i0 (.agg #[.string ⟨#[]⟩, .string ⟨#[]⟩]) 2 32 Tryz.underlying44 hi hz0 hz1 hz2 rfl (by decide) (.slice none 0 0) 0 [] rfl (World.ownsRow_nil _ _ _ _) ⟨g, 0, none⟩ k' _ (entCells (fs.take k')) rfl (by rw [entCells_len, ln1]) src1 (entCells_one _) (by unfold maxLen; omega) (by omega) hBw ?_; intro v1 w3 o1 gr1 n1 loc1; have M1 : Made B w1 w3 tb v1 (fs.take k') := M0.more (l := []) (m := fs.take k') (by rw [ln1]; exact o1) gr1 rfl loc1; have hcell3 := M1.cell hcell)
        | go_in)
      all_goals
        go_wp2
        go_ret
        have hne3 : _ ≠ some tb := fun e => by have := M3.new tb e; omega
        rw [ep.out]
        refine ⟨rfl, ⟨_, .inr (fun j e => M3.new j e), h.low, World.cell?_setCell_same' _ _ _ (by rw [hcell5]; rfl), by rw [World.frozen?_setCell]; exact hfree5, ?_, hne3, fun e => absurd e hneN⟩, (M3.below.mono hBw).setCell (p := ⟨tb, 0, none⟩) h.low _, (Kept.of M3.below).setCell (p := ⟨tb, 0, none⟩) (.inl rfl) _⟩
        exact ownsRow_setCell_other M3.row (a := ⟨tb, 0, none⟩) hne3 _
    · have hd0 : fs.drop (k' + 1) = [] := List.drop_eq_nil_of_le (by omega)
      have zc1 : (cap : Int) = (k' : Int) + 1 := by omega
      subst zc
      go_wp2_with (first
        | (at_builtin; have M1' := M1; refine wpList_append_own_at _ rfl _ _ 44 rfl B 54 i0 (.agg #[.string ⟨#[]⟩, .string ⟨#[]⟩]) 2 32 Tryz.underlying44 hi hz0 hz1 hz2 rfl (by decide) _ _ _ rfl M1'.row _ _ _ (entCells (fs.drop (k' + 1))) rfl (by rw [hd0]; first | rfl | (show 0 = _; omega)) (fun j u hj => by rw [hd0] at hj; simp [entCells] at hj) (entCells_one _) (by unfold maxLen; rw [ln1]; omega) (by rw [ln1]; omega) (by have := M1.below.size; omega) ?_; intro v3 w5 o3 gr3 n3 loc3; (have M3 : Made B w1 w5 tb v3 (fs.take k' ++ fs.drop (k' + 1)) := M1.more (m := fs.drop (k' + 1)) (by rw [hd0] at o3 ⊢; simpa [entCells, ln1] using o3) gr3 rfl loc3); (have hcell5 := M3.cell hcell); (have hfree5 := (M3.below.frozen (p := ⟨tb, 0, none⟩) htb).trans hfree); (obtain ⟨g3, c3, rfl⟩ := M3.shape hneN (fs.length - 1) hlN))
        | (at_builtin; refine wpList_append_own_at _ rfl _ _ 44 rfl B 54 i0 (.agg #[.string ⟨#[]⟩, .string ⟨#[]⟩]) 2 32 Tryz.underlying44 hi hz0 hz1 hz2 rfl (by decide) (.slice none 0 0) 0 [] rfl (World.ownsRow_nil _ _ _ _) ⟨g, 0, none⟩ k' _ (entCells (fs.take k')) rfl (by rw [entCells_len, ln1]) src1 (entCells_one _) (by unfold maxLen; omega) (by omega) hBw ?_; intro v1 w3 o1 gr1 n1 loc1; have M1 : Made B w1 w3 tb v1 (fs.take k') := M0.more (l := []) (m := fs.take k') (by rw [ln1]; exact o1) gr1 rfl loc1; have hcell3 := M1.cell hcell)
        | go_in)
      all_goals
        go_wp2
        go_ret
        have hne3 : _ ≠ some tb := fun e => by have := M3.new tb e; omega
        rw [ep.out]
        refine ⟨rfl, ⟨_, .inr (fun j e => M3.new j e), h.low, World.cell?_setCell_same' _ _ _ (by rw [hcell5]; rfl), by rw [World.frozen?_setCell]; exact hfree5, ?_, hne3, fun e => absurd e hneN⟩, (M3.below.mono hBw).setCell (p := ⟨tb, 0, none⟩) h.low _, (Kept.of M3.below).setCell (p := ⟨tb, 0, none⟩) (.inl rfl) _⟩
        exact ownsRow_setCell_other M3.row (a := ⟨tb, 0, none⟩) hne3 _
  · rw [ht] at hf
    cases hf

theorem rRemove_calls {B : Nat} {w : World} {tb : Nat} {fs : Fs} {v : Value} (h : RTreeAt B w tb fs v) (hw : Tf.Well pathB fs) (p : List UInt8) :
    Calls Tryz.prog 18 #[Ptr tb, .string (ba p)] w fun e w' => e = .returned (.int .i64 ((if Tf.hasP fs p then 0 else 6 : Nat) : Int)) ∧ (∃ v', RowON w v v' ∧ RTreeAt B w' tb (Tf.del fs p) v') ∧ Below B w w' ∧ Kept (mS tb v) w w' := by
  have hBw : B ≤ w.heap.size := by have := h.low; have := h.lt; omega
  cases ht : Tf.hasP fs p with
  | false =>
    rw [Tf.del_none ht]
    exact (rRemove_no h (by have := hw.few; omega) p ht).mono fun e w' ⟨h1, h2⟩ => by
      subst h2
      exact ⟨h1, ⟨_, .inl rfl, h⟩, Below.refl _ _, .refl _ _⟩
  | true =>
    rcases Nat.lt_or_ge fs.length 2 with h2 | h2
    · match fs, h2 with
      | [], _ => simp [Tf.hasP] at ht
      | [f], _ =>
        obtain rfl : f.1 = p := by simpa [Tf.hasP] using ht
        rw [show Tf.del [f] f.1 = [] by simp [Tf.del]]
        exact rRemove_one h
    · exact rRemove_many h hw.rises (by have := hw.few; omega) h2 p ht
end Go.Proofs.YtpkkhabiheobnaaGreatDoor
