import Derived.Test.YtflbofdpfgkmcaaGreatDoorOP20
import Derived.Test.YtflbofdpfgkmcaaGreatDoorOP24
namespace Go.Proofs.YtflbofdpfgkmcaaGreatDoor
open Go.RowKit Go.Shelf Go.Lib
def rowN (n : Nat) (f : Nat → Nat) : List Value := (List.range n).map (fun j => nv (f j))
theorem rowN_get {n : Nat} (f : Nat → Nat) {j : Nat} (h : j < n) : (rowN n f)[j]? = some (nv (f j)) := by simp [rowN, h]
theorem rowN_congr {n : Nat} {f g : Nat → Nat} (h : ∀ j, j < n → f j = g j) : rowN n f = rowN n g := by
  unfold rowN
  exact List.map_congr_left fun j hj => by rw [h j (List.mem_range.1 hj)]
theorem rowN_set (n : Nat) (f : Nat → Nat) (k b : Nat) : (rowN n f).set k (nv b) = rowN n (fun j => if j = k then b else f j) := by
  apply List.ext_getElem?
  intro j
  unfold rowN
  rw [List.getElem?_set]
  by_cases hj : j < n
  · by_cases e : k = j
    · subst e; simp [hj]
    · have e' : ¬ j = k := fun h => e h.symm
      simp [hj, e, e']
  · by_cases e : k = j
    · subst e; simp [hj]
    · simp [hj, e]
def OwnN (W : World) (B g n : Nat) (f : Nat → Nat) : Prop := W.ownsRow B 3 1 (.slice (some ⟨g, 0, none⟩) n n) n (rowN n f)
theorem OwnN.cell {W : World} {B g n : Nat} {f : Nat → Nat} (h : OwnN W B g n f) {j : Nat} (hj : j < n) : W.cell? ⟨g, j, none⟩ = some (nv (f j)) := by
  have := World.ownsRow.cellAt h j (by omega)
  rw [this, rowN_get f hj]
theorem OwnN.lt {W : World} {B g n : Nat} {f : Nat → Nat} (h : OwnN W B g n f) : g < W.heap.size ∧ B ≤ g := by
  rcases h.2 with ⟨h', _⟩ | ⟨g', cap', cur, h', hb, hg, _⟩
  · cases h'
  · cases h'
    exact ⟨(Array.getElem?_eq_some_iff.1 hg).1, hb⟩
theorem OwnN.grown {W W' : World} {B g n : Nat} {f : Nat → Nat} (h : OwnN W B g n f) (hg : W.grownBy W' none) : OwnN W' B g n f :=
  World.ownsRow.kept h hg (.inr (by simp [Value.ownBlock]))
theorem OwnN.other {W : World} {B g n : Nat} {f : Nat → Nat} (h : OwnN W B g n f) {g' : Nat} (hne : g ≠ g') (k : Nat) (u : Value) : OwnN (W.setCell ⟨g', k, none⟩ u) B g n f :=
  ownsRow_setCell_other h (by simp [Value.ownBlock, hne]) u
theorem OwnN.set {W : World} {B g n : Nat} {f f' : Nat → Nat} (h : OwnN W B g n f) (k b : Nat) (hf : ∀ j, j < n → (if j = k then b else f j) = f' j) : OwnN (W.setCell ⟨g, k, none⟩ (nv b)) B g n f' := by
  have := (World.ownsRow.stored h k (nv b)).1
  rw [rowN_set, rowN_congr hf] at this
  exact this
theorem OwnN.congr {W : World} {B g n : Nat} {f f' : Nat → Nat} (h : OwnN W B g n f) (hf : ∀ j, j < n → f j = f' j) : OwnN W B g n f' := by
  unfold OwnN at h ⊢
  rw [← rowN_congr hf]
  exact h
theorem OwnN.below {W W' : World} {B g n : Nat} {f : Nat → Nat} (h : OwnN W B g n f) (hB : Below W.heap.size W W') : OwnN W' B g n f := by
  have hl := h.lt.1
  refine ⟨h.1, ?_⟩
  rcases h.2 with ⟨h', _⟩ | ⟨g', cap', cur, h', hb, hg, r⟩
  · cases h'
  · cases h'
    exact .inr ⟨g, n, cur, rfl, hb, (hB.block g hl).trans hg, r⟩
theorem Tryz.infoInts : (Tryz.prog.info? 68).map (fun i => (i.zero, i.size, i.bytes)) = some (some (.slice none 0 0), 1, 24) := by kernel_rfl
def topS (n m : Nat) (rb : Nat → Nat) : List Value := (List.range n).map fun i => if i < m then .slice (some ⟨rb i, 0, none⟩) n n else .slice none 0 0
structure Mat (W : World) (B gF n m : Nat) (rb : Nat → Nat) (F : Nat → Nat → Nat) : Prop where
  top : W.ownsRow B 68 1 (.slice (some ⟨gF, 0, none⟩) n n) n (topS n m rb)
  row : ∀ i, i < m → OwnN W B (rb i) n (F i)
  inj : ∀ i j, i < m → j < m → i ≠ j → rb i ≠ rb j
theorem Mat.cell {W : World} {B gF n m : Nat} {rb : Nat → Nat} {F : Nat → Nat → Nat} (h : Mat W B gF n m rb F) {i k : Nat} (hi : i < m) (hk : k < n) : W.cell? ⟨rb i, k, none⟩ = some (nv (F i k)) := (h.row i hi).cell hk
theorem Mat.ne {W : World} {B gF n m : Nat} {rb : Nat → Nat} {F : Nat → Nat → Nat} (h : Mat W B gF n m rb F) {i : Nat} (hi : i < m) : gF ≠ rb i := by
  have h1 := owns_far h.top (h.row i hi) (by decide)
  intro e
  apply h1
  rw [← e]
  rfl
theorem Mat.set {W : World} {B gF n m : Nat} {rb : Nat → Nat} {F F' : Nat → Nat → Nat} (h : Mat W B gF n m rb F) {i k : Nat} (hi : i < m) (b : Nat) (hF : ∀ a j, a < m → j < n → (if a = i ∧ j = k then b else F a j) = F' a j) : Mat (W.setCell ⟨rb i, k, none⟩ (nv b)) B gF n m rb F' := by
  refine ⟨ownsRow_setCell_other h.top (by simp [Value.ownBlock, h.ne hi]) _, fun a ha => ?_, h.inj⟩
  by_cases e : a = i
  · subst e
    exact (h.row a ha).set k b fun j hj => by
      have := hF a j ha hj
      simpa using this
  · refine ((h.row a ha).other (h.inj a i ha hi e) k _).congr fun j hj => ?_
    have := hF a j ha hj
    simpa [e] using this
theorem Mat.below {W W' : World} {B gF n m : Nat} {rb : Nat → Nat} {F : Nat → Nat → Nat} (h : Mat W B gF n m rb F) (hB : Below W.heap.size W W') : Mat W' B gF n m rb F := by
  refine ⟨?_, fun i hi => (h.row i hi).below hB, h.inj⟩
  refine ⟨h.top.1, ?_⟩
  rcases h.top.2 with ⟨h', _⟩ | ⟨g', cap', cur, h', hb, hg, r⟩
  · cases h'
  · cases h'
    exact .inr ⟨gF, n, cur, rfl, hb, (hB.block gF (Array.getElem?_eq_some_iff.1 hg).1).trans hg, r⟩
theorem Mat.drew {W : World} {B gF n m : Nat} {rb : Nat → Nat} {F : Nat → Nat → Nat} (h : Mat W B gF n m rb F) (q : Nat) : Mat (W.drewN q) B gF n m rb F := h.below (below_draws (Below.refl _ W) q)
end Go.Proofs.YtflbofdpfgkmcaaGreatDoor
