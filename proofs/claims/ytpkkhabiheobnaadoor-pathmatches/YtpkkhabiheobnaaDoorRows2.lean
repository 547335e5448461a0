/- Rows of truth values that a walk fills: what they hold; tables of a pattern's beginnings against a name's. -/
import Derived.Test.YtpkkhabiheobnaaDoorFitRow
import Derived.Laws.OwnMore
import Derived.OneCell
namespace Go.Proofs.YtpkkhabiheobnaaDoor
open Go.RowKit Go.Shelf Go.Lib

def rowB (n : Nat) (f : Nat → Bool) : List Value := (List.range n).map (fun j => Value.bool (f j))
theorem rowB_get {n : Nat} (f : Nat → Bool) {j : Nat} (h : j < n) : (rowB n f)[j]? = some (.bool (f j)) := by
  simp [rowB, h]
theorem rowB_congr {n : Nat} {f g : Nat → Bool} (h : ∀ j, j < n → f j = g j) : rowB n f = rowB n g := by
  unfold rowB
  exact List.map_congr_left fun j hj => by rw [h j (List.mem_range.1 hj)]
theorem rowB_set (n : Nat) (f : Nat → Bool) (k : Nat) (b : Bool) : (rowB n f).set k (.bool b) = rowB n (fun j => if j = k then b else f j) := by
  apply List.ext_getElem?
  intro j
  unfold rowB
  rw [List.getElem?_set]
  by_cases hj : j < n
  · by_cases e : k = j
    · subst e; simp [hj]
    · have e' : ¬ j = k := fun h => e h.symm
      simp [hj, e, e']
  · by_cases e : k = j
    · subst e; simp [hj]
    · simp [hj, e]
theorem rowB_none (n : Nat) : List.replicate n (Value.bool false) = rowB n (fun _ => false) := by
  unfold rowB
  rw [List.map_const']
  simp

/-- A row of truth values that the call made. -/
def Own (W : World) (B g n : Nat) (f : Nat → Bool) : Prop := W.ownsRow B 4 1 (.slice (some ⟨g, 0, none⟩) n n) n (rowB n f)
theorem Own.cell {W : World} {B g n : Nat} {f : Nat → Bool} (h : Own W B g n f) {j : Nat} (hj : j < n) : W.cell? ⟨g, j, none⟩ = some (.bool (f j)) := by
  have := World.ownsRow.cellAt h j (by omega)
  rw [this, rowB_get f hj]
theorem Own.lt {W : World} {B g n : Nat} {f : Nat → Bool} (h : Own W B g n f) : g < W.heap.size ∧ B ≤ g := by
  rcases h.2 with ⟨h', _⟩ | ⟨g', cap', cur, h', hb, hg, _⟩
  · cases h'
  · cases h'
    exact ⟨(Array.getElem?_eq_some_iff.1 hg).1, hb⟩
theorem Own.grown {W W' : World} {B g n : Nat} {f : Nat → Bool} (h : Own W B g n f) (hg : W.grownBy W' none) : Own W' B g n f :=
  World.ownsRow.kept h hg (.inr (by simp [Value.ownBlock]))
theorem Own.other {W : World} {B g n : Nat} {f : Nat → Bool} (h : Own W B g n f) {g' : Nat} (hne : g ≠ g') (k : Nat) (u : Value) : Own (W.setCell ⟨g', k, none⟩ u) B g n f :=
  ownsRow_setCell_other h (by simp [Value.ownBlock, hne]) u
theorem Own.set {W : World} {B g n : Nat} {f f' : Nat → Bool} (h : Own W B g n f) (k : Nat) (b : Bool) (hf : ∀ j, j < n → (if j = k then b else f j) = f' j) : Own (W.setCell ⟨g, k, none⟩ (.bool b)) B g n f' := by
  have := (World.ownsRow.stored h k (.bool b)).1
  rw [rowB_set, rowB_congr hf] at this
  exact this
theorem below_grown {B : Nat} {w W W' : World} (hB : Below B w W) (hn : B ≤ W.heap.size) (hg : W.grownBy W' none) : Below B w W' :=
  hB.grown hg hn (fun j e => by cases e)

theorem Tryd.infoBool : (Tryd.prog.info? 4).map (fun i => (i.zero, i.size, i.bytes)) = some (some (.bool false), 1, 1) := by kernel_rfl

/-- A table: how beginnings of a pattern stand to beginnings of what is held against it. -/
structure Table (m n : Nat) (st : Nat → Bool) (eq : Nat → Nat → Bool) (R : Nat → Nat → Bool) : Prop where
  start : R 0 0 = true
  none : ∀ k, k < n → R 0 (k + 1) = false
  star0 : ∀ i, i < m → st i = true → R (i + 1) 0 = R i 0
  star : ∀ i k, i < m → k < n → st i = true → R (i + 1) (k + 1) = (R i (k + 1) || R (i + 1) k)
  lit0 : ∀ i, i < m → st i = false → R (i + 1) 0 = false
  lit : ∀ i k, i < m → k < n → st i = false → R (i + 1) (k + 1) = (R i k && eq i k)

theorem made_row {W : World} {B g n : Nat} (h : W.ownsRow B 4 1 (.slice (some ⟨g, 0, none⟩) n n) n (madeCells (Value.bool false).cells (n * 1)).toList) : Own W B g n (fun _ => false) := by
  have e : (madeCells (Value.bool false).cells (n * 1)).toList = rowB n (fun _ => false) := by
    rw [Nat.mul_one, ← rowB_none]
    exact toList_madeCells_one _ _
  rw [e] at h
  exact h
end Go.Proofs.YtpkkhabiheobnaaDoor
