/- Slices of texts, wherever they begin in their block. -/
import Derived.Test.YthokjegephlpmaaDoorTRowT
import Derived.Test.YthokjegephlpmaaDoorPRows
namespace Go.Proofs.YthokjegephlpmaaDoor
open Go.RowKit Go.Shelf Go.Lib

/-- A slice of texts that came in. -/
def IRow (w : World) (v : Value) (l : List (List UInt8)) : Prop :=
  ∃ p cap, v = .slice p l.length cap ∧ (l ≠ [] → ∃ g o, p = some ⟨g, o, none⟩ ∧ g < w.heap.size ∧ ∀ j (hj : j < l.length), w.cell? ⟨g, o + j, none⟩ = some (.string (ba l[j])))
theorem IRow.below {w w' : World} {v : Value} {l : List (List UInt8)} (h : IRow w v l) (hb : Below w.heap.size w w') : IRow w' v l := by
  obtain ⟨p, cap, e, h1⟩ := h
  refine ⟨p, cap, e, fun hl => ?_⟩
  obtain ⟨g, o, e, hg, hc⟩ := h1 hl
  exact ⟨g, o, e, Nat.lt_of_lt_of_le hg hb.size, fun j hj => (hb.cell (p := ⟨g, o + j, none⟩) hg).trans (hc j hj)⟩

/-- A slice of texts, with its room. -/
def XRow (w : World) (v : Value) (l : List (List UInt8)) : Prop :=
  ∃ p cap, v = .slice p l.length cap ∧ l.length ≤ cap ∧ (p = none → cap = 0) ∧ (l ≠ [] → ∃ g o, p = some ⟨g, o, none⟩ ∧ g < w.heap.size ∧ ∀ j (hj : j < l.length), w.cell? ⟨g, o + j, none⟩ = some (.string (ba l[j])))
theorem XRow.below {w w' : World} {v : Value} {l : List (List UInt8)} (h : XRow w v l) (hb : Below w.heap.size w w') : XRow w' v l := by
  obtain ⟨p, cap, e, h0, hn, h1⟩ := h
  refine ⟨p, cap, e, h0, hn, fun hl => ?_⟩
  obtain ⟨g, o, e, hg, hc⟩ := h1 hl
  exact ⟨g, o, e, Nat.lt_of_lt_of_le hg hb.size, fun j hj => (hb.cell (p := ⟨g, o + j, none⟩) hg).trans (hc j hj)⟩
theorem XRow.irow {w : World} {v : Value} {l : List (List UInt8)} (h : XRow w v l) : IRow w v l := by
  obtain ⟨p, cap, e, _, _, h1⟩ := h
  exact ⟨p, cap, e, h1⟩
theorem XRow.shape {w : World} {v : Value} {l : List (List UInt8)} (h : XRow w v l) : v = .slice none 0 0 ∨ ∃ a n cap, v = .slice (some a) n cap := by
  obtain ⟨p, cap, rfl, h0, hn, h1⟩ := h
  cases p with
  | none =>
    have hc := hn rfl
    subst hc
    obtain rfl : l = [] := List.length_eq_zero_iff.1 (by omega)
    exact .inl rfl
  | some a => exact .inr ⟨a, _, _, rfl⟩
theorem XRow.nil (w : World) : XRow w (.slice none 0 0) [] := ⟨none, 0, rfl, Nat.le_refl _, fun _ => rfl, fun h => absurd rfl h⟩
theorem XRow.of_owns {w : World} {base : Nat} {v : Value} {l : List (List UInt8)} {n : Nat} (h : w.ownsRow base 9 1 v n (l.map sv)) : XRow w v l := by
  have hn : n = l.length := by have := h.1; simp at this; omega
  subst hn
  rcases h.2 with ⟨rfl, hn⟩ | ⟨g, cap, cur, rfl, _, hb, h1, _, _, h4⟩
  · obtain rfl : l = [] := by simpa using hn
    exact XRow.nil w
  · refine ⟨_, cap, rfl, h1, fun h => (by cases h), fun _ => ⟨g, 0, rfl, (Array.getElem?_eq_some_iff.1 hb).1, fun j hj => ?_⟩⟩
    have := congrArg (fun x => x[j]?) h4
    simp only [Nat.mul_one, List.getElem?_take, hj, if_true, List.getElem?_map, List.getElem?_eq_getElem hj, Option.map_some, Array.getElem?_toList] at this
    rw [Nat.zero_add]
    exact cell_of_row hb this
theorem one_sv {l : List (List UInt8)} : ∀ u ∈ l.map sv, u.oneCell' = true := fun u hu => by
  obtain ⟨z, _, rfl⟩ := List.mem_map.1 hu
  rfl
theorem add_at2 (g k j : Nat) : (⟨g, k, none⟩ : Addr).add j = ⟨g, k + j, none⟩ := by
  by_cases h0 : j = 0 <;> simp [Addr.add, h0]
theorem lay_b1 {w w1 : World} (n1 : w.ownsRow w.heap.size 9 1 (.slice none 0 0) 0 []) (hg : w.grownBy w1 (Value.slice none 0 0).ownBlock) : Below w.heap.size w w1 := below_more (Below.refl _ w) (Nat.le_refl _) n1 hg
end Go.Proofs.YthokjegephlpmaaDoor
