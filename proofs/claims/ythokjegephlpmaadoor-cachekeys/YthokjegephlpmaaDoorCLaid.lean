/- Texts and asks that came in, opened. -/
import Derived.Test.YthokjegephlpmaaDoorTLaid
import Derived.Test.YthokjegephlpmaaDoorCacheA
import Derived.SliceStrings
import Derived.Lib.SmallJoins
namespace Go.Proofs.YthokjegephlpmaaDoor.CL
open Go.ChangeShapes Go.WideShapes Go.ChangeAt Go.WideMaps Go.WideElems Go.RowKit Go.Deep

theorem cellsAsk : Tryd.prog.cellsOf 36 = 3 := by kernel_rfl
theorem cellsBool : Tryd.prog.cellsOf 4 = 1 := by kernel_rfl
theorem ba_self (s : ByteArray) : s = ba s.data.toList := by
  apply ByteArray.ext
  simp

instance : Inhabited Ak := ⟨⟨false, [], []⟩⟩

section
variable {H : Type} {enc : TypeId × Value → H}
/-- Texts that came in. -/
theorem open_texts {W : World} {sp : Nat → Bool} {fuel : Nat} {cs : List Value} {x : DataW H × List MemPlace} (h : DataW.trod enc Tryd.prog W 0 sp true fuel 22 cs = some x) : ∃ v ls, cs = [v] ∧ XRow W v ls := by
  rcases open_strings Tryd.underlying22 Tryd.underlying9 TL.cellsStr h with ⟨hc, _⟩ | ⟨a, len, cap, ss, hc, _, hlc, _, hsl, _, hin, _⟩
  · exact ⟨_, [], hc, XRow.nil W⟩
  · have hle : len ≤ ss.length := by rw [hsl]; split <;> omega
    have hlen : ((ss.take len).map fun s => s.data.toList).length = len := by simp; omega
    refine ⟨_, (ss.take len).map fun s => s.data.toList, hc, some a, cap, by rw [hlen], by omega, fun h => (by cases h), fun hne => ?_⟩
    have h0 : 0 < len := by
      rcases Nat.eq_zero_or_pos len with e | e
      · subst e; simp at hne
      · exact e
    have hs : a.spot = none := World.cell?_spot (a := a.add 0) (hin 0 (by omega))
    obtain ⟨ab, ao, spt⟩ := a
    cases hs
    refine ⟨ab, ao, rfl, lt_of_cell (hin 0 (by omega)), fun j hj => ?_⟩
    rw [hlen] at hj
    have hc := hin j (by omega)
    rw [add_at2] at hc
    rw [hc, List.getElem_map, List.getElem_take, ← ba_self]
    have hjl : j < ss.length := by omega
    rw [List.getD_eq_getElem?_getD, List.getElem?_eq_getElem hjl]
    rfl

set_option maxRecDepth 100000 in
/-- Asks that came in. -/
theorem open_asks {W : World} {sp : Nat → Bool} {fuel : Nat} {cs : List Value} {x : DataW H × List MemPlace} (h : DataW.trod enc Tryd.prog W 0 sp true fuel 29 cs = some x) : ∃ v l, cs = [v] ∧ AkRow W v l := by
  rcases open_slice Tryd.underlying29 h with h0 | ⟨a, len, cap, m, n, D, Pl, rfl, hb, hl, hm, hmm, rfl, hx⟩
  · exact ⟨_, [], h0.1, none, 0, rfl, fun h => absurd rfl h⟩
  have hlm : len ≤ m := by rw [hmm]; split <;> omega
  have each : ∀ i, i < m → ∃ r : Ak, W.cell? (a.add (i * 3)) = some (.bool r.put) ∧ W.cell? (a.add (i * 3 + 1)) = some (.string (ba r.key)) ∧ W.cell? (a.add (i * 3 + 2)) = some (.string (ba r.bytes)) := by
    intro i hi
    obtain ⟨cs', h1, h2⟩ := hx i hi
    rw [cellsAsk] at h1
    obtain ⟨_, hlen, hcell⟩ := World.cells?_some h1
    obtain ⟨y0, y1, y2, k, hxy, _, u0, u1, u2⟩ := trod_struct3 Tryd.underlying36 h2
    match cs', hlen with
    | [v0, v1, v2], _ =>
      simp only [TL.cellsStr, cellsBool, List.drop, List.take] at u0 u1 u2
      obtain ⟨s0, e0, d0⟩ := DataW.trod_bool Tryd.underlying4 u0
      obtain ⟨s1, e1, d1, _⟩ := DataW.trod_string Tryd.underlying9 u1
      obtain ⟨s2, e2, d2, _⟩ := DataW.trod_string Tryd.underlying9 u2
      simp only [List.cons.injEq, and_true] at e0 e1 e2
      subst e0; subst e1; subst e2
      have c0 := hcell 0 (by omega)
      have c1 := hcell 1 (by omega)
      have c2 := hcell 2 (by omega)
      rw [add_add] at c0 c1 c2
      exact ⟨⟨s0, s1.data.toList, s2.data.toList⟩, by simpa using c0, by rw [← ba_self]; simpa using c1, by rw [← ba_self]; simpa using c2⟩
  obtain ⟨q, hq⟩ := choose_lt (α := Ak) each
  refine ⟨_, (List.range len).map q, rfl, some a, cap, by simp, fun hne => ?_⟩
  have h0 : 0 < len := by
    rcases Nat.eq_zero_or_pos len with e | e
    · subst e; simp at hne
    · exact e
  have hs : a.spot = none := World.cell?_spot (a := a.add (0 * 3)) (hq 0 (by omega)).1
  obtain ⟨ab, ao, spt⟩ := a
  cases hs
  refine ⟨ab, ao, rfl, lt_of_cell (hq 0 (by omega)).1, fun j hj => ?_⟩
  have hjl : j < len := by simpa using hj
  obtain ⟨c0, c1, c2⟩ := hq j (by omega)
  rw [add_at2] at c0 c1 c2
  rw [← Nat.add_assoc] at c1 c2
  simp only [List.getElem_map, List.getElem_range]
  exact ⟨c0, c1, c2⟩
end
end Go.Proofs.YthokjegephlpmaaDoor.CL
