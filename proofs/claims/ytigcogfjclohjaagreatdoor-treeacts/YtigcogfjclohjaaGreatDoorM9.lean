/- Plain facts on patterns: what it is to fit; that looking from the end is looking from the start; that each piece may be taken where it is found first. -/
import Derived.Test.YtigcogfjclohjaaGreatDoorFitSpec
import Derived.Lib.IndexMore
import Derived.Test.YtigcogfjclohjaaGreatDoorM7
import Derived.Laws.OwnMore
import Derived.OneCell
import Derived.Test.YtigcogfjclohjaaGreatDoorCut
import Derived.BigRegion
import Derived.OwnWalk
import Derived.Test.YtigcogfjclohjaaGreatDoorRPath
namespace Go.Proofs.YtigcogfjclohjaaGreatDoor
open Go.RowKit Go.Shelf Go.Lib

section
variable {α β : Type} (st : α → Bool) (eq : α → β → Bool)
/-- A list fits a pattern: a star takes any of it. -/
def Wd : List α → List β → Prop
  | [], s => s = []
  | a :: p, s => if st a = true then ∃ u t, s = u ++ t ∧ Wd p t else ∃ x t, s = x :: t ∧ eq a x = true ∧ Wd p t

theorem Wd_app : ∀ (p q : List α) (s : List β), Wd st eq (p ++ q) s ↔ ∃ u t, s = u ++ t ∧ Wd st eq p u ∧ Wd st eq q t
  | [], q, s => by
    simp only [List.nil_append, Wd]
    exact ⟨fun h => ⟨[], s, rfl, rfl, h⟩, fun ⟨u, t, e, hu, h⟩ => by subst hu; simpa [e] using h⟩
  | a :: p, q, s => by
    simp only [List.cons_append, Wd]
    by_cases h : st a = true
    · simp only [if_pos h]
      constructor
      · rintro ⟨u, t, rfl, ht⟩
        obtain ⟨u', t', rfl, h1, h2⟩ := (Wd_app p q t).1 ht
        exact ⟨u ++ u', t', by simp, ⟨u, u', rfl, h1⟩, h2⟩
      · rintro ⟨u, t, rfl, ⟨u', t', rfl, h1⟩, h2⟩
        exact ⟨u', t' ++ t, by simp, (Wd_app p q _).2 ⟨t', t, rfl, h1, h2⟩⟩
    · simp only [if_neg h]
      constructor
      · rintro ⟨x, t, rfl, hx, ht⟩
        obtain ⟨u', t', rfl, h1, h2⟩ := (Wd_app p q t).1 ht
        exact ⟨x :: u', t', by simp, ⟨x, u', rfl, hx, h1⟩, h2⟩
      · rintro ⟨u, t, rfl, ⟨x, t', rfl, hx, h1⟩, h2⟩
        exact ⟨x, t' ++ t, by simp, hx, (Wd_app p q _).2 ⟨t', t, rfl, h1, h2⟩⟩

theorem Wd_star {a : α} (h : st a = true) (p : List α) (s : List β) : Wd st eq (a :: p) s ↔ ∃ u t, s = u ++ t ∧ Wd st eq p t := by
  simp only [Wd, if_pos h]
theorem Wd_lit {a : α} (h : st a = false) (p : List α) (s : List β) : Wd st eq (a :: p) s ↔ ∃ x t, s = x :: t ∧ eq a x = true ∧ Wd st eq p t := by
  have h' : ¬ st a = true := by rw [h]; simp
  simp only [Wd, if_neg h']
theorem Wd_snoc_star {a : α} (h : st a = true) (p : List α) (s : List β) : Wd st eq (p ++ [a]) s ↔ ∃ u t, s = u ++ t ∧ Wd st eq p u := by
  rw [Wd_app]
  constructor
  · rintro ⟨u, t, e, h1, _⟩; exact ⟨u, t, e, h1⟩
  · rintro ⟨u, t, e, h1⟩; exact ⟨u, t, e, h1, (Wd_star st eq h [] t).2 ⟨t, [], by simp, rfl⟩⟩
theorem Wd_snoc_lit {a : α} (h : st a = false) (p : List α) (s : List β) : Wd st eq (p ++ [a]) s ↔ ∃ u x, s = u ++ [x] ∧ eq a x = true ∧ Wd st eq p u := by
  rw [Wd_app]
  constructor
  · rintro ⟨u, t, rfl, h1, h2⟩
    obtain ⟨x, t', rfl, hx, h3⟩ := (Wd_lit st eq h [] t).1 h2
    have : t' = [] := h3
    subst this
    exact ⟨u, x, rfl, hx, h1⟩
  · rintro ⟨u, x, rfl, hx, h1⟩
    exact ⟨u, [x], rfl, h1, (Wd_lit st eq h [] [x]).2 ⟨x, [], rfl, hx, rfl⟩⟩

/-- A table's rules hold of any truth values that tell which beginnings fit. -/
theorem Wd_star_step {a : α} (h : st a = true) (p : List α) (s : List β) (x : β) : Wd st eq (p ++ [a]) (s ++ [x]) ↔ (Wd st eq p (s ++ [x]) ∨ Wd st eq (p ++ [a]) s) := by
  rw [Wd_snoc_star st eq h, Wd_snoc_star st eq h]
  constructor
  · rintro ⟨u, t, e, h1⟩
    rcases List.eq_nil_or_concat t with rfl | ⟨t', y, rfl⟩
    · rw [List.append_nil] at e
      exact .inl (by rw [e]; exact h1)
    · rw [List.concat_eq_append, ← List.append_assoc] at e
      exact .inr ⟨u, t', List.append_inj_left' e rfl, h1⟩
  · rintro (h1 | ⟨u, t, rfl, h1⟩)
    · exact ⟨s ++ [x], [], by simp, h1⟩
    · exact ⟨u, t ++ [x], by simp, h1⟩
theorem Wd_star_nil {a : α} (h : st a = true) (p : List α) : Wd st eq (p ++ [a]) [] ↔ Wd st eq p [] := by
  rw [Wd_snoc_star st eq h]
  constructor
  · rintro ⟨u, t, e, h1⟩
    obtain ⟨rfl, rfl⟩ := List.append_eq_nil_iff.1 e.symm
    exact h1
  · exact fun h1 => ⟨[], [], rfl, h1⟩
theorem Wd_lit_step {a : α} (h : st a = false) (p : List α) (s : List β) (x : β) : Wd st eq (p ++ [a]) (s ++ [x]) ↔ (Wd st eq p s ∧ eq a x = true) := by
  rw [Wd_snoc_lit st eq h]
  constructor
  · rintro ⟨u, y, e, h1, h2⟩
    have e1 := List.append_inj_left' e rfl
    have e2 := List.append_inj_right' e rfl
    simp at e2
    subst e1 e2
    exact ⟨h2, h1⟩
  · rintro ⟨h1, h2⟩
    exact ⟨s, x, rfl, h2, h1⟩
theorem Wd_lit_nil {a : α} (h : st a = false) (p : List α) : ¬ Wd st eq (p ++ [a]) ([] : List β) := by
  rw [Wd_snoc_lit st eq h]
  rintro ⟨u, x, e, _⟩
  have := congrArg List.length e
  simp at this
end

def twoS (p : List UInt8) : Bool := p == [42, 42]
def oneS (c : UInt8) : Bool := c == 42
def same (a b : UInt8) : Bool := b == a

/-- Do parts fit, as package path looks: what it is to fit, of parts. -/
theorem fitL_Wd : ∀ (f : Nat) (pat names : List (List UInt8)), pat.length + names.length < f → (fitL f pat names = true ↔ Wd twoS fitN pat names)
  | 0, _, _, h => by omega
  | f + 1, [], names, h => by simp [fitL, Wd]
  | f + 1, p :: ps, names, h => by
    simp only [List.length_cons] at h
    by_cases hp : p = [42, 42]
    · have hs : twoS p = true := by simp [twoS, hp]
      rw [Wd_star twoS fitN hs]
      simp only [fitL, if_pos hp, Bool.or_eq_true]
      rw [fitL_Wd f ps names (by omega)]
      cases names with
      | nil =>
        simp only [Bool.false_eq_true, or_false]
        constructor
        · exact fun h1 => ⟨[], [], rfl, h1⟩
        · rintro ⟨u, t, e, h1⟩
          obtain ⟨rfl, rfl⟩ := List.append_eq_nil_iff.1 e.symm
          exact h1
      | cons n ns =>
        simp only [List.length_cons] at h
        simp only []
        rw [fitL_Wd f (p :: ps) ns (by simp only [List.length_cons]; omega), Wd_star twoS fitN hs]
        constructor
        · rintro (h1 | ⟨u, t, rfl, h1⟩)
          · exact ⟨[], n :: ns, rfl, h1⟩
          · exact ⟨n :: u, t, rfl, h1⟩
        · rintro ⟨u, t, e, h1⟩
          cases u with
          | nil => exact .inl (by simp at e; rw [e]; exact h1)
          | cons y u =>
            simp at e
            exact .inr ⟨u, t, e.2, h1⟩
    · have hs : twoS p = false := by simp [twoS, hp]
      rw [Wd_lit twoS fitN hs]
      cases names with
      | nil => simp [fitL, hp]
      | cons n ns =>
        simp only [List.length_cons] at h
        simp only [fitL, if_neg hp, Bool.and_eq_true]
        rw [fitL_Wd f ps ns (by omega)]
        constructor
        · rintro ⟨h1, h2⟩; exact ⟨n, ns, rfl, h1, h2⟩
        · rintro ⟨x, t, e, h1, h2⟩
          simp at e
          obtain ⟨rfl, rfl⟩ := e
          exact ⟨h1, h2⟩
end Go.Proofs.YtigcogfjclohjaaGreatDoor
/- Plain facts on names with stars: that each piece may be taken where it is found first. -/
namespace Go.Proofs.YtigcogfjclohjaaGreatDoor
open Go.RowKit Go.Shelf Go.Lib

theorem byte_none (c : UInt8) : ∀ (s : List UInt8), Lib.indexByte s c = -1 → c ∉ s
  | [], _ => by simp
  | x :: r, h => by
    unfold Lib.indexByte at h
    by_cases hc : x = c
    · simp [hc] at h
    · have hb : (x == c) = false := by simp [hc]
      rw [hb] at h
      by_cases h1 : Lib.indexByte r c = -1
      · have := byte_none c r h1
        simp [this, Ne.symm hc]
      · have hge := Lib.indexByte_ge r c
        simp [h1] at h
        omega
theorem byte_some (c : UInt8) : ∀ (s : List UInt8) (i : Nat), Lib.indexByte s c = (i : Int) → s = s.take i ++ c :: s.drop (i + 1) ∧ c ∉ s.take i ∧ i < s.length
  | [], i, h => by simp [Lib.indexByte] at h
  | x :: r, i, h => by
    unfold Lib.indexByte at h
    by_cases hc : x = c
    · simp [hc] at h
      obtain rfl : i = 0 := by omega
      simp [hc]
    · have hb : (x == c) = false := by simp [hc]
      rw [hb] at h
      by_cases h1 : Lib.indexByte r c = -1
      · simp [h1] at h
      · have hge := Lib.indexByte_ge r c
        simp [h1] at h
        obtain ⟨j, rfl⟩ : ∃ j, i = j + 1 := ⟨i - 1, by omega⟩
        obtain ⟨e1, e2, e3⟩ := byte_some c r j (by omega)
        refine ⟨?_, ?_, by simp; omega⟩
        · simpa using e1
        · simp [e2, Ne.symm hc]

theorem Wd_free : ∀ (p s : List UInt8), (42 : UInt8) ∉ p → (Wd oneS same p s ↔ s = p)
  | [], s, _ => by simp [Wd]
  | c :: p, s, h => by
    simp only [List.mem_cons, not_or] at h
    have hc : oneS c = false := by simpa [oneS] using fun e => h.1 e.symm
    rw [Wd_lit oneS same hc]
    constructor
    · rintro ⟨x, t, rfl, hx, h1⟩
      rw [(Wd_free p t h.2).1 h1]
      have : x = c := by simpa [same] using hx
      rw [this]
    · rintro rfl
      exact ⟨c, p, rfl, by simp [same], (Wd_free p p h.2).2 rfl⟩
theorem Wd_ahead (a q n : List UInt8) (h : (42 : UInt8) ∉ a) : Wd oneS same (a ++ q) n ↔ ∃ t, n = a ++ t ∧ Wd oneS same q t := by
  rw [Wd_app]
  constructor
  · rintro ⟨u, t, rfl, h1, h2⟩
    rw [(Wd_free a u h).1 h1]
    exact ⟨t, rfl, h2⟩
  · rintro ⟨t, rfl, h2⟩
    exact ⟨a, t, rfl, (Wd_free a a h).2 rfl, h2⟩
theorem oneS_star : oneS 42 = true := by decide
theorem Wd_more (q t v : List UInt8) (h : Wd oneS same (42 :: q) t) : Wd oneS same (42 :: q) (v ++ t) := by
  rw [Wd_star oneS same oneS_star] at h ⊢
  obtain ⟨u, t', rfl, h1⟩ := h
  exact ⟨v ++ u, t', by simp, h1⟩

/-- What is left to fit behind a star, as package path looks. -/
def tailN (t : List UInt8) (l : List (List UInt8)) : Bool := match seek t l.dropLast with
  | some r => Lib.hasSuffix r (l.getLastD [])
  | none => false
theorem tailN_one (t q : List UInt8) : tailN t [q] = Lib.hasSuffix t q := rfl
theorem tailN_more (t x : List UInt8) (l : List (List UInt8)) (hl : l ≠ []) : tailN t (x :: l) = if 0 ≤ Lib.index t x then tailN (t.drop ((Lib.index t x).toNat + x.length)) l else false := by
  obtain ⟨y, ys, rfl⟩ : ∃ y ys, l = y :: ys := by
    cases l with
    | nil => exact absurd rfl hl
    | cons y ys => exact ⟨y, ys, rfl⟩
  unfold tailN
  rw [List.dropLast_cons_of_ne_nil (by simp)]
  have e : (x :: y :: ys).getLastD [] = (y :: ys).getLastD [] := by simp [List.getLastD]
  rw [e]
  unfold seek
  by_cases h : 0 ≤ Lib.index t x
  · simp only [if_pos h]
    cases hd : (y :: ys).dropLast <;> rfl
  · simp only [if_neg h]

theorem tail_Wd : ∀ (k : Nat) (q t : List UInt8), q.length ≤ k → (tailN t (cutB 42 q) = true ↔ Wd oneS same (42 :: q) t) := by
  intro k
  induction k with
  | zero =>
    intro q t hk
    have : q = [] := List.length_eq_zero_iff.1 (by omega)
    subst this
    rw [Wd_star oneS same oneS_star]
    have e : tailN t (cutB 42 []) = true := by simp [cutB, tailN, seek, Lib.hasSuffix]
    simp only [e, true_iff]
    exact ⟨t, [], by simp, rfl⟩
  | succ k ih =>
    intro q t hk
    have hge := Lib.indexByte_ge q 42
    by_cases hi : Lib.indexByte q 42 = -1
    · rw [cutB_none 42 q hi, tailN_one, Wd_star oneS same oneS_star]
      have hf := byte_none 42 q hi
      unfold Lib.hasSuffix
      rw [List.isSuffixOf_iff_suffix]
      constructor
      · rintro ⟨u, rfl⟩
        exact ⟨u, q, rfl, (Wd_free q q hf).2 rfl⟩
      · rintro ⟨u, t', rfl, h1⟩
        rw [(Wd_free q t' hf).1 h1]
        exact ⟨u, rfl⟩
    · obtain ⟨i, hi'⟩ : ∃ i : Nat, Lib.indexByte q 42 = (i : Int) := ⟨(Lib.indexByte q 42).toNat, by omega⟩
      obtain ⟨e1, e2, e3⟩ := byte_some 42 q i hi'
      obtain ⟨c1, _⟩ := cutB_some 42 q i hi'
      have hd : (q.drop (i + 1)).length ≤ k := by simp; omega
      rw [c1, tailN_more _ _ _ (cutB_ne _ _)]
      have hL : Wd oneS same (42 :: q) t ↔ ∃ u v, t = u ++ (q.take i ++ v) ∧ Wd oneS same (42 :: q.drop (i + 1)) v := by
        rw [Wd_star oneS same oneS_star]
        conv => lhs; rw [e1]
        constructor
        · rintro ⟨u, t', rfl, h1⟩
          obtain ⟨v, rfl, h2⟩ := (Wd_ahead _ _ _ e2).1 h1
          exact ⟨u, v, rfl, h2⟩
        · rintro ⟨u, v, rfl, h2⟩
          exact ⟨u, _, rfl, (Wd_ahead _ _ _ e2).2 ⟨v, rfl, h2⟩⟩
      rw [hL]
      generalize q.take i = x at *
      generalize q.drop (i + 1) = q' at *
      have occ : ∀ (u v : List UInt8), Lib.occAt (u ++ (x ++ v)) x u.length = true := fun u v => by
        unfold Lib.occAt
        rw [List.drop_left, List.isPrefixOf_iff_prefix]
        exact ⟨v, rfl⟩
      rcases Lib.index_spec t x with ⟨h1, h2⟩ | ⟨j, h1, h2, h3, h4⟩
      · rw [h1, if_neg (by decide)]
        constructor
        · intro h; cases h
        · rintro ⟨u, v, rfl, _⟩
          have := h2 u.length (by simp)
          rw [occ] at this
          cases this
      · rw [h1, if_pos (by omega), Int.toNat_natCast, ih q' _ hd]
        constructor
        · intro h
          unfold Lib.occAt at h3
          rw [List.isPrefixOf_iff_prefix] at h3
          obtain ⟨v, hv⟩ := h3
          refine ⟨t.take j, v, by rw [hv, List.take_append_drop], ?_⟩
          have : t.drop (j + x.length) = v := by
            rw [← List.drop_drop, ← hv, List.drop_left]
          rw [← this]
          exact h
        · rintro ⟨u, v, rfl, h⟩
          have hju : j ≤ u.length := by
            rcases Nat.lt_or_ge u.length j with hlt | hge
            · have := h4 u.length hlt
              rw [occ] at this
              cases this
            · exact hge
          have : (u ++ (x ++ v)).drop (j + x.length) = (u ++ x).drop (j + x.length) ++ v := by
            rw [← List.append_assoc, List.drop_append_of_le_length (by simp; omega)]
          rw [this]
          exact Wd_more _ _ _ h

theorem fitN_tail (p n : List UInt8) : fitN p n = if 0 ≤ Lib.index p [42] then (if Lib.hasPrefix n (p.take (Lib.index p [42]).toNat) = true then tailN (n.drop (p.take (Lib.index p [42]).toNat).length) (cutB 42 (p.drop ((Lib.index p [42]).toNat + 1))) else false) else decide (p = n) := rfl

/-- Does a name fit one with stars, as package path looks: what it is to fit, of letters. -/
theorem fitN_Wd (p n : List UInt8) : fitN p n = true ↔ Wd oneS same p n := by
  rw [fitN_tail, Lib.index_one]
  have hge := Lib.indexByte_ge p 42
  by_cases hi : Lib.indexByte p 42 = -1
  · rw [hi, if_neg (by decide), Wd_free p n (byte_none 42 p hi)]
    simp [eq_comm]
  · obtain ⟨i, hi'⟩ : ∃ i : Nat, Lib.indexByte p 42 = (i : Int) := ⟨(Lib.indexByte p 42).toNat, by omega⟩
    obtain ⟨e1, e2, e3⟩ := byte_some 42 p i hi'
    rw [hi', if_pos (by omega), Int.toNat_natCast]
    have hW : Wd oneS same p n ↔ ∃ t, n = p.take i ++ t ∧ Wd oneS same (42 :: p.drop (i + 1)) t := by
      conv => lhs; rw [e1]
      exact Wd_ahead _ _ _ e2
    rw [hW]
    generalize p.take i = a at *
    generalize p.drop (i + 1) = q at *
    unfold Lib.hasPrefix
    by_cases hp : a.isPrefixOf n = true
    · rw [if_pos hp, tail_Wd q.length q _ (Nat.le_refl _)]
      obtain ⟨t, rfl⟩ := List.isPrefixOf_iff_prefix.1 hp
      rw [List.drop_left]
      constructor
      · exact fun h => ⟨t, rfl, h⟩
      · rintro ⟨t', e, h⟩
        rw [List.append_cancel_left e]
        exact h
    · rw [if_neg hp]
      constructor
      · intro h; cases h
      · rintro ⟨t, rfl, _⟩
        exact absurd (List.isPrefixOf_iff_prefix.2 ⟨t, rfl⟩) hp
end Go.Proofs.YtigcogfjclohjaaGreatDoor
/- Rows of truth values that a walk fills: what they hold; tables of a pattern's beginnings against a name's. -/
namespace Go.Proofs.YtigcogfjclohjaaGreatDoor
open Go.RowKit Go.Shelf Go.Lib

def rowB (n : Nat) (f : Nat → Bool) : List Value := (List.range n).map (fun j => Value.bool (f j))
theorem rowB_get {n : Nat} (f : Nat → Bool) {j : Nat} (h : j < n) : (rowB n f)[j]? = some (.bool (f j)) := by
  simp [rowB, h]
theorem rowB_congr {n : Nat} {f g : Nat → Bool} (h : ∀ j, j < n → f j = g j) : rowB n f = rowB n g := by
  unfold rowB
  exact List.map_congr_left fun j hj => by rw [h j (List.mem_range.1 hj)]
theorem rowB_set (n : Nat) (f : Nat → Bool) (k : Nat) (b : Bool) : (rowB n f).set k (.bool b) = rowB n (fun j => if j = k then b else f j) := by
  apply List.ext_getElem?
  intro j
  unfold rowB
  rw [List.getElem?_set]
  by_cases hj : j < n
  · by_cases e : k = j
    · subst e; simp [hj]
    · have e' : ¬ j = k := fun h => e h.symm
      simp [hj, e, e']
  · by_cases e : k = j
    · subst e; simp [hj]
    · simp [hj, e]
theorem rowB_none (n : Nat) : List.replicate n (Value.bool false) = rowB n (fun _ => false) := by
  unfold rowB
  rw [List.map_const']
  simp

/-- A row of truth values that the call made. -/
def Own (W : World) (B g n : Nat) (f : Nat → Bool) : Prop := W.ownsRow B 4 1 (.slice (some ⟨g, 0, none⟩) n n) n (rowB n f)
theorem Own.cell {W : World} {B g n : Nat} {f : Nat → Bool} (h : Own W B g n f) {j : Nat} (hj : j < n) : W.cell? ⟨g, j, none⟩ = some (.bool (f j)) := by
  have := World.ownsRow.cellAt h j (by omega)
  rw [this, rowB_get f hj]
theorem Own.lt {W : World} {B g n : Nat} {f : Nat → Bool} (h : Own W B g n f) : g < W.heap.size ∧ B ≤ g := by
  rcases h.2 with ⟨h', _⟩ | ⟨g', cap', cur, h', hb, hg, _⟩
  · cases h'
  · cases h'
    exact ⟨(Array.getElem?_eq_some_iff.1 hg).1, hb⟩
theorem Own.grown {W W' : World} {B g n : Nat} {f : Nat → Bool} (h : Own W B g n f) (hg : W.grownBy W' none) : Own W' B g n f :=
  World.ownsRow.kept h hg (.inr (by simp [Value.ownBlock]))
theorem Own.other {W : World} {B g n : Nat} {f : Nat → Bool} (h : Own W B g n f) {g' : Nat} (hne : g ≠ g') (k : Nat) (u : Value) : Own (W.setCell ⟨g', k, none⟩ u) B g n f :=
  ownsRow_setCell_other h (by simp [Value.ownBlock, hne]) u
theorem Own.set {W : World} {B g n : Nat} {f f' : Nat → Bool} (h : Own W B g n f) (k : Nat) (b : Bool) (hf : ∀ j, j < n → (if j = k then b else f j) = f' j) : Own (W.setCell ⟨g, k, none⟩ (.bool b)) B g n f' := by
  have := (World.ownsRow.stored h k (.bool b)).1
  rw [rowB_set, rowB_congr hf] at this
  exact this
theorem below_grown {B : Nat} {w W W' : World} (hB : Below B w W) (hn : B ≤ W.heap.size) (hg : W.grownBy W' none) : Below B w W' :=
  hB.grown hg hn (fun j e => by cases e)

theorem Tryz.infoBool : (Tryz.prog.info? 4).map (fun i => (i.zero, i.size, i.bytes)) = some (some (.bool false), 1, 1) := by kernel_rfl

/-- A table: how beginnings of a pattern stand to beginnings of what is held against it. -/
structure Table (m n : Nat) (st : Nat → Bool) (eq : Nat → Nat → Bool) (R : Nat → Nat → Bool) : Prop where
  start : R 0 0 = true
  none : ∀ k, k < n → R 0 (k + 1) = false
  star0 : ∀ i, i < m → st i = true → R (i + 1) 0 = R i 0
  star : ∀ i k, i < m → k < n → st i = true → R (i + 1) (k + 1) = (R i (k + 1) || R (i + 1) k)
  lit0 : ∀ i, i < m → st i = false → R (i + 1) 0 = false
  lit : ∀ i k, i < m → k < n → st i = false → R (i + 1) (k + 1) = (R i k && eq i k)

theorem made_row {W : World} {B g n : Nat} (h : W.ownsRow B 4 1 (.slice (some ⟨g, 0, none⟩) n n) n (madeCells (Value.bool false).cells (n * 1)).toList) : Own W B g n (fun _ => false) := by
  have e : (madeCells (Value.bool false).cells (n * 1)).toList = rowB n (fun _ => false) := by
    rw [Nat.mul_one, ← rowB_none]
    exact toList_madeCells_one _ _
  rw [e] at h
  exact h
end Go.Proofs.YtigcogfjclohjaaGreatDoor
/- The walk of the document's answer's starOf: the last of its table. -/
namespace Go.Proofs.YtigcogfjclohjaaGreatDoor
open Go.RowKit Go.Shelf Go.Lib

set_option maxRecDepth 100000 in
set_option maxHeartbeats 8000000 in
theorem starOf_walk (ps ss : ByteArray) (p s : List UInt8) (Tp : Txt ps p) (Ts : Txt ss s) (hp : p.length ≤ 1000) (hs : s.length ≤ 1000) (R : Nat → Nat → Bool) (b : Bool) (hb : Hid (R p.length s.length = b))
    (T : Hid (Table p.length s.length (fun i => p.getD i 0 == 42) (fun i k => s.getD k 0 == p.getD i 0) R)) (w : World) :
    Calls Tryz.prog 53 #[.string ps, .string ss] w fun e w' => e = .returned (.bool b) ∧ Below w.heap.size w w' := by
  obtain ⟨i0, hi, hz0, hz1, hz2⟩ := info_parts Tryz.infoBool
  have zp : ps.size = p.length := Tp.size
  have zs : ss.size = s.length := Ts.size
  have hml : s.length + 1 ≤ maxLen := by unfold maxLen; omega
  have hby : i0.bytes * (s.length + 1) ≤ 281474976710656 := by rw [hz2]; omega
  go_enter Tryz.func53, Tryz.ntmps53
  go_wp2_with (at_make; refine wpList_make_full _ rfl _ _ 101 rfl w.heap.size 4 i0 (.bool false) 1 Tryz.underlying101 hi hz0 hz1 .i64 .i64 _ _ (s.length + 1) rfl rfl (by omega) (by omega) hby hml (Nat.le_refl _) ?_; intro w1 hown hgrow; have O1 := made_row hown; have hc0 := O1.cell (j := 0) (by omega); have hf0 := World.ownsRow.frozenAt hown 0)
  have B1 : Below w.heap.size w w1 := below_grown (Below.refl _ w) (Nat.le_refl _) hgrow
  have O2 : Own (w1.setCell ⟨w.heap.size, 0, none⟩ (.bool true)) w.heap.size w.heap.size (s.length + 1) (R 0) := O1.set 0 true fun j hj => by
    by_cases e : j = 0
    · subst e; rw [if_pos rfl]; exact T.out.start.symm
    · obtain ⟨j', rfl⟩ : ∃ j', j = j' + 1 := ⟨j - 1, by omega⟩
      rw [if_neg e]; exact (T.out.none j' (by omega)).symm
  have B2 : Below w.heap.size w (w1.setCell ⟨w.heap.size, 0, none⟩ (.bool true)) := B1.setCell (p := ⟨w.heap.size, 0, none⟩) (Nat.le_refl _) _
  clear hown hgrow O1 hc0 hf0 B1
  go_loopw [5, 6] (fun fv iv wr => ∃ (i g : Nat), i ≤ p.length ∧ iv = .int .i64 i ∧ fv = .slice (some ⟨g, 0, none⟩) (s.length + 1) (s.length + 1) ∧ Own wr w.heap.size g (s.length + 1) (R i) ∧ Below w.heap.size w wr) (fun _ iv _ => p.length - (intOf iv).toNat)
  case atStart => exact ⟨0, w.heap.size, by omega, rfl, rfl, O2, B2⟩
  case round =>
    obtain ⟨i, g, hik, rfl, rfl, O, B⟩ := hrel
    clear O2 B2
    by_cases hlt : i < p.length
    · have hlt2 : i < ps.size := by omega
      have hBz : w.heap.size ≤ wr.heap.size := B.size
      go_wp2_with (at_make; refine wpList_make_full _ rfl _ _ 101 rfl w.heap.size 4 i0 (.bool false) 1 Tryz.underlying101 hi hz0 hz1 .i64 .i64 _ _ (s.length + 1) rfl rfl (by omega) (by omega) hby hml hBz ?_; intro w2 hown hgrow)
      have N0 := made_row hown
      have O0 := O.grown hgrow
      have Bb : Below w.heap.size w w2 := below_grown B hBz hgrow
      have hne : g ≠ wr.heap.size := Nat.ne_of_lt O.lt.1
      have hgn : w.heap.size ≤ wr.heap.size := hBz
      generalize wr.heap.size = gn at *
      clear hown hgrow O B hBz
      go_loopw [8] (fun kv wr => ∃ k : Nat, k ≤ s.length + 1 ∧ kv = .int .i64 k ∧ Own wr w.heap.size g (s.length + 1) (R i) ∧ Own wr w.heap.size gn (s.length + 1) (fun j => decide (j < k) && R (i + 1) j) ∧ Below w.heap.size w wr) (fun kv _ => s.length + 1 - (intOf kv).toNat)
      case atStart => exact ⟨0, by omega, rfl, O0, by simpa using N0, Bb⟩
      case round =>
        obtain ⟨k, hk, rfl, O, N, B⟩ := hrel
        clear O0 N0 Bb
        by_cases hkl : k < s.length + 1
        · have hk1 : (k : Int) ≤ (ss.size : Int) := by omega
          have hfn := World.ownsRow.frozenAt N k
          obtain ⟨xn, hcn⟩ : ∃ x, wr.cell? ⟨gn, k, none⟩ = some (.bool x) := ⟨_, N.cell hkl⟩
          have hcf := O.cell hkl
          have step : Hid (∀ (W : World) (b : Bool), R (i + 1) k = b → W.heap = wr.heap → Below w.heap.size wr W → Own (W.setCell ⟨gn, k, none⟩ (.bool b)) w.heap.size g (s.length + 1) (R i) ∧ Own (W.setCell ⟨gn, k, none⟩ (.bool b)) w.heap.size gn (s.length + 1) (fun j => decide (j < k + 1) && R (i + 1) j) ∧ Below w.heap.size w (W.setCell ⟨gn, k, none⟩ (.bool b))) := fun W b hR hW hWB => by
            have O' : Own W w.heap.size g (s.length + 1) (R i) := by unfold Own World.ownsRow at O ⊢; rw [hW]; exact O
            have N' : Own W w.heap.size gn (s.length + 1) (fun j => decide (j < k) && R (i + 1) j) := by unfold Own World.ownsRow at N ⊢; rw [hW]; exact N
            refine ⟨O'.other hne k _, N'.set k b fun j hj => ?_, (B.trans hWB).setCell (p := ⟨gn, k, none⟩) hgn _⟩
            by_cases e : j = k
            · subst e; simp [hR]
            · have : decide (j < k + 1) = decide (j < k) := by simp; omega
              simp [e, this]
          by_cases hst : p[i] = 42
          · have hsi : (p.getD i 0 == 42) = true := by simp [hlt, hst]
            have ht : ((ps[i].toNat : Int) == 42) = true := by rw [Tp.get i hlt hlt2, hst]; rfl
            cases hr : R i k with
            | true =>
              rw [hr] at hcf
              have hR : R (i + 1) k = true := by
                cases k with
                | zero => rw [T.out.star0 i hlt hsi, hr]
                | succ k => rw [T.out.star i k hlt (by omega) hsi, hr]; rfl
              have HS : Hid _ := step.out wr true hR rfl (Below.refl _ _)
              clear step hr hR hst hsi
              go_wp2
              exact ⟨⟨k + 1, by omega, by go_num, HS.out.1, HS.out.2.1, HS.out.2.2⟩, by simp [intOf]; omega⟩
            | false =>
              rw [hr] at hcf
              cases k with
              | zero =>
                have hR : R (i + 1) 0 = false := by rw [T.out.star0 i hlt hsi, hr]
                have HS : Hid _ := step.out wr false hR rfl (Below.refl _ _)
                clear step hr hR hst hsi
                go_wp2
                exact ⟨⟨1, by omega, by go_num, HS.out.1, HS.out.2.1, HS.out.2.2⟩, by simp [intOf]⟩
              | succ k =>
                have hk2 : (k : Int) + 1 ≤ (ss.size : Int) := by omega
                have hk0 : (0 : Int) < (k : Int) + 1 := by omega
                have hcp := N.cell (j := k) (by omega)
                obtain ⟨b', hb'⟩ : ∃ b', R (i + 1) k = b' := ⟨_, rfl⟩
                have hR : R (i + 1) (k + 1) = b' := by rw [T.out.star i k hlt (by omega) hsi, hr, hb']; rfl
                rw [show (decide (k < k + 1) && R (i + 1) k) = b' by rw [hb']; simp] at hcp
                have HS : Hid _ := step.out wr b' hR rfl (Below.refl _ _)
                clear step hr hR hst hsi hb' hk1
                go_wp2
                exact ⟨⟨k + 1 + 1, by omega, by go_num, HS.out.1, HS.out.2.1, HS.out.2.2⟩, by simp [intOf]; omega⟩
          · have hsi : (p.getD i 0 == 42) = false := by simp [hlt, hst]
            have ht : ((ps[i].toNat : Int) == 42) = false := by
              rw [Tp.get i hlt hlt2]
              simp
              intro e
              exact hst (UInt8.toNat_inj.1 (by have : p[i].toNat = 42 := by omega
                                               exact this))
            cases k with
            | zero =>
              have hR : R (i + 1) 0 = false := T.out.lit0 i hlt hsi
              have HS : Hid (∀ q, Own _ _ _ _ _ ∧ Own _ _ _ _ _ ∧ Below _ _ _) := fun q => step.out (wr.drewN q) false hR rfl (below_draws (Below.refl _ _) q)
              clear step hR hst hsi
              go_wp2
              go_region
              all_goals
                go_wp2
                exact ⟨⟨1, by omega, by go_num, (HS.out _).1, (HS.out _).2.1, (HS.out _).2.2⟩, by simp [intOf]⟩
            | succ k =>
              have hk2 : (k : Int) + 1 ≤ (ss.size : Int) := by omega
              have hk0 : (0 : Int) < (k : Int) + 1 := by omega
              have hks : k < s.length := by omega
              have hkb : k < ss.size := by omega
              have hcq := O.cell (j := k) (by omega)
              cases hr : R i k with
              | false =>
                rw [hr] at hcq
                have hR : R (i + 1) (k + 1) = false := by rw [T.out.lit i k hlt (by omega) hsi, hr]; rfl
                have HS : Hid (∀ q, Own _ _ _ _ _ ∧ Own _ _ _ _ _ ∧ Below _ _ _) := fun q => step.out (wr.drewN q) false hR rfl (below_draws (Below.refl _ _) q)
                clear step hr hR hst hsi hk1
                go_wp2
                go_region
                all_goals
                  go_wp2
                  exact ⟨⟨k + 1 + 1, by omega, by go_num, (HS.out _).1, (HS.out _).2.1, (HS.out _).2.2⟩, by simp [intOf]; omega⟩
              | true =>
                rw [hr] at hcq
                have hR : R (i + 1) (k + 1) = ((ss[k].toNat : Int) == (ps[i].toNat : Int)) := by
                  rw [T.out.lit i k hlt (by omega) hsi, hr, Bool.true_and, Tp.get i hlt hlt2, Ts.get k hks hkb]
                  simp only [List.getD_eq_getElem?_getD, List.getElem?_eq_getElem hlt, List.getElem?_eq_getElem hks, Option.getD_some]
                  rw [Bool.eq_iff_iff]
                  simp only [beq_iff_eq]
                  exact ⟨fun e => by rw [e], fun e => UInt8.toNat_inj.1 (by omega)⟩
                have HS : Hid (∀ q, Own _ _ _ _ _ ∧ Own _ _ _ _ _ ∧ Below _ _ _) := fun q => step.out (wr.drewN q) _ hR rfl (below_draws (Below.refl _ _) q)
                clear step hr hR hst hsi hk1
                go_wp2
                go_region
                all_goals
                  go_wp2
                  exact ⟨⟨k + 1 + 1, by omega, by go_num, (HS.out _).1, (HS.out _).2.1, (HS.out _).2.2⟩, by simp [intOf]; omega⟩
        · have hkk : k = s.length + 1 := by omega
          have hgt : (ss.size : Int) < (k : Int) := by omega
          have N' : Own wr w.heap.size gn (s.length + 1) (R (i + 1)) := by
            have e : rowB (s.length + 1) (fun j => decide (j < k) && R (i + 1) j) = rowB (s.length + 1) (R (i + 1)) := rowB_congr fun j hj => by simp [show j < k by omega]
            unfold Own at N ⊢
            rw [e] at N
            exact N
          clear hkk
          go_wp2
          exact ⟨⟨i + 1, gn, by omega, by go_num, rfl, N', B⟩, by simp [intOf]; omega⟩
    · have hii : i = p.length := by omega
      have hge : (ps.size : Int) ≤ (i : Int) := by omega
      have hcl := O.cell (j := s.length) (by omega)
      have HB : Hid (R i s.length = b) := by rw [hii]; exact hb
      clear hii
      go_wp2
      go_ret
      exact ⟨ret_bool HB.out, B⟩
end Go.Proofs.YtigcogfjclohjaaGreatDoor
/- The tables of the document's answer, filled by what package path tells of beginnings; what MatchOf answers where there is no pattern, or no path. -/
namespace Go.Proofs.YtigcogfjclohjaaGreatDoor
open Go.RowKit Go.Shelf Go.Lib

theorem bool_iff {a b : Bool} {p q : Prop} (ha : a = true ↔ p) (hb : b = true ↔ q) (h : p ↔ q) : a = b := by
  rw [Bool.eq_iff_iff, ha, hb, h]

theorem table_of {α β : Type} (st : α → Bool) (eq : α → β → Bool) (p : List α) (s : List β) (st' : Nat → Bool) (eq' : Nat → Nat → Bool)
    (hst : ∀ i (h : i < p.length), st' i = st p[i]) (heq : ∀ i k (h : i < p.length) (h' : k < s.length), eq' i k = eq p[i] s[k]) (R : Nat → Nat → Bool)
    (hR : ∀ i k, i ≤ p.length → k ≤ s.length → (R i k = true ↔ Wd st eq (p.take i) (s.take k))) : Table p.length s.length st' eq' R where
  start := (hR 0 0 (by omega) (by omega)).2 rfl
  none k hk := by
    have h := hR 0 (k + 1) (by omega) (by omega)
    cases hx : R 0 (k + 1) with
    | false => rfl
    | true =>
      have h1 : s.take (k + 1) = [] := h.1 hx
      have h2 := congrArg List.length h1
      simp at h2
      subst h2
      simp at hk
  star0 i hi hs := by
    rw [hst i hi] at hs
    refine bool_iff (hR (i + 1) 0 (by omega) (by omega)) (hR i 0 (by omega) (by omega)) ?_
    rw [List.take_succ_eq_append_getElem hi]
    exact Wd_star_nil st eq hs _
  star i k hi hk hs := by
    rw [hst i hi] at hs
    rw [Bool.eq_iff_iff, Bool.or_eq_true, hR (i + 1) (k + 1) (by omega) (by omega), hR i (k + 1) (by omega) (by omega), hR (i + 1) k (by omega) (by omega)]
    rw [List.take_succ_eq_append_getElem hi, List.take_succ_eq_append_getElem hk]
    exact Wd_star_step st eq hs _ _ _
  lit0 i hi hs := by
    rw [hst i hi] at hs
    have h := hR (i + 1) 0 (by omega) (by omega)
    cases hx : R (i + 1) 0 with
    | false => rfl
    | true =>
      have h1 := h.1 hx
      rw [List.take_succ_eq_append_getElem hi] at h1
      exact absurd h1 (Wd_lit_nil st eq hs _)
  lit i k hi hk hs := by
    rw [hst i hi] at hs
    rw [Bool.eq_iff_iff, Bool.and_eq_true, hR (i + 1) (k + 1) (by omega) (by omega), hR i k (by omega) (by omega), heq i k hi hk]
    rw [List.take_succ_eq_append_getElem hi, List.take_succ_eq_append_getElem hk]
    exact Wd_lit_step st eq hs _ _ _

theorem starOf_calls (p s : List UInt8) (hp : p.length ≤ 1000) (hs : s.length ≤ 1000) (w : World) :
    Calls Tryz.prog 53 #[.string (ba p), .string (ba s)] w fun e w' => e = .returned (.bool (fitN p s)) ∧ Below w.heap.size w w' := by
  obtain ⟨ps, ep, Tp⟩ := txt p
  obtain ⟨ss, es, Ts⟩ := txt s
  rw [ep, es]
  refine starOf_walk ps ss p s Tp Ts hp hs (fun i k => fitN (p.take i) (s.take k)) (fitN p s) (show fitN (p.take p.length) (s.take s.length) = fitN p s by rw [List.take_length, List.take_length]) ?_ w
  refine table_of oneS same p s _ _ (fun i h => ?_) (fun i k h h' => ?_) _ (fun i k _ _ => fitN_Wd _ _)
  · simp [oneS, h]
  · simp [same, h, h']

theorem name_len {b : Bool} {p : List UInt8} (h : nameR b p = true) : p.length ≤ 12 := by
  unfold nameR at h
  simp only [Bool.and_eq_true, decide_eq_true_eq] at h
  exact h.1.1.1.2

theorem partsOf_yes (stars : Bool) (s : List UInt8) (hs : s.length ≤ 1000000) (h : okR stars s = true) :
    Hid (∀ W, Calls Tryz.prog 52 #[.string (ba s), .bool stars] W fun e w' => ∃ g cap, e = .returned (.slice (some ⟨g, 0, none⟩) (Kf.parts s).length cap) ∧ g < w'.heap.size ∧ (∀ (j : Nat) (h : j < (Kf.parts s).length), w'.cell? ⟨g, j, none⟩ = some (.string (ba (Kf.parts s)[j]))) ∧ Below W.heap.size W w') := fun W => by
  refine (partsOf_calls stars s hs W).mono ?_
  rintro e w' ⟨v, rfl, (⟨_, hrow⟩ | ⟨ho, _⟩), hB⟩
  · have hne := Kf.parts_ne s
    generalize Kf.parts s = l at *
    obtain ⟨g, cap, rfl⟩ : ∃ g cap, v = .slice (some ⟨g, 0, none⟩) l.length cap := by
      cases l with
      | nil => exact absurd rfl hne
      | cons x xs => exact ownsRow_succ hrow
    have hc : ∀ (j : Nat) (h : j < l.length), w'.cell? ⟨g, j, none⟩ = some (.string (ba l[j])) := fun j hj => by
      have := hrow.cellAt j (by omega)
      rw [this, List.getElem?_map, List.getElem?_eq_getElem hj]
      rfl
    exact ⟨g, cap, rfl, lt_of_cell (hc 0 (List.length_pos_iff.2 hne)), hc, hB⟩
  · rw [h] at ho; cases ho

theorem okR_parts' {b : Bool} {s : List UInt8} (h : okR b s = true) : (Kf.parts s).length ≤ 5 ∧ (∀ p ∈ Kf.parts s, nameR b p = true) := by
  unfold okR at h
  simp only [Bool.and_eq_true, List.all_eq_true, decide_eq_true_eq] at h
  exact h

theorem partsOf_no (stars : Bool) (s : List UInt8) (hs : s.length ≤ 1000000) (h : okR stars s = false) :
    Hid (∀ W, Calls Tryz.prog 52 #[.string (ba s), .bool stars] W fun e w' => e = .returned (.slice none 0 0) ∧ Below W.heap.size W w') := fun W => by
  refine (partsOf_calls stars s hs W).mono ?_
  rintro e w' ⟨v, rfl, (⟨ho, _⟩ | ⟨_, rfl⟩), hB⟩
  · rw [h] at ho; cases ho
  · exact ⟨rfl, hB⟩

theorem MatchOf_noPat (p s : List UInt8) (hp : p.length ≤ 1000000) (hs : s.length ≤ 1000000) (h1 : okR true p = false) (w : World) :
    Calls Tryz.prog 23 #[.string (ba p), .string (ba s)] w fun e w' => e = .returned (.tuple #[.bool false, .int .i64 4]) ∧ Below w.heap.size w w' := by
  have HP := partsOf_no true p hp h1
  have HL : Hid (∀ W, Calls Tryz.prog 52 #[.string (ba s), .bool false] W fun e w' => ∃ a n c, e = .returned (.slice a n c) ∧ Below W.heap.size W w') := fun W => by
    refine (partsOf_calls false s hs W).mono ?_
    rintro e w' ⟨v, rfl, h, hB⟩
    rcases h with ⟨_, hrow⟩ | ⟨_, rfl⟩
    · rcases hrow.2 with ⟨rfl, _⟩ | ⟨g, cap, cur, rfl, _⟩
      · exact ⟨_, _, _, rfl, hB⟩
      · exact ⟨_, _, _, rfl, hB⟩
    · exact ⟨_, _, _, rfl, hB⟩
  clear h1
  go_enter Tryz.func23, Tryz.ntmps23
  go_wp2_with fail
  refine (HP.out _).mono ?_
  rintro e w1 ⟨rfl, g1⟩
  go_wp2_with fail
  refine (HL.out _).mono ?_
  rintro e w2 ⟨a, n, c, rfl, g2⟩
  go_wp2
  go_ret2
  exact ⟨rfl, g1.trans (g2.mono g1.size)⟩

theorem MatchOf_noPath (p s : List UInt8) (hp : p.length ≤ 1000000) (hs : s.length ≤ 1000000) (h1 : okR true p = true) (h2 : okR false s = false) (w : World) :
    Calls Tryz.prog 23 #[.string (ba p), .string (ba s)] w fun e w' => e = .returned (.tuple #[.bool false, .int .i64 4]) ∧ Below w.heap.size w w' := by
  have HL := partsOf_no false s hs h2
  have HP : Hid (∀ W, Calls Tryz.prog 52 #[.string (ba p), .bool true] W fun e w' => ∃ g cap, e = .returned (.slice (some ⟨g, 0, none⟩) (Kf.parts p).length cap) ∧ Below W.heap.size W w') := fun W => by
    refine ((partsOf_yes true p hp h1).out W).mono ?_
    rintro e w' ⟨g, cap, rfl, _, _, hB⟩
    exact ⟨_, _, rfl, hB⟩
  have hz := List.length_pos_iff.2 (Kf.parts_ne p)
  generalize (Kf.parts p).length = n at *
  have zP : ((n : Int) == 0) = false := beq_eq_false_iff_ne.2 (by omega)
  clear h1 h2 hz
  go_enter Tryz.func23, Tryz.ntmps23
  go_wp2_with fail
  refine (HP.out _).mono ?_
  rintro e w1 ⟨g, cap, rfl, g1⟩
  go_wp2_with fail
  refine (HL.out _).mono ?_
  rintro e w2 ⟨rfl, g2⟩
  go_wp2
  go_ret2
  exact ⟨rfl, g1.trans (g2.mono g1.size)⟩
end Go.Proofs.YtigcogfjclohjaaGreatDoor
