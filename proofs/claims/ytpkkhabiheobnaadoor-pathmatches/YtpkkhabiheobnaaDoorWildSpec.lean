/- Plain facts on patterns: what it is to fit; that looking from the end is looking from the start; that each piece may be taken where it is found first. -/
import Derived.Test.YtpkkhabiheobnaaDoorFitSpec
namespace Go.Proofs.YtpkkhabiheobnaaDoor
open Go.RowKit Go.Shelf Go.Lib

section
variable {α β : Type} (st : α → Bool) (eq : α → β → Bool)
/-- A list fits a pattern: a star takes any of it. -/
def Wd : List α → List β → Prop
  | [], s => s = []
  | a :: p, s => if st a = true then ∃ u t, s = u ++ t ∧ Wd p t else ∃ x t, s = x :: t ∧ eq a x = true ∧ Wd p t

theorem Wd_app : ∀ (p q : List α) (s : List β), Wd st eq (p ++ q) s ↔ ∃ u t, s = u ++ t ∧ Wd st eq p u ∧ Wd st eq q t
  | [], q, s => by
    simp only [List.nil_append, Wd]
    exact ⟨fun h => ⟨[], s, rfl, rfl, h⟩, fun ⟨u, t, e, hu, h⟩ => by subst hu; simpa [e] using h⟩
  | a :: p, q, s => by
    simp only [List.cons_append, Wd]
    by_cases h : st a = true
    · simp only [if_pos h]
      constructor
      · rintro ⟨u, t, rfl, ht⟩
        obtain ⟨u', t', rfl, h1, h2⟩ := (Wd_app p q t).1 ht
        exact ⟨u ++ u', t', by simp, ⟨u, u', rfl, h1⟩, h2⟩
      · rintro ⟨u, t, rfl, ⟨u', t', rfl, h1⟩, h2⟩
        exact ⟨u', t' ++ t, by simp, (Wd_app p q _).2 ⟨t', t, rfl, h1, h2⟩⟩
    · simp only [if_neg h]
      constructor
      · rintro ⟨x, t, rfl, hx, ht⟩
        obtain ⟨u', t', rfl, h1, h2⟩ := (Wd_app p q t).1 ht
        exact ⟨x :: u', t', by simp, ⟨x, u', rfl, hx, h1⟩, h2⟩
      · rintro ⟨u, t, rfl, ⟨x, t', rfl, hx, h1⟩, h2⟩
        exact ⟨x, t' ++ t, by simp, hx, (Wd_app p q _).2 ⟨t', t, rfl, h1, h2⟩⟩

theorem Wd_star {a : α} (h : st a = true) (p : List α) (s : List β) : Wd st eq (a :: p) s ↔ ∃ u t, s = u ++ t ∧ Wd st eq p t := by
  simp only [Wd, if_pos h]
theorem Wd_lit {a : α} (h : st a = false) (p : List α) (s : List β) : Wd st eq (a :: p) s ↔ ∃ x t, s = x :: t ∧ eq a x = true ∧ Wd st eq p t := by
  have h' : ¬ st a = true := by rw [h]; simp
  simp only [Wd, if_neg h']
theorem Wd_snoc_star {a : α} (h : st a = true) (p : List α) (s : List β) : Wd st eq (p ++ [a]) s ↔ ∃ u t, s = u ++ t ∧ Wd st eq p u := by
  rw [Wd_app]
  constructor
  · rintro ⟨u, t, e, h1, _⟩; exact ⟨u, t, e, h1⟩
  · rintro ⟨u, t, e, h1⟩; exact ⟨u, t, e, h1, (Wd_star st eq h [] t).2 ⟨t, [], by simp, rfl⟩⟩
theorem Wd_snoc_lit {a : α} (h : st a = false) (p : List α) (s : List β) : Wd st eq (p ++ [a]) s ↔ ∃ u x, s = u ++ [x] ∧ eq a x = true ∧ Wd st eq p u := by
  rw [Wd_app]
  constructor
  · rintro ⟨u, t, rfl, h1, h2⟩
    obtain ⟨x, t', rfl, hx, h3⟩ := (Wd_lit st eq h [] t).1 h2
    have : t' = [] := h3
    subst this
    exact ⟨u, x, rfl, hx, h1⟩
  · rintro ⟨u, x, rfl, hx, h1⟩
    exact ⟨u, [x], rfl, h1, (Wd_lit st eq h [] [x]).2 ⟨x, [], rfl, hx, rfl⟩⟩

/-- A table's rules hold of any truth values that tell which beginnings fit. -/
theorem Wd_star_step {a : α} (h : st a = true) (p : List α) (s : List β) (x : β) : Wd st eq (p ++ [a]) (s ++ [x]) ↔ (Wd st eq p (s ++ [x]) ∨ Wd st eq (p ++ [a]) s) := by
  rw [Wd_snoc_star st eq h, Wd_snoc_star st eq h]
  constructor
  · rintro ⟨u, t, e, h1⟩
    rcases List.eq_nil_or_concat t with rfl | ⟨t', y, rfl⟩
    · rw [List.append_nil] at e
      exact .inl (by rw [e]; exact h1)
    · rw [List.concat_eq_append, ← List.append_assoc] at e
      exact .inr ⟨u, t', List.append_inj_left' e rfl, h1⟩
  · rintro (h1 | ⟨u, t, rfl, h1⟩)
    · exact ⟨s ++ [x], [], by simp, h1⟩
    · exact ⟨u, t ++ [x], by simp, h1⟩
theorem Wd_star_nil {a : α} (h : st a = true) (p : List α) : Wd st eq (p ++ [a]) [] ↔ Wd st eq p [] := by
  rw [Wd_snoc_star st eq h]
  constructor
  · rintro ⟨u, t, e, h1⟩
    obtain ⟨rfl, rfl⟩ := List.append_eq_nil_iff.1 e.symm
    exact h1
  · exact fun h1 => ⟨[], [], rfl, h1⟩
theorem Wd_lit_step {a : α} (h : st a = false) (p : List α) (s : List β) (x : β) : Wd st eq (p ++ [a]) (s ++ [x]) ↔ (Wd st eq p s ∧ eq a x = true) := by
  rw [Wd_snoc_lit st eq h]
  constructor
  · rintro ⟨u, y, e, h1, h2⟩
    have e1 := List.append_inj_left' e rfl
    have e2 := List.append_inj_right' e rfl
    simp at e2
    subst e1 e2
    exact ⟨h2, h1⟩
  · rintro ⟨h1, h2⟩
    exact ⟨s, x, rfl, h2, h1⟩
theorem Wd_lit_nil {a : α} (h : st a = false) (p : List α) : ¬ Wd st eq (p ++ [a]) ([] : List β) := by
  rw [Wd_snoc_lit st eq h]
  rintro ⟨u, x, e, _⟩
  have := congrArg List.length e
  simp at this
end

def twoS (p : List UInt8) : Bool := p == [42, 42]
def oneS (c : UInt8) : Bool := c == 42
def same (a b : UInt8) : Bool := b == a

/-- Do parts fit, as package path looks: what it is to fit, of parts. -/
theorem fitL_Wd : ∀ (f : Nat) (pat names : List (List UInt8)), pat.length + names.length < f → (fitL f pat names = true ↔ Wd twoS fitN pat names)
  | 0, _, _, h => by omega
  | f + 1, [], names, h => by simp [fitL, Wd]
  | f + 1, p :: ps, names, h => by
    simp only [List.length_cons] at h
    by_cases hp : p = [42, 42]
    · have hs : twoS p = true := by simp [twoS, hp]
      rw [Wd_star twoS fitN hs]
      simp only [fitL, if_pos hp, Bool.or_eq_true]
      rw [fitL_Wd f ps names (by omega)]
      cases names with
      | nil =>
        simp only [Bool.false_eq_true, or_false]
        constructor
        · exact fun h1 => ⟨[], [], rfl, h1⟩
        · rintro ⟨u, t, e, h1⟩
          obtain ⟨rfl, rfl⟩ := List.append_eq_nil_iff.1 e.symm
          exact h1
      | cons n ns =>
        simp only [List.length_cons] at h
        simp only []
        rw [fitL_Wd f (p :: ps) ns (by simp only [List.length_cons]; omega), Wd_star twoS fitN hs]
        constructor
        · rintro (h1 | ⟨u, t, rfl, h1⟩)
          · exact ⟨[], n :: ns, rfl, h1⟩
          · exact ⟨n :: u, t, rfl, h1⟩
        · rintro ⟨u, t, e, h1⟩
          cases u with
          | nil => exact .inl (by simp at e; rw [e]; exact h1)
          | cons y u =>
            simp at e
            exact .inr ⟨u, t, e.2, h1⟩
    · have hs : twoS p = false := by simp [twoS, hp]
      rw [Wd_lit twoS fitN hs]
      cases names with
      | nil => simp [fitL, hp]
      | cons n ns =>
        simp only [List.length_cons] at h
        simp only [fitL, if_neg hp, Bool.and_eq_true]
        rw [fitL_Wd f ps ns (by omega)]
        constructor
        · rintro ⟨h1, h2⟩; exact ⟨n, ns, rfl, h1, h2⟩
        · rintro ⟨x, t, e, h1, h2⟩
          simp at e
          obtain ⟨rfl, rfl⟩ := e
          exact ⟨h1, h2⟩
end Go.Proofs.YtpkkhabiheobnaaDoor
