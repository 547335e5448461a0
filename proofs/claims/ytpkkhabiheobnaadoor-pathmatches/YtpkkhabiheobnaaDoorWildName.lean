/- Plain facts on names with stars: that each piece may be taken where it is found first. -/
import Derived.Test.YtpkkhabiheobnaaDoorWildSpec
import Derived.Lib.IndexMore
namespace Go.Proofs.YtpkkhabiheobnaaDoor
open Go.RowKit Go.Shelf Go.Lib

theorem byte_none (c : UInt8) : ∀ (s : List UInt8), Lib.indexByte s c = -1 → c ∉ s
  | [], _ => by simp
  | x :: r, h => by
    unfold Lib.indexByte at h
    by_cases hc : x = c
    · simp [hc] at h
    · have hb : (x == c) = false := by simp [hc]
      rw [hb] at h
      by_cases h1 : Lib.indexByte r c = -1
      · have := byte_none c r h1
        simp [this, Ne.symm hc]
      · have hge := Lib.indexByte_ge r c
        simp [h1] at h
        omega
theorem byte_some (c : UInt8) : ∀ (s : List UInt8) (i : Nat), Lib.indexByte s c = (i : Int) → s = s.take i ++ c :: s.drop (i + 1) ∧ c ∉ s.take i ∧ i < s.length
  | [], i, h => by simp [Lib.indexByte] at h
  | x :: r, i, h => by
    unfold Lib.indexByte at h
    by_cases hc : x = c
    · simp [hc] at h
      obtain rfl : i = 0 := by omega
      simp [hc]
    · have hb : (x == c) = false := by simp [hc]
      rw [hb] at h
      by_cases h1 : Lib.indexByte r c = -1
      · simp [h1] at h
      · have hge := Lib.indexByte_ge r c
        simp [h1] at h
        obtain ⟨j, rfl⟩ : ∃ j, i = j + 1 := ⟨i - 1, by omega⟩
        obtain ⟨e1, e2, e3⟩ := byte_some c r j (by omega)
        refine ⟨?_, ?_, by simp; omega⟩
        · simpa using e1
        · simp [e2, Ne.symm hc]

theorem Wd_free : ∀ (p s : List UInt8), (42 : UInt8) ∉ p → (Wd oneS same p s ↔ s = p)
  | [], s, _ => by simp [Wd]
  | c :: p, s, h => by
    simp only [List.mem_cons, not_or] at h
    have hc : oneS c = false := by simpa [oneS] using fun e => h.1 e.symm
    rw [Wd_lit oneS same hc]
    constructor
    · rintro ⟨x, t, rfl, hx, h1⟩
      rw [(Wd_free p t h.2).1 h1]
      have : x = c := by simpa [same] using hx
      rw [this]
    · rintro rfl
      exact ⟨c, p, rfl, by simp [same], (Wd_free p p h.2).2 rfl⟩
theorem Wd_ahead (a q n : List UInt8) (h : (42 : UInt8) ∉ a) : Wd oneS same (a ++ q) n ↔ ∃ t, n = a ++ t ∧ Wd oneS same q t := by
  rw [Wd_app]
  constructor
  · rintro ⟨u, t, rfl, h1, h2⟩
    rw [(Wd_free a u h).1 h1]
    exact ⟨t, rfl, h2⟩
  · rintro ⟨t, rfl, h2⟩
    exact ⟨a, t, rfl, (Wd_free a a h).2 rfl, h2⟩
theorem oneS_star : oneS 42 = true := by decide
theorem Wd_more (q t v : List UInt8) (h : Wd oneS same (42 :: q) t) : Wd oneS same (42 :: q) (v ++ t) := by
  rw [Wd_star oneS same oneS_star] at h ⊢
  obtain ⟨u, t', rfl, h1⟩ := h
  exact ⟨v ++ u, t', by simp, h1⟩

/-- What is left to fit behind a star, as package path looks. -/
def tailN (t : List UInt8) (l : List (List UInt8)) : Bool := match seek t l.dropLast with
  | some r => Lib.hasSuffix r (l.getLastD [])
  | none => false
theorem tailN_one (t q : List UInt8) : tailN t [q] = Lib.hasSuffix t q := rfl
theorem tailN_more (t x : List UInt8) (l : List (List UInt8)) (hl : l ≠ []) : tailN t (x :: l) = if 0 ≤ Lib.index t x then tailN (t.drop ((Lib.index t x).toNat + x.length)) l else false := by
  obtain ⟨y, ys, rfl⟩ : ∃ y ys, l = y :: ys := by
    cases l with
    | nil => exact absurd rfl hl
    | cons y ys => exact ⟨y, ys, rfl⟩
  unfold tailN
  rw [List.dropLast_cons_of_ne_nil (by simp)]
  have e : (x :: y :: ys).getLastD [] = (y :: ys).getLastD [] := by simp [List.getLastD]
  rw [e]
  unfold seek
  by_cases h : 0 ≤ Lib.index t x
  · simp only [if_pos h]
    cases hd : (y :: ys).dropLast <;> rfl
  · simp only [if_neg h]

theorem tail_Wd : ∀ (k : Nat) (q t : List UInt8), q.length ≤ k → (tailN t (cutB 42 q) = true ↔ Wd oneS same (42 :: q) t) := by
  intro k
  induction k with
  | zero =>
    intro q t hk
    have : q = [] := List.length_eq_zero_iff.1 (by omega)
    subst this
    rw [Wd_star oneS same oneS_star]
    have e : tailN t (cutB 42 []) = true := by simp [cutB, tailN, seek, Lib.hasSuffix]
    simp only [e, true_iff]
    exact ⟨t, [], by simp, rfl⟩
  | succ k ih =>
    intro q t hk
    have hge := Lib.indexByte_ge q 42
    by_cases hi : Lib.indexByte q 42 = -1
    · rw [cutB_none 42 q hi, tailN_one, Wd_star oneS same oneS_star]
      have hf := byte_none 42 q hi
      unfold Lib.hasSuffix
      rw [List.isSuffixOf_iff_suffix]
      constructor
      · rintro ⟨u, rfl⟩
        exact ⟨u, q, rfl, (Wd_free q q hf).2 rfl⟩
      · rintro ⟨u, t', rfl, h1⟩
        rw [(Wd_free q t' hf).1 h1]
        exact ⟨u, rfl⟩
    · obtain ⟨i, hi'⟩ : ∃ i : Nat, Lib.indexByte q 42 = (i : Int) := ⟨(Lib.indexByte q 42).toNat, by omega⟩
      obtain ⟨e1, e2, e3⟩ := byte_some 42 q i hi'
      obtain ⟨c1, _⟩ := cutB_some 42 q i hi'
      have hd : (q.drop (i + 1)).length ≤ k := by simp; omega
      rw [c1, tailN_more _ _ _ (cutB_ne _ _)]
      have hL : Wd oneS same (42 :: q) t ↔ ∃ u v, t = u ++ (q.take i ++ v) ∧ Wd oneS same (42 :: q.drop (i + 1)) v := by
        rw [Wd_star oneS same oneS_star]
        conv => lhs; rw [e1]
        constructor
        · rintro ⟨u, t', rfl, h1⟩
          obtain ⟨v, rfl, h2⟩ := (Wd_ahead _ _ _ e2).1 h1
          exact ⟨u, v, rfl, h2⟩
        · rintro ⟨u, v, rfl, h2⟩
          exact ⟨u, _, rfl, (Wd_ahead _ _ _ e2).2 ⟨v, rfl, h2⟩⟩
      rw [hL]
      generalize q.take i = x at *
      generalize q.drop (i + 1) = q' at *
      have occ : ∀ (u v : List UInt8), Lib.occAt (u ++ (x ++ v)) x u.length = true := fun u v => by
        unfold Lib.occAt
        rw [List.drop_left, List.isPrefixOf_iff_prefix]
        exact ⟨v, rfl⟩
      rcases Lib.index_spec t x with ⟨h1, h2⟩ | ⟨j, h1, h2, h3, h4⟩
      · rw [h1, if_neg (by decide)]
        constructor
        · intro h; cases h
        · rintro ⟨u, v, rfl, _⟩
          have := h2 u.length (by simp)
          rw [occ] at this
          cases this
      · rw [h1, if_pos (by omega), Int.toNat_natCast, ih q' _ hd]
        constructor
        · intro h
          unfold Lib.occAt at h3
          rw [List.isPrefixOf_iff_prefix] at h3
          obtain ⟨v, hv⟩ := h3
          refine ⟨t.take j, v, by rw [hv, List.take_append_drop], ?_⟩
          have : t.drop (j + x.length) = v := by
            rw [← List.drop_drop, ← hv, List.drop_left]
          rw [← this]
          exact h
        · rintro ⟨u, v, rfl, h⟩
          have hju : j ≤ u.length := by
            rcases Nat.lt_or_ge u.length j with hlt | hge
            · have := h4 u.length hlt
              rw [occ] at this
              cases this
            · exact hge
          have : (u ++ (x ++ v)).drop (j + x.length) = (u ++ x).drop (j + x.length) ++ v := by
            rw [← List.append_assoc, List.drop_append_of_le_length (by simp; omega)]
          rw [this]
          exact Wd_more _ _ _ h

theorem fitN_tail (p n : List UInt8) : fitN p n = if 0 ≤ Lib.index p [42] then (if Lib.hasPrefix n (p.take (Lib.index p [42]).toNat) = true then tailN (n.drop (p.take (Lib.index p [42]).toNat).length) (cutB 42 (p.drop ((Lib.index p [42]).toNat + 1))) else false) else decide (p = n) := rfl

/-- Does a name fit one with stars, as package path looks: what it is to fit, of letters. -/
theorem fitN_Wd (p n : List UInt8) : fitN p n = true ↔ Wd oneS same p n := by
  rw [fitN_tail, Lib.index_one]
  have hge := Lib.indexByte_ge p 42
  by_cases hi : Lib.indexByte p 42 = -1
  · rw [hi, if_neg (by decide), Wd_free p n (byte_none 42 p hi)]
    simp [eq_comm]
  · obtain ⟨i, hi'⟩ : ∃ i : Nat, Lib.indexByte p 42 = (i : Int) := ⟨(Lib.indexByte p 42).toNat, by omega⟩
    obtain ⟨e1, e2, e3⟩ := byte_some 42 p i hi'
    rw [hi', if_pos (by omega), Int.toNat_natCast]
    have hW : Wd oneS same p n ↔ ∃ t, n = p.take i ++ t ∧ Wd oneS same (42 :: p.drop (i + 1)) t := by
      conv => lhs; rw [e1]
      exact Wd_ahead _ _ _ e2
    rw [hW]
    generalize p.take i = a at *
    generalize p.drop (i + 1) = q at *
    unfold Lib.hasPrefix
    by_cases hp : a.isPrefixOf n = true
    · rw [if_pos hp, tail_Wd q.length q _ (Nat.le_refl _)]
      obtain ⟨t, rfl⟩ := List.isPrefixOf_iff_prefix.1 hp
      rw [List.drop_left]
      constructor
      · exact fun h => ⟨t, rfl, h⟩
      · rintro ⟨t', e, h⟩
        rw [List.append_cancel_left e]
        exact h
    · rw [if_neg hp]
      constructor
      · intro h; cases h
      · rintro ⟨t, rfl, _⟩
        exact absurd (List.isPrefixOf_iff_prefix.2 ⟨t, rfl⟩) hp
end Go.Proofs.YtpkkhabiheobnaaDoor
