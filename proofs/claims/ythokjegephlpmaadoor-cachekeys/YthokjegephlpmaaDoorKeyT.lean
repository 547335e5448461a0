/- Keys of commands: as data. Two commands have one key only if they are one. -/
import Derived.Test.YthokjegephlpmaaDoorSpec
import Derived.Lib.ItoaNum
namespace Go.Proofs.YthokjegephlpmaaDoor
open Go.Lib

theorem digits_step (n : Nat) : Lib.decDigits n = if n < 10 then [UInt8.ofNat (48 + n)] else Lib.decDigits (n / 10) ++ [UInt8.ofNat (48 + n % 10)] := by
  by_cases h : n < 10
  · rw [if_pos h, Lib.decDigits_one h]
  · rw [if_neg h, Lib.decDigits, dif_neg h]
theorem digits_range (n : Nat) : ∀ b ∈ Lib.decDigits n, 48 ≤ b.toNat ∧ b.toNat ≤ 57 := by
  induction n using Nat.strongRecOn with
  | _ n ih =>
    intro b hb
    rw [digits_step] at hb
    split at hb
    · rw [List.mem_singleton.1 hb]
      simp [UInt8.toNat_ofNat]
      omega
    · rename_i h
      rcases List.mem_append.1 hb with h1 | h1
      · exact ih (n / 10) (by omega) b h1
      · rw [List.mem_singleton.1 h1]
        simp [UInt8.toNat_ofNat]
        omega
theorem digit_inj {a b : Nat} (ha : a < 10) (hb : b < 10) (h : UInt8.ofNat (48 + a) = UInt8.ofNat (48 + b)) : a = b := by
  have := congrArg UInt8.toNat h
  simp [UInt8.toNat_ofNat] at this
  omega
theorem digits_ne (n : Nat) : Lib.decDigits n ≠ [] := by
  rw [digits_step]
  split <;> simp
theorem digits_inj : ∀ (a b : Nat), Lib.decDigits a = Lib.decDigits b → a = b := by
  intro a
  induction a using Nat.strongRecOn with
  | _ a ih =>
    intro b h
    rw [digits_step a, digits_step b] at h
    by_cases ha : a < 10
    · by_cases hb : b < 10
      · rw [if_pos ha, if_pos hb] at h
        exact digit_inj ha hb (by simpa using h)
      · rw [if_pos ha, if_neg hb] at h
        have hl := congrArg List.length h
        have := List.length_pos_iff.2 (digits_ne (b / 10))
        simp at hl
        exact absurd hl (digits_ne _)
    · by_cases hb : b < 10
      · rw [if_neg ha, if_pos hb] at h
        have hl := congrArg List.length h
        simp at hl
        exact absurd hl (digits_ne _)
      · rw [if_neg ha, if_neg hb] at h
        have hl : (Lib.decDigits (a / 10)).length = (Lib.decDigits (b / 10)).length := by
          have := congrArg List.length h
          simpa using this
        obtain ⟨h1, h2⟩ := List.append_inj h hl
        have e1 := ih (a / 10) (by omega) (b / 10) h1
        have e2 := digit_inj (a := a % 10) (b := b % 10) (by omega) (by omega) (by simpa using h2)
        omega

/-- A text with its length ahead. -/
def Kp.piece (s : List UInt8) : List UInt8 := Lib.decDigits s.length ++ 58 :: s
/-- The key of a command. -/
def Kp.key (kind word : List UInt8) (ins : List (List UInt8)) : List UInt8 := Kp.piece kind ++ Kp.piece word ++ ins.flatMap Kp.piece

theorem colon_split : ∀ (a b r s : List UInt8), (58 : UInt8) ∉ a → (58 : UInt8) ∉ b → a ++ 58 :: r = b ++ 58 :: s → a = b ∧ r = s
  | [], [], r, s, _, _, h => ⟨rfl, by simpa using h⟩
  | [], y :: b, r, s, _, hb, h => by
    simp at h
    exact absurd (h.1 ▸ List.mem_cons_self) hb
  | x :: a, [], r, s, ha, _, h => by
    simp at h
    exact absurd (h.1 ▸ List.mem_cons_self) ha
  | x :: a, y :: b, r, s, ha, hb, h => by
    simp only [List.cons_append, List.cons.injEq] at h
    obtain ⟨e1, e2⟩ := colon_split a b r s (fun hm => ha (List.mem_cons_of_mem _ hm)) (fun hm => hb (List.mem_cons_of_mem _ hm)) h.2
    exact ⟨by rw [h.1, e1], e2⟩
theorem no58 (n : Nat) : (58 : UInt8) ∉ Lib.decDigits n := fun h => by
  have := digits_range n 58 h
  simp at this
theorem Kp.piece_inj {s s' r r' : List UInt8} (h : Kp.piece s ++ r = Kp.piece s' ++ r') : s = s' ∧ r = r' := by
  unfold Kp.piece at h
  rw [List.append_assoc, List.append_assoc, List.cons_append, List.cons_append] at h
  obtain ⟨h1, h2⟩ := colon_split _ _ _ _ (no58 _) (no58 _) h
  exact List.append_inj h2 (digits_inj _ _ h1)
theorem Kp.piece_ne (s : List UInt8) : Kp.piece s ≠ [] := by
  unfold Kp.piece
  simp
theorem Kp.flat_inj : ∀ (a b : List (List UInt8)), a.flatMap Kp.piece = b.flatMap Kp.piece → a = b
  | [], [], _ => rfl
  | [], y :: b, h => by
    rw [List.flatMap_nil, List.flatMap_cons] at h
    exact absurd (List.append_eq_nil_iff.1 h.symm).1 (Kp.piece_ne y)
  | x :: a, [], h => by
    rw [List.flatMap_nil, List.flatMap_cons] at h
    exact absurd (List.append_eq_nil_iff.1 h).1 (Kp.piece_ne x)
  | x :: a, y :: b, h => by
    rw [List.flatMap_cons, List.flatMap_cons] at h
    obtain ⟨h1, h2⟩ := Kp.piece_inj h
    rw [h1, Kp.flat_inj a b h2]
/-- Two commands have one key only if they are one. -/
theorem Kp.key_inj {k w k' w' : List UInt8} {l l' : List (List UInt8)} : Kp.key k w l = Kp.key k' w' l' ↔ k = k' ∧ w = w' ∧ l = l' := by
  constructor
  · intro h
    unfold Kp.key at h
    rw [List.append_assoc, List.append_assoc] at h
    obtain ⟨h1, h2⟩ := Kp.piece_inj h
    obtain ⟨h3, h4⟩ := Kp.piece_inj h2
    exact ⟨h1, h3, Kp.flat_inj _ _ h4⟩
  · rintro ⟨rfl, rfl, rfl⟩
    rfl
end Go.Proofs.YthokjegephlpmaaDoor
