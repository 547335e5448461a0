/- A tree's text is read as its files. -/
import Derived.Test.YtigcogfjclohjaaGreatDoorTreeSpec
import Derived.Test.YtigcogfjclohjaaGreatDoorPLetters
import Derived.Lib.IndexLaws
namespace Go.Proofs.YtigcogfjclohjaaGreatDoor
open Go.Lib
open Tf (Fs)

theorem index_at (a t : List UInt8) (c : UInt8) (h : c ∉ a) : Lib.index (a ++ c :: t) [c] = (a.length : Int) := by
  refine Lib.index_first (by simp) ?_ ?_
  · simp [Lib.occAt]
  · intro j hj
    simp only [Lib.occAt]
    have h2 : (a ++ c :: t).drop j = a[j] :: (a.drop (j + 1) ++ c :: t) := by
      rw [List.drop_append_of_le_length (by omega), List.drop_eq_getElem_cons hj]
      rfl
    rw [h2]
    have : (c == a[j]) = false := by simp; exact fun e => h (e ▸ List.getElem_mem hj)
    show (c == a[j] && _) = false
    rw [this]
    rfl

theorem cut_at (a t : List UInt8) (c : UInt8) (h : c ∉ a) : Lib.cut (a ++ c :: t) [c] = (a, t, true) := by
  unfold Lib.cut
  rw [index_at a t c h]
  simp

theorem digits_bytes : ∀ (n : Nat), ∀ b ∈ Lib.decDigits n, 48 ≤ b.toNat ∧ b.toNat ≤ 57
  | n => by
    intro b hb
    rw [Lib.decDigits] at hb
    have key : ∀ d, d < 10 → (UInt8.ofNat (48 + d)).toNat = 48 + d := fun d hd => by simp; omega
    split at hb
    · rename_i h
      obtain rfl : b = UInt8.ofNat (48 + n) := by simpa using hb
      rw [key n h]; omega
    · rename_i h
      rcases List.mem_append.1 hb with hb | hb
      · exact digits_bytes (n / 10) b hb
      · obtain rfl : b = UInt8.ofNat (48 + n % 10) := by simpa using hb
        rw [key _ (Nat.mod_lt _ (by omega))]; omega
  termination_by n => n
  decreasing_by omega

theorem decFrom_append : ∀ (l r : List UInt8) (acc n : Nat), Lib.decFrom acc l = some n → Lib.decFrom acc (l ++ r) = Lib.decFrom n r
  | [], r, acc, n, h => by
    simp [Lib.decFrom] at h
    subst h
    rfl
  | b :: l, r, acc, n, h => by
    simp only [Lib.decFrom, List.cons_append] at h ⊢
    cases hd : Lib.digitVal b with
    | none => rw [hd] at h; cases h
    | some d =>
      rw [hd] at h
      simp only at h ⊢
      exact decFrom_append l r _ n h

theorem decFrom_one (acc d : Nat) (b : UInt8) (h : Lib.digitVal b = some d) : Lib.decFrom acc [b] = some (acc * 10 + d) := by
  unfold Lib.decFrom
  rw [h]
  rfl

theorem decFrom_digits : ∀ (n : Nat), Lib.decFrom 0 (Lib.decDigits n) = some n
  | n => by
    have key : ∀ d, d < 10 → Lib.digitVal (UInt8.ofNat (48 + d)) = some d := fun d hd => by
      have e : (UInt8.ofNat (48 + d)).toNat = 48 + d := by simp; omega
      unfold Lib.digitVal
      rw [e, if_pos (by omega)]
      congr 1
      omega
    rw [Lib.decDigits]
    split
    · rename_i h
      rw [decFrom_one 0 _ _ (key _ h)]
      exact congrArg some (by omega)
    · rename_i h
      rw [decFrom_append _ _ _ _ (decFrom_digits (n / 10))]
      rw [decFrom_one _ _ _ (key _ (Nat.mod_lt n (by omega)))]
      congr 1
      omega
  termination_by n => n
  decreasing_by omega

theorem digits_ne (n : Nat) : Lib.decDigits n ≠ [] := by
  rw [Lib.decDigits]
  split <;> simp

theorem atoi_digits (n : Nat) : Lib.atoi (Lib.decDigits n) = some (n : Int) := by
  have h1 := decFrom_digits n
  have h2 := digits_bytes n
  have h3 := digits_ne n
  cases hl : Lib.decDigits n with
  | nil => exact absurd hl h3
  | cons b r =>
    rw [hl] at h1 h2
    have hb := h2 b (by simp)
    have n1 : (b == 45) = false := by simp; intro e; subst e; simp at hb
    have n2 : (b == 43) = false := by simp; intro e; subst e; simp at hb
    unfold Lib.atoi
    simp [n1, n2, Lib.decNat, h1]

theorem digits_four (n : Nat) (h : n ≤ 9999) : (Lib.decDigits n).length ≤ 4 := by
  rw [Lib.decDigits]
  split
  · simp
  rw [Lib.decDigits]
  split
  · simp
  rw [Lib.decDigits]
  split
  · simp
  rw [Lib.decDigits]
  split
  · simp
  · omega

theorem numT_digits (n : Nat) (h : n ≤ 9999) : Tf.numT (Lib.decDigits n) = some n := by
  unfold Tf.numT
  rw [if_neg (by have := digits_four n h; omega), atoi_digits]
  simp [Lib.itoa_nonneg]

theorem readE_entry (f : List UInt8 × List UInt8) (rest : List UInt8) (hp : ∀ b ∈ f.1, b ≠ 32 ∧ b ≠ 10) (hb : f.2.length ≤ 2000) : Tf.readE (Tf.entryT f ++ rest) = some (f, rest) := by
  have e1 : Tf.entryT f ++ rest = (f.1 ++ 32 :: Lib.decDigits f.2.length) ++ 10 :: (f.2 ++ 10 :: rest) := by simp [Tf.entryT]
  have hd := digits_bytes f.2.length
  have c1 : Lib.cut (Tf.entryT f ++ rest) [10] = (f.1 ++ 32 :: Lib.decDigits f.2.length, f.2 ++ 10 :: rest, true) := by
    rw [e1]
    refine cut_at _ _ _ ?_
    intro h
    rcases List.mem_append.1 h with h | h
    · exact (hp _ h).2 rfl
    · rcases List.mem_cons.1 h with h | h
      · cases h
      · have := hd _ h; simp at this
  have c2 : Lib.cut (f.1 ++ 32 :: Lib.decDigits f.2.length) [32] = (f.1, Lib.decDigits f.2.length, true) := cut_at _ _ _ fun h => (hp _ h).1 rfl
  unfold Tf.readE
  rw [c1, c2, numT_digits _ (by omega)]
  simp [Lib.hasPrefix]

theorem parse_text {fs : Fs} (h : ∀ f ∈ fs, pathB f.1 = true ∧ f.2.length ≤ 2000) : Tf.Parse (Tf.textT fs) fs := by
  induction fs with
  | nil => exact Tf.Parse.nil
  | cons f r ih =>
    obtain ⟨h1, h2⟩ := h f (by simp)
    have e : Tf.textT (f :: r) = Tf.entryT f ++ Tf.textT r := by simp [Tf.textT]
    rw [e]
    exact Tf.Parse.cons (by simp [Tf.entryT]) (readE_entry f _ (path_bytes h1) h2) (ih fun g hg => h g (List.mem_cons_of_mem _ hg))
end Go.Proofs.YtigcogfjclohjaaGreatDoor
