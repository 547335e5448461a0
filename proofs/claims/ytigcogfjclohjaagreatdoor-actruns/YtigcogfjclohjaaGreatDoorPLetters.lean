/- A name's bytes are letters. -/
import Derived.Test.YtigcogfjclohjaaGreatDoorPCheck
namespace Go.Proofs.YtigcogfjclohjaaGreatDoor
open Go.RowKit Go.Shelf Go.Lib

theorem decode_high (s : ByteArray) (i : Nat) (h : 128 ≤ (s.get! i).toNat) : 128 ≤ (Utf8.decode s i).1 := by
  unfold Utf8.decode
  simp only [Nat.add_zero]
  rw [if_neg (by omega)]
  have hr : 128 ≤ Utf8.runeError := by decide
  split
  · split
    · simpa using ‹_›
    · exact hr
  · split
    · split
      · rename_i h2
        simp at h2
        simp only
        omega
      · exact hr
    · split
      · split
        · rename_i h2
          simp at h2
          simp only
          omega
        · exact hr
      · exact hr
theorem decode_low (s : ByteArray) (i : Nat) (h : (s.get! i).toNat < 128) : Utf8.decode s i = ((s.get! i).toNat, 1) := by
  unfold Utf8.decode
  simp only [Nat.add_zero]
  rw [if_pos (by omega)]

theorem idx_bytes (p : Nat → Bool) (hp : ∀ x, 128 ≤ x → p x = false) (l : List UInt8) : ∀ (f pos : Nat), l.length ≤ pos + f →
    (decide (0 ≤ Lib.idxFuncFrom (fun x => !p x) true (ba l) f pos) = !((l.drop pos).all (fun b => p b.toNat)))
  | 0, pos, h => by
    simp [Lib.idxFuncFrom, List.drop_of_length_le (show l.length ≤ pos by omega)]
  | f + 1, pos, h => by
    unfold Lib.idxFuncFrom
    have hz := ba_size l
    by_cases hlt : pos < l.length
    · rw [if_pos (by rw [hz]; exact hlt)]
      have hget : ((ba l).get! pos) = l[pos] := by
        show (l.toArray)[pos]! = _
        rw [getElem!_pos _ _ (by simpa using hlt)]
        simp
      rw [List.drop_eq_getElem_cons hlt, List.all_cons]
      by_cases hc : l[pos].toNat < 128
      · rw [decode_low _ _ (by rw [hget]; exact hc), hget]
        simp only
        cases hpc : p l[pos].toNat with
        | true =>
          simp only [Bool.not_true, Bool.false_eq_true, if_false, Bool.true_and]
          exact idx_bytes p hp l f (pos + 1) (by omega)
        | false => simp
      · have h1 := decode_high (ba l) pos (by rw [hget]; omega)
        rw [hp _ h1, hp l[pos].toNat (by omega)]
        simp
    · rw [if_neg (by rw [hz]; exact hlt), List.drop_of_length_le (by omega)]
      simp

theorem letter_high (x : Nat) (h : 128 ≤ x) : letter x = false := by simp [letter]; omega

theorem name_letters {l : List UInt8} (h : nameK letter (ba l) = true) : ∀ b ∈ l, letter b.toNat = true := by
  have e := idx_bytes letter letter_high l (ba l).size 0 (by rw [ba_size]; omega)
  unfold nameK Lib.idxFunc at h
  rw [e] at h
  simp only [Bool.and_eq_true, Bool.not_not, List.drop_zero, List.all_eq_true] at h
  exact h.2

theorem byte_part : ∀ (s : List UInt8) (b : UInt8), b ∈ s → b = 47 ∨ ∃ x ∈ Kf.parts s, b ∈ x
  | c :: r, b, h => by
    unfold Kf.parts
    by_cases hc : c = 47
    · rw [if_pos hc]
      rcases List.mem_cons.1 h with rfl | h
      · exact .inl hc
      · exact (byte_part r b h).imp id fun ⟨x, hx, hb⟩ => ⟨x, List.mem_cons_of_mem _ hx, hb⟩
    · rw [if_neg hc]
      have hne := Kf.parts_ne r
      cases hp : Kf.parts r with
      | nil => exact absurd hp hne
      | cons p ps =>
        rcases List.mem_cons.1 h with rfl | h
        · exact .inr ⟨b :: p, by simp, by simp⟩
        · rcases byte_part r b h with rfl | ⟨x, hx, hb⟩
          · exact .inl rfl
          · rw [hp] at hx
            rcases List.mem_cons.1 hx with rfl | hx
            · exact .inr ⟨c :: x, by simp, List.mem_cons_of_mem _ hb⟩
            · exact .inr ⟨x, by simp [hx], hb⟩
theorem path_bytes {s : List UInt8} (h : pathB s = true) : ∀ b ∈ s, b ≠ 32 ∧ b ≠ 10 := by
  unfold pathB allB at h
  simp only [Bool.and_eq_true, decide_eq_true_eq, List.all_eq_true] at h
  intro b hb
  rcases byte_part s b hb with rfl | ⟨x, hx, hbx⟩
  · decide
  · have := name_letters (h.2 x hx) b hbx
    refine ⟨fun e => ?_, fun e => ?_⟩ <;> subst e <;> simp [letter] at this
end Go.Proofs.YtigcogfjclohjaaGreatDoor
