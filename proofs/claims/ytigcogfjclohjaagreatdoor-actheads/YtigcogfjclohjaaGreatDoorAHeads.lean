/- The walk of ActHeads. -/
import Derived.Test.YtigcogfjclohjaaGreatDoorASorts
import Derived.Test.YtigcogfjclohjaaGreatDoorARunL
import Derived.Test.YtigcogfjclohjaaGreatDoorRDecimal
namespace Go.Proofs.YtigcogfjclohjaaGreatDoor
open Go.RowKit Go.Shelf Go.Lib
open Go.Sort (grow Holds putRow)

theorem numM_digits (n : Nat) (h : n ≤ 999) : numM 3 (Lib.decDigits n) = some n := by
  have hl : (Lib.decDigits n).length ≤ 3 := by
    rw [Lib.decDigits]
    split
    · simp
    rw [Lib.decDigits]
    split
    · simp
    rw [Lib.decDigits]
    split
    · simp
    · omega
  unfold numM
  rw [if_neg (by omega), atoi_digits]
  simp only
  rw [if_pos ⟨by omega, Lib.itoa_nonneg n⟩]
  simp

theorem contains_nil (x : List UInt8) : Lib.contains x [] = true := by
  unfold Lib.contains
  have : Lib.index x [] = 0 := by cases x <;> simp [Lib.index]
  rw [this]; rfl
theorem withW_nil (L : List (List UInt8)) : Af.withW [] L = L := by
  unfold Af.withW
  rw [List.filter_eq_self.2]
  intro x _
  exact contains_nil x

structure Heads (s x y l n : List UInt8) (L : List (List UInt8)) (a b : Nat) : Prop where
  ll : Af.lines s = L
  x1 : Af.told (L.take a) = x
  y1 : Af.told ((Af.lines x).take b) = y
  z1 : Af.told (L.take (min a b)) = y
  l1 : Af.told (Af.withW [] L) = l
  n1 : Af.count [l] = n
  lx : Af.lines l = L
  xlen : x.length ≤ l.length
  pre : l.take x.length = x
  len1 : s.length ≤ l.length
  len2 : l.length ≤ s.length + 1
  nm : ∃ t, cutB 32 n = Lib.decDigits L.length :: t

theorem heads (s : List UInt8) (a b : Nat) : ∃ x y l n L, Heads s x y l n L a b := by
  have hno := Af.lines_no10 s
  have h2 := Af.told_lines_len s
  obtain ⟨L, hL⟩ : ∃ L, Af.lines s = L := ⟨_, rfl⟩
  rw [hL] at hno h2
  have hl : Af.lines (Af.told L) = L := Af.lines_told L hno
  have hx : Af.lines (Af.told (L.take a)) = L.take a := Af.lines_told _ fun x h => hno x (List.mem_of_mem_take h)
  have hsplit : Af.told L = Af.told (L.take a) ++ Af.told (L.drop a) := by
    rw [← Af.told_append, List.take_append_drop]
  have no32 : ∀ n, (32 : UInt8) ∉ Lib.decDigits n := fun n h => by
    have := digits_bytes n 32 h
    simp at this
  obtain ⟨t, ht⟩ := cut_digits (Lib.decDigits (Af.all [Af.told L]).length) (Lib.decDigits (Af.bytes [Af.told L]) ++ [10]) (no32 _)
  refine ⟨_, _, _, _, L, hL, rfl, rfl, ?_, rfl, rfl, ?_, ?_, ?_, ?_, ?_, t, ?_⟩
  · rw [hx, List.take_take, Nat.min_comm]
  · rw [withW_nil]; exact hl
  · rw [withW_nil, hsplit, List.length_append]; omega
  · rw [withW_nil, hsplit, List.take_left]
  · rw [withW_nil]; exact h2.1
  · rw [withW_nil]; exact h2.2
  · rw [withW_nil]
    unfold Af.count
    rw [ht, all_one, hl]
end Go.Proofs.YtigcogfjclohjaaGreatDoor
