/- Plain functions on bytes: lines, lines told, sorted lines. No Go text, no program. -/
import Derived.Test.YtigcogfjclohjaaGreatDoorFitSpec
import Derived.Lib.SlicesCompact
namespace Go.Proofs.YtigcogfjclohjaaGreatDoor
open Go.RowKit Go.Shelf Go.Lib

namespace Af
/-- The lines of some bytes. -/
def lines : List UInt8 → List (List UInt8)
  | [] => []
  | c :: r => if c = 10 then [] :: lines r else match lines r with
    | [] => [[c]]
    | p :: ps => (c :: p) :: ps
/-- Lines as bytes, each with a line break. -/
def told (l : List (List UInt8)) : List UInt8 := l.flatMap fun x => x ++ [10]
/-- All lines of inputs. -/
def all (l : List (List UInt8)) : List (List UInt8) := l.flatMap lines
/-- Lines, rising. -/
def srt (l : List (List UInt8)) : List (List UInt8) := l.mergeSort fun x y => decide (x ≤ y)

/-- Lines are what is parted by line breaks, without what is behind the last one, if it is empty. -/
theorem cut_lines (s : List UInt8) : cutB 10 s = (if s = [] then [[]] else if s.getLast? = some 10 then lines s ++ [[]] else lines s) := by
  induction s with
  | nil => rfl
  | cons c r ih =>
    rw [if_neg (List.cons_ne_nil c r)]
    by_cases hr : r = []
    · subst hr
      by_cases hc : c = 10 <;> simp [hc, cutB, lines]
    · rw [if_neg hr] at ih
      have hg : (c :: r).getLast? = r.getLast? := by
        cases r with
        | nil => exact absurd rfl hr
        | cons x y => exact List.getLast?_cons_cons
      rw [hg]
      have hl : lines r ≠ [] := by
        cases r with
        | nil => exact absurd rfl hr
        | cons x y =>
          unfold lines
          split
          · simp
          · split <;> simp
      by_cases hc : c = 10
      · simp only [cutB, lines, if_pos hc, ih]
        split <;> simp
      · simp only [cutB, lines, if_neg hc]
        by_cases h10 : r.getLast? = some 10
        · rw [if_pos h10] at ih
          simp only [ih, if_pos h10]
          cases hL : lines r with
          | nil => exact absurd hL hl
          | cons p ps => simp
        · rw [if_neg h10] at ih
          simp only [ih, if_neg h10]
          cases lines r <;> rfl

theorem lines_ne {s : List UInt8} (h : s ≠ []) : lines s ≠ [] := by
  cases s with
  | nil => exact absurd rfl h
  | cons x y =>
    unfold lines
    split
    · simp
    · split <;> simp

theorem lines_last : ∀ {s : List UInt8}, s ≠ [] → s.getLast? ≠ some 10 → ∃ o l, lines s = o ++ [l] ∧ l ≠ []
  | [], h, _ => absurd rfl h
  | [c], _, h1 => by
    have hc : c ≠ 10 := by simpa using h1
    exact ⟨[], [c], by simp [lines, hc], by simp⟩
  | c :: x :: r, _, h1 => by
    obtain ⟨o, l, e, hl⟩ := lines_last (s := x :: r) (by simp) (by simpa using h1)
    unfold lines
    rw [e]
    by_cases hc : c = 10
    · exact ⟨[] :: o, l, by simp [hc], hl⟩
    · cases o with
      | nil => exact ⟨[], c :: l, by simp [hc], by simp⟩
      | cons p ps => exact ⟨(c :: p) :: ps, l, by simp [hc], hl⟩

/-- What linesOf does. -/
theorem lines_of_cut (s : List UInt8) : ∃ o l, cutB 10 s = o ++ [l] ∧ lines s = (if l = [] then o else o ++ [l]) := by
  by_cases hs : s = []
  · subst hs
    exact ⟨[], [], rfl, rfl⟩
  · by_cases h1 : s.getLast? = some 10
    · exact ⟨lines s, [], by rw [cut_lines, if_neg hs, if_pos h1], by simp⟩
    · obtain ⟨o, l, e, hl⟩ := lines_last hs h1
      exact ⟨o, l, by rw [cut_lines, if_neg hs, if_neg h1, e], by rw [if_neg hl, e]⟩

theorem lines_no10 : ∀ (s : List UInt8), ∀ x ∈ lines s, (10 : UInt8) ∉ x
  | [], x, h => by simp [lines] at h
  | c :: r, x, h => by
    have ih := lines_no10 r
    unfold lines at h
    by_cases hc : c = 10
    · simp only [if_pos hc, List.mem_cons] at h
      rcases h with rfl | h
      · simp
      · exact ih x h
    · simp only [if_neg hc] at h
      cases hL : lines r with
      | nil =>
        rw [hL] at h
        simp at h
        subst h
        simp only [List.mem_cons, List.not_mem_nil, or_false]
        exact fun e => hc e.symm
      | cons p ps =>
        rw [hL] at h ih
        simp only [List.mem_cons] at h
        rcases h with rfl | h
        · have := ih p (by simp)
          simp only [List.mem_cons, not_or]
          exact ⟨fun e => hc e.symm, this⟩
        · exact ih x (by simp [h])

theorem lines_line (x rest : List UInt8) (hx : (10 : UInt8) ∉ x) : lines (x ++ 10 :: rest) = x :: lines rest := by
  induction x with
  | nil => simp [lines]
  | cons c r ih =>
    have hc : c ≠ 10 := fun e => hx (by simp [e])
    rw [List.cons_append, lines, ih (fun h => hx (by simp [h]))]
    simp [hc]

theorem lines_told : ∀ (l : List (List UInt8)), (∀ x ∈ l, (10 : UInt8) ∉ x) → lines (told l) = l
  | [], _ => rfl
  | x :: r, h => by
    have e : told (x :: r) = x ++ 10 :: told r := by simp [told]
    rw [e, lines_line x _ (h x (by simp)), lines_told r fun y hy => h y (by simp [hy])]

theorem told_len : ∀ (l : List (List UInt8)), (told l).length = (l.map fun x => x.length + 1).sum
  | [] => rfl
  | x :: r => by
    have e : told (x :: r) = x ++ 10 :: told r := by simp [told]
    rw [e, List.length_append, List.length_cons, told_len r, List.map_cons, List.sum_cons]
    omega

theorem told_lines : ∀ (s : List UInt8), told (lines s) = s ∨ told (lines s) = s ++ [10]
  | [] => .inl rfl
  | c :: r => by
    have ih := told_lines r
    unfold lines
    by_cases hc : c = 10
    · rw [if_pos hc]
      have e : told ([] :: lines r) = 10 :: told (lines r) := by simp [told]
      rw [e, hc]
      rcases ih with ih | ih <;> rw [ih] <;> simp
    · rw [if_neg hc]
      cases hL : lines r with
      | nil =>
        have hr : r = [] := Classical.byContradiction fun h => lines_ne h hL
        subst hr
        right
        simp [told]
      | cons p ps =>
        rw [hL] at ih
        have e : told ((c :: p) :: ps) = c :: told (p :: ps) := by simp [told]
        simp only [e]
        rcases ih with ih | ih <;> rw [ih] <;> simp

theorem told_lines_len (s : List UInt8) : s.length ≤ (told (lines s)).length ∧ (told (lines s)).length ≤ s.length + 1 := by
  rcases told_lines s with h | h <;> rw [h] <;> simp

theorem lines_len (s : List UInt8) : (lines s).length ≤ s.length := by
  induction s with
  | nil => simp [lines]
  | cons c r ih =>
    unfold lines
    split
    · simp; omega
    · split
      · simp
      · next h => rw [h] at ih; simp at ih ⊢; omega

theorem mem_le_sum : ∀ {l : List Nat} {n : Nat}, n ∈ l → n ≤ l.sum
  | [], _, h => by simp at h
  | x :: r, n, h => by
    rw [List.sum_cons]
    rcases List.mem_cons.1 h with rfl | h
    · omega
    · have := mem_le_sum h
      omega

theorem line_len {s x : List UInt8} (h : x ∈ lines s) : x.length ≤ s.length := by
  have h1 := told_lines s
  have h2 : x.length + 1 ≤ (told (lines s)).length := by
    rw [told_len]
    have : x.length + 1 ∈ (lines s).map fun x => x.length + 1 := List.mem_map.2 ⟨x, h, rfl⟩
    exact mem_le_sum this
  have := told_lines_len s
  omega

theorem srt_perm (l : List (List UInt8)) : (srt l).Perm l := List.mergeSort_perm _ _
theorem srt_sorted (l : List (List UInt8)) : (srt l).Pairwise (fun x y => x ≤ y) := by
  have := List.pairwise_mergeSort (le := fun (x y : List UInt8) => decide (x ≤ y)) (by intro a b c h1 h2; simp at *; exact List.le_trans h1 h2) (by intro a b; simp; exact List.le_total a b) l
  exact this.imp (by intro a b h; simpa using h)
theorem srt_eq {l l' : List (List UInt8)} (h : l.Perm l') : srt l = srt l' := by
  refine List.Perm.eq_of_pairwise (le := fun x y : List UInt8 => x ≤ y) ?_ (srt_sorted l) (srt_sorted l') ((srt_perm l).trans (h.trans (srt_perm l').symm))
  intro a b _ _ h1 h2
  exact List.le_antisymm h1 h2
theorem srt_of_sorted {l : List (List UInt8)} (h : l.Pairwise (fun x y => x ≤ y)) : srt l = l := by
  refine List.Perm.eq_of_pairwise (le := fun x y : List UInt8 => x ≤ y) ?_ (srt_sorted l) h (srt_perm l)
  intro a b _ _ h1 h2
  exact List.le_antisymm h1 h2
theorem srt_srt (l : List (List UInt8)) : srt (srt l) = srt l := srt_of_sorted (srt_sorted l)
theorem srt_len (l : List (List UInt8)) : (srt l).length = l.length := (srt_perm l).length_eq
theorem srt_no10 {l : List (List UInt8)} (h : ∀ x ∈ l, (10 : UInt8) ∉ x) : ∀ x ∈ srt l, (10 : UInt8) ∉ x := fun x hx => h x ((srt_perm l).mem_iff.1 hx)
theorem all_no10 (l : List (List UInt8)) : ∀ x ∈ all l, (10 : UInt8) ∉ x := by
  intro x hx
  obtain ⟨s, _, h⟩ := List.mem_flatMap.1 hx
  exact lines_no10 s x h
theorem told_perm {l l' : List (List UInt8)} (h : l.Perm l') : (told l).length = (told l').length := by
  rw [told_len, told_len]
  exact (h.map _).sum_nat
theorem told_append (a b : List (List UInt8)) : told (a ++ b) = told a ++ told b := by simp [told]
theorem told_all_len : ∀ (l : List (List UInt8)), (told (all l)).length ≤ (l.map fun x => x.length + 1).sum
  | [] => by simp [all, told]
  | x :: r => by
    have h1 := told_all_len r
    have h2 := (told_lines_len x).2
    have e : all (x :: r) = lines x ++ all r := by simp [all]
    rw [e, told_append]
    simp
    omega
theorem compact_succ (zs : List (List UInt8)) (m : Nat) : compactUpTo zs.toArray (m + 1) = compactUpTo zs.toArray m ++ (if keeps zs.toArray m then [zs.toArray[m]!] else []) := compactUpTo_succ _ m
theorem compact_mem {zs : List (List UInt8)} {x : List UInt8} (h : x ∈ Lib.compact zs) : x ∈ zs := by
  unfold Lib.compact compactUpTo at h
  obtain ⟨j, hj, e⟩ := List.mem_map.1 h
  have hj' := List.mem_filter.1 hj
  have hl : j < zs.length := by simpa using hj'.1
  rw [← e]
  simp [hl]
theorem compact_told_len (zs : List (List UInt8)) : ∀ m, m ≤ zs.length → (told (compactUpTo zs.toArray m)).length ≤ (told (zs.take m)).length
  | 0, _ => by simp [compactUpTo, told]
  | m + 1, h => by
    have ih := compact_told_len zs m (by omega)
    have hm : m < zs.length := by omega
    rw [compact_succ, told_append, List.take_succ_eq_append_getElem hm, told_append]
    simp only [List.length_append]
    split
    · have e : zs.toArray[m]! = zs[m] := by simp [hm]
      rw [e]
      omega
    · simp [told] at ih ⊢
      omega
end Af
end Go.Proofs.YtigcogfjclohjaaGreatDoor
