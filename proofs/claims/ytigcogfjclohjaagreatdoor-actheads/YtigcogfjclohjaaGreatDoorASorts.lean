/- The walk of ActSorts. -/
import Derived.Test.YtigcogfjclohjaaGreatDoorALaw
import Derived.Test.YtigcogfjclohjaaGreatDoorTreeParse
namespace Go.Proofs.YtigcogfjclohjaaGreatDoor
open Go.RowKit Go.Shelf Go.Lib
open Go.Sort (grow Holds putRow)

/-- A run of sort over texts that the law lays in a row. -/
theorem runs_sort {W : World} {es el : Value} (hA : AW W es el) (wd : List UInt8) (hwd : wd ∈ [[], oncew]) (l : List (List UInt8)) (h1 : 1 ≤ l.length) (h8 : l.length ≤ 8) (hx : ∀ x ∈ l, x.length ≤ 10000) (hl : (Af.sorted wd l).length ≤ 2000) :
    Calls Tryz.prog 28 #[.string ⟨#[115, 111, 114, 116]⟩, .string (ba wd), .slice (some ⟨W.heap.size, 0, none⟩) l.length l.length] (W.alloc (.cells (l.map sv).toArray 9)) fun e w' => e = .returned (.tuple #[.string (ba (Af.sorted wd l)), .nilIface]) ∧ Below W.heap.size W w' := by
  have g0 : Below W.heap.size W (W.alloc (.cells (l.map sv).toArray 9)) := (Below.refl _ W).alloc (Nat.le_refl _) _
  refine (Run_sort (hA.stays g0) wd hwd _ l (trow_new W l) h1 h8 hx).mono ?_
  rintro e w' ⟨rfl, g⟩
  exact ⟨by rw [told2_ok hl], g0.trans (g.mono g0.size)⟩
theorem count_len (l : List (List UInt8)) (h8 : l.length ≤ 8) (hx : ∀ x ∈ l, x.length ≤ 10000) : (Af.count l).length ≤ 44 := by
  have h := all_len (ls := l) (fun x h => Nat.le_trans (hx x h) (by omega)) l.length (Nat.le_refl _)
  have h' := bytes_le (ls := l) (fun x h => Nat.le_trans (hx x h) (by omega)) l.length (Nat.le_refl _)
  rw [List.take_length] at h h'
  have d1 := digits_len2 (Af.all l).length (by omega)
  have d2 := digits_len2 (Af.bytes l) (by omega)
  unfold Af.count
  simp
  omega
theorem runs_count {W : World} {es el : Value} (hA : AW W es el) (l : List (List UInt8)) (h1 : 1 ≤ l.length) (h8 : l.length ≤ 8) (hx : ∀ x ∈ l, x.length ≤ 10000) :
    Calls Tryz.prog 28 #[.string ⟨#[99, 111, 117, 110, 116]⟩, .string ⟨#[]⟩, .slice (some ⟨W.heap.size, 0, none⟩) l.length l.length] (W.alloc (.cells (l.map sv).toArray 9)) fun e w' => e = .returned (.tuple #[.string (ba (Af.count l)), .nilIface]) ∧ Below W.heap.size W w' := by
  have g0 : Below W.heap.size W (W.alloc (.cells (l.map sv).toArray 9)) := (Below.refl _ W).alloc (Nat.le_refl _) _
  refine (Run_count (hA.stays g0) _ l (trow_new W l) h1 h8 hx).mono ?_
  rintro e w' ⟨rfl, g⟩
  refine ⟨?_, g0.trans (g.mono g0.size)⟩
  rw [told2_ok (Nat.le_trans (count_len l h8 hx) (by omega))]

theorem srt_rise {S : List (List UInt8)} (h : S = Af.srt S) (i : Nat) (hi : i + 1 < S.length) : Op.bytesLess S[i + 1] S[i] = false :=
  not_less (List.pairwise_iff_getElem.1 (Eq.mp (congrArg (List.Pairwise fun x y : List UInt8 => x ≤ y) h.symm) (Af.srt_sorted S)) i (i + 1) (by omega) hi (by omega))

/-- What the law finds in the sorted lines S, told as x, and in those once sorted, U, told as u. -/
structure Sorts (a b c x u n m : List UInt8) (S U : List (List UInt8)) : Prop where
  x1 : Af.sorted [] [a, b, c] = x
  x2 : Af.sorted [] [c, a, b] = x
  x3 : Af.sorted [] [x] = x
  u1 : Af.sorted oncew [x] = u
  n1 : Af.count [a, b, c] = n
  m1 : Af.count [x] = m
  lx : Af.lines x = S
  lu : Af.lines u = U
  su : S = Af.srt S
  uc : U = Lib.compact S
  len : x.length ≤ 1503
  ulen : u.length ≤ 1503
  nm : ∃ d t t', cutB 32 n = d :: t ∧ cutB 32 m = d :: t'

theorem sorted_plain (l : List (List UInt8)) : Af.sorted [] l = Af.told (Af.srt (Af.all l)) := by
  unfold Af.sorted
  rw [if_neg (by simp)]
theorem sorted_once (l : List (List UInt8)) : Af.sorted oncew l = Af.told (Lib.compact (Af.srt (Af.all l))) := by
  unfold Af.sorted
  rw [if_pos rfl]
theorem all_one (x : List UInt8) : Af.all [x] = Af.lines x := by simp [Af.all]
theorem sorts (a b c : List UInt8) (ha : a.length ≤ 500) (hb : b.length ≤ 500) (hc : c.length ≤ 500) : ∃ x u n m S U, Sorts a b c x u n m S U := by
  have hS : ∀ x ∈ Af.srt (Af.all [a, b, c]), (10 : UInt8) ∉ x := Af.srt_no10 (Af.all_no10 _)
  have hN : (Af.srt (Af.all [a, b, c])).length = (Af.all [a, b, c]).length := Af.srt_len _
  have hlen : (Af.told (Af.srt (Af.all [a, b, c]))).length ≤ 1503 := by
    rw [Af.told_perm (Af.srt_perm _)]
    have := Af.told_all_len [a, b, c]
    simp at this
    omega
  have hp : Af.srt (Af.all [c, a, b]) = Af.srt (Af.all [a, b, c]) := by
    refine Af.srt_eq ?_
    simp only [Af.all, List.flatMap_cons, List.flatMap_nil, List.append_nil]
    have : (Af.lines c ++ (Af.lines a ++ Af.lines b)).Perm ((Af.lines a ++ Af.lines b) ++ Af.lines c) := List.perm_append_comm
    simpa using this
  have hss := Af.srt_srt (Af.all [a, b, c])
  have no32 : ∀ n, (32 : UInt8) ∉ Lib.decDigits n := fun n h => by
    have := digits_bytes n 32 h
    simp at this
  obtain ⟨x1, hx1⟩ : ∃ x1, Af.told (Af.srt (Af.all [a, b, c])) = x1 := ⟨_, rfl⟩
  obtain ⟨S, hSe⟩ : ∃ S, Af.srt (Af.all [a, b, c]) = S := ⟨_, rfl⟩
  rw [hSe] at hS hN hlen hp hss hx1
  have hx : Af.lines x1 = S := by rw [← hx1]; exact Af.lines_told _ hS
  have hU : Af.lines (Af.told (Lib.compact S)) = Lib.compact S := Af.lines_told _ fun y h => hS y (Af.compact_mem h)
  have hul := Af.compact_told_len S S.length (Nat.le_refl _)
  rw [List.take_length] at hul
  obtain ⟨t1, e1⟩ := cut_digits (Lib.decDigits (Af.all [a, b, c]).length) (Lib.decDigits (Af.bytes [a, b, c]) ++ [10]) (no32 _)
  obtain ⟨t2, e2⟩ := cut_digits (Lib.decDigits (Af.all [x1]).length) (Lib.decDigits (Af.bytes [x1]) ++ [10]) (no32 _)
  refine ⟨x1, Af.told (Lib.compact S), Af.count [a, b, c], Af.count [x1], S, Lib.compact S, ?_, ?_, ?_, ?_, rfl, rfl, hx, hU, hss.symm, rfl, ?_, ?_, Lib.decDigits (Af.all [a, b, c]).length, t1, t2, e1, ?_⟩
  · rw [sorted_plain, hSe, hx1]
  · rw [sorted_plain, hp, hx1]
  · rw [sorted_plain, all_one, hx, hss, hx1]
  · rw [sorted_once, all_one, hx, hss]
  · rw [← hx1]; exact hlen
  · exact Nat.le_trans hul hlen
  · rw [← hN, ← hx, ← all_one]
    exact e2
end Go.Proofs.YtigcogfjclohjaaGreatDoor
