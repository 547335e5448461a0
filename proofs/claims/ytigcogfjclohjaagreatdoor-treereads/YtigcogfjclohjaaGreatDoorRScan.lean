/- The first entry of a text as the document's answer's TreeOf looks at it, place by place: plain facts. -/
import Derived.Test.YtigcogfjclohjaaGreatDoorRNumber
namespace Go.Proofs.YtigcogfjclohjaaGreatDoor
open Go.Lib
open Tf (Fs pos)

theorem pos_ne {c : UInt8} {s : List UInt8} {j : Nat} (h : j < pos c s) (hj : j < s.length) : s[j] ≠ c := by
  have := List.not_of_lt_findIdx (p := (· == c)) (xs := s) (i := j) h
  simpa using this
theorem pos_hit {c : UInt8} {s : List UInt8} (h : pos c s < s.length) : s[pos c s]? = some c := by
  have h1 := List.findIdx_getElem (xs := s) (p := (· == c)) (w := h)
  rw [List.getElem?_eq_getElem h]
  exact congrArg some (eq_of_beq h1)

theorem Txt.is {bs : ByteArray} {s : List UInt8} (T : Txt bs s) {l : Nat} (h : l < bs.size) {c : UInt8} {n : Int} (hc : (c.toNat : Int) = n) : (((bs[l].toNat : Nat) : Int) == n) = decide (s[l]? = some c) := by
  have hl : l < s.length := by rw [← T.size]; exact h
  rw [T.get l hl h, List.getElem?_eq_getElem hl, Bool.eq_iff_iff]
  simp only [beq_iff_eq, decide_eq_true_eq, Option.some.injEq]
  constructor
  · intro e
    exact UInt8.toNat_inj.1 (by omega)
  · intro e
    rw [e]
    omega

theorem Txt.ext {bs : ByteArray} {s : List UInt8} (T : Txt bs s) (a i j : Nat) : bs.extract (a + i) (a + j) = ba (((s.drop a).take j).drop i) := by
  rw [T.extract]
  congr 1
  rw [List.drop_take, List.drop_take, List.drop_drop]
  congr 1
  omega

/-- What lies between a place and the line's end. -/
structure Line (bs : ByteArray) (a N : Nat) : Prop where
  lo : a ≤ N
  hi : N ≤ bs.size
  no : ∀ l (h : l < bs.size), a ≤ l → l < N → (((bs[l].toNat : Nat) : Int) == 10) = false
  yes : ∀ (h : N < bs.size), (((bs[N].toNat : Nat) : Int) == 10) = true
/-- What lies between a place and the first blank of the line. -/
structure Blank (bs : ByteArray) (a N K : Nat) : Prop where
  lo : a ≤ K
  hi : K ≤ N
  no : ∀ l (h : l < bs.size), a ≤ l → l < K → (((bs[l].toNat : Nat) : Int) == 32) = false
  yes : K < N → ∀ (h : K < bs.size), (((bs[K].toNat : Nat) : Int) == 32) = true

theorem line_at {bs : ByteArray} {s : List UInt8} (T : Txt bs s) {a : Nat} (ha : a ≤ s.length) : Line bs a (a + pos 10 (s.drop a)) := by
  have h1 := Tf.pos_le 10 (s.drop a)
  rw [List.length_drop] at h1
  refine ⟨Nat.le_add_right _ _, by rw [T.size]; omega, fun l h h2 h3 => ?_, fun h => ?_⟩
  · rw [T.is h (c := 10) (n := 10) rfl, decide_eq_false_iff_not]
    intro e
    rw [T.size] at h
    have := pos_ne (c := 10) (s := s.drop a) (j := l - a) (by omega) (by rw [List.length_drop]; omega)
    rw [List.getElem_drop] at this
    apply this
    rw [List.getElem?_eq_getElem h] at e
    have e := Option.some.inj e
    rw [← e]
    congr 1
    omega
  · rw [T.is h (c := 10) (n := 10) rfl, decide_eq_true_iff]
    rw [T.size] at h
    have := pos_hit (c := 10) (s := s.drop a) (by rw [List.length_drop]; omega)
    rwa [List.getElem?_drop] at this

theorem blank_at {bs : ByteArray} {s : List UInt8} (T : Txt bs s) {a L : Nat} (ha : a + L ≤ s.length) : Blank bs a (a + L) (a + pos 32 ((s.drop a).take L)) := by
  have h1 := Tf.pos_le 32 ((s.drop a).take L)
  rw [List.length_take, List.length_drop] at h1
  refine ⟨Nat.le_add_right _ _, by omega, fun l h h2 h3 => ?_, fun hK h => ?_⟩
  · rw [T.is h (c := 32) (n := 32) rfl, decide_eq_false_iff_not]
    intro e
    rw [T.size] at h
    have := pos_ne (c := 32) (s := (s.drop a).take L) (j := l - a) (by omega) (by rw [List.length_take, List.length_drop]; omega)
    rw [List.getElem_take, List.getElem_drop] at this
    apply this
    rw [List.getElem?_eq_getElem h] at e
    have e := Option.some.inj e
    rw [← e]
    congr 1
    omega
  · rw [T.is h (c := 32) (n := 32) rfl, decide_eq_true_iff]
    rw [T.size] at h
    have := pos_hit (c := 32) (s := (s.drop a).take L) (by rw [List.length_take, List.length_drop]; omega)
    rw [List.getElem?_take] at this
    split at this
    · rwa [List.getElem?_drop] at this
    · cases this

theorem numI_some {d : List UInt8} {n : Nat} (h : Tf.numT d = some n) : numI d = (n : Int) := by
  unfold numI
  rw [← Tf.numT_numR, h]
theorem numI_none {d : List UInt8} (h : Tf.numT d = none) : numI d = -1 := by
  unfold numI
  rw [← Tf.numT_numR, h]
theorem numT_small {d : List UInt8} {n : Nat} (h : Tf.numT d = some n) : n < 10000 ∧ d.length ≤ 4 := by
  rw [Tf.numT_numR] at h
  unfold Tf.numR at h
  split at h
  · cases h
  · rename_i hc
    have h1 := Lib.decFrom_lt d 0 n h
    have h2 : 10 ^ d.length ≤ 10 ^ 4 := Nat.pow_le_pow_right (by omega) (by omega)
    exact ⟨by omega, by omega⟩

/-- An entry that is there. -/
structure ScanY (bs : ByteArray) (s : List UInt8) (a N K n : Nat) (dd : List UInt8) (e : List UInt8 × List UInt8) (r : List UInt8) : Prop where
  line : Line bs a N
  blank : Blank bs a N K
  kn : K < N
  nn : N < bs.size
  small : n < 10000
  fit : N + 1 + n < bs.size
  num : numI dd = (n : Int)
  len : dd.length ≤ 1000000
  cutN : bs.extract (K + 1) N = ba dd
  last : (((bs[N + 1 + n].toNat : Nat) : Int) == 10) = true
  cutP : bs.extract a K = ba e.1
  cutB : bs.extract (N + 1) (N + 1 + n) = ba e.2
  rest : r = s.drop (N + n + 2)

theorem scan_yes {bs : ByteArray} {s : List UInt8} (T : Txt bs s) {a : Nat} (ha : a ≤ s.length) {e : List UInt8 × List UInt8} {r : List UInt8} (h : Tf.readE (s.drop a) = some (e, r)) : ∃ N K n dd, ScanY bs s a N K n dd e r := by
  have hL := Tf.pos_le 10 (s.drop a)
  have hB := Tf.pos_le 32 ((s.drop a).take (pos 10 (s.drop a)))
  rw [List.length_take, Nat.min_eq_left hL] at hB
  rw [List.length_drop] at hL
  have hln := line_at T ha
  have hbl := blank_at T (a := a) (L := pos 10 (s.drop a)) (by omega)
  rw [Tf.readE_readP] at h
  unfold Tf.readP at h
  split at h
  · cases h
  rename_i h1
  rw [List.length_drop] at h1
  split at h
  · cases h
  rename_i n hn
  split at h
  · rename_i h10
    simp at h
    obtain ⟨rfl, rfl⟩ := h
    obtain ⟨hs, hd⟩ := numT_small hn
    have hfit : a + pos 10 (s.drop a) + 1 + n < s.length := by
      rw [List.getElem?_drop] at h10
      rcases Nat.lt_or_ge (a + (pos 10 (s.drop a) + 1 + n)) s.length with h | h
      · omega
      · rw [List.getElem?_eq_none h] at h10; cases h10
    have hfit' : a + pos 10 (s.drop a) + 1 + n < bs.size := by rw [T.size]; exact hfit
    refine ⟨a + pos 10 (s.drop a), a + pos 32 ((s.drop a).take (pos 10 (s.drop a))), n, _, ⟨hln, hbl, by omega, by omega, hs, hfit', numI_some hn, by omega, T.ext a (_ + 1) _, ?_, ?_, ?_, ?_⟩⟩
    · rw [T.is hfit' (c := 10) (n := 10) rfl, decide_eq_true_iff]
      rw [List.getElem?_drop] at h10
      rw [← h10]
      congr 1
      omega
    · have := T.ext a 0 (pos 32 ((s.drop a).take (pos 10 (s.drop a))))
      simpa using this
    · have := T.ext a (pos 10 (s.drop a) + 1) (pos 10 (s.drop a) + 1 + n)
      rw [List.drop_take, Nat.add_sub_cancel_left] at this
      simpa [Nat.add_assoc] using this
    · congr 1
      omega
  · cases h

/-- An entry that is not there: why. -/
inductive ScanN (bs : ByteArray) (a : Nat) : Prop
  | line (N K : Nat) : Line bs a N → Blank bs a N K → N = bs.size → ScanN bs a
  | blank (N : Nat) : Line bs a N → Blank bs a N N → N < bs.size → ScanN bs a
  | num (N K : Nat) (dd : List UInt8) : Line bs a N → Blank bs a N K → N < bs.size → K < N → bs.extract (K + 1) N = ba dd → dd.length ≤ 1000000 → numI dd = -1 → ScanN bs a
  | short (N K n : Nat) (dd : List UInt8) : Line bs a N → Blank bs a N K → N < bs.size → K < N → bs.extract (K + 1) N = ba dd → dd.length ≤ 1000000 → numI dd = (n : Int) → n < 10000 → bs.size ≤ N + 1 + n → ScanN bs a
  | last (N K n : Nat) (dd : List UInt8) (h : N + 1 + n < bs.size) : Line bs a N → Blank bs a N K → N < bs.size → K < N → bs.extract (K + 1) N = ba dd → dd.length ≤ 1000000 → numI dd = (n : Int) → n < 10000 → (((bs[N + 1 + n].toNat : Nat) : Int) == 10) = false → ScanN bs a

theorem scan_no {bs : ByteArray} {s : List UInt8} (T : Txt bs s) (hs : s.length ≤ 1000000) {a : Nat} (ha : a ≤ s.length) (h : Tf.readE (s.drop a) = none) : ScanN bs a := by
  have hL := Tf.pos_le 10 (s.drop a)
  have hB := Tf.pos_le 32 ((s.drop a).take (pos 10 (s.drop a)))
  rw [List.length_take, Nat.min_eq_left hL] at hB
  rw [List.length_drop] at hL
  have hln := line_at T ha
  have hbl := blank_at T (a := a) (L := pos 10 (s.drop a)) (by omega)
  rw [Tf.readE_readP] at h
  unfold Tf.readP at h
  rw [List.length_drop] at h
  by_cases c1 : pos 10 (s.drop a) = s.length - a
  · exact .line _ _ hln hbl (by rw [T.size]; omega)
  by_cases c2 : pos 32 ((s.drop a).take (pos 10 (s.drop a))) = pos 10 (s.drop a)
  · rw [c2] at hbl
    exact .blank _ hln hbl (by rw [T.size]; omega)
  rw [if_neg (by rintro (h | h); exact c1 h; exact c2 h)] at h
  have hdl : (((s.drop a).take (pos 10 (s.drop a))).drop (pos 32 ((s.drop a).take (pos 10 (s.drop a))) + 1)).length ≤ 1000000 := by
    rw [List.length_drop, List.length_take, List.length_drop]
    omega
  have hx := T.ext a (pos 32 ((s.drop a).take (pos 10 (s.drop a))) + 1) (pos 10 (s.drop a))
  have hnn : a + pos 10 (s.drop a) < bs.size := by rw [T.size]; omega
  cases hn : Tf.numT (((s.drop a).take (pos 10 (s.drop a))).drop (pos 32 ((s.drop a).take (pos 10 (s.drop a))) + 1)) with
  | none => exact .num _ _ _ hln hbl hnn (by omega) hx hdl (numI_none hn)
  | some n =>
    rw [hn] at h
    simp only at h
    obtain ⟨hsm, _⟩ := numT_small hn
    rcases Nat.lt_or_ge (a + pos 10 (s.drop a) + 1 + n) bs.size with hf | hf
    · refine .last _ _ n _ hf hln hbl hnn (by omega) hx hdl (numI_some hn) hsm ?_
      rw [T.is hf (c := 10) (n := 10) rfl, decide_eq_false_iff_not]
      intro e
      rw [if_pos] at h
      · cases h
      · rw [List.getElem?_drop, ← e]
        congr 1
        omega
    · exact .short _ _ n _ hln hbl hnn (by omega) hx hdl (numI_some hn) hsm hf
end Go.Proofs.YtigcogfjclohjaaGreatDoor
