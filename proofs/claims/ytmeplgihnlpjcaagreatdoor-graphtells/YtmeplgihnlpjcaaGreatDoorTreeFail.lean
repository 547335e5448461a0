/- Plain functions on bytes: a text as a tree, read or not; the number of the first error; a number of at most four digits as it is looked at sign by sign. No Go text, no program. -/
import Derived.Test.YtmeplgihnlpjcaaGreatDoorMG6
namespace Go.Proofs.YtmeplgihnlpjcaaGreatDoor.Tf
open Go.Lib

/-! ### The first place of a byte -/
def pos (c : UInt8) (s : List UInt8) : Nat := s.findIdx (· == c)

theorem pos_le (c : UInt8) (s : List UInt8) : pos c s ≤ s.length := List.findIdx_le_length

theorem pos_not (c : UInt8) (s : List UInt8) : c ∉ s.take (pos c s) := by
  intro h
  obtain ⟨j, hj, e⟩ := List.mem_iff_getElem.1 h
  rw [List.length_take] at hj
  rw [List.getElem_take] at e
  have := List.not_of_lt_findIdx (p := (· == c)) (xs := s) (i := j) (by unfold pos at hj; omega)
  simp [e] at this

theorem pos_split {c : UInt8} {s : List UInt8} (h : pos c s < s.length) : s = s.take (pos c s) ++ c :: s.drop (pos c s + 1) := by
  have h1 : s[pos c s] = c := by
    have := List.findIdx_getElem (xs := s) (p := (· == c)) (w := h)
    exact eq_of_beq this
  conv => lhs; rw [← List.take_append_drop (pos c s) s, List.drop_eq_getElem_cons h, h1]

theorem index_no {c : UInt8} : ∀ {s : List UInt8}, c ∉ s → Lib.index s [c] = -1
  | [], _ => rfl
  | b :: l, h => by
    have h1 : c ∉ l := fun h2 => h (List.mem_cons_of_mem _ h2)
    have h2 : (c == b) = false := by simp; intro e; exact h (by simp [e])
    unfold Lib.index
    rw [index_no h1]
    simp [List.isPrefixOf, h2]

theorem cut_pos (c : UInt8) (s : List UInt8) : Lib.cut s [c] = if pos c s < s.length then (s.take (pos c s), s.drop (pos c s + 1), true) else (s, [], false) := by
  split
  · rename_i h
    conv => lhs; rw [pos_split h]
    exact cut_at _ _ _ (pos_not c s)
  · rename_i h
    have h1 : pos c s = s.length := by have := pos_le c s; omega
    have h2 := pos_not c s
    rw [h1, List.take_length] at h2
    unfold Lib.cut
    rw [index_no h2]
    rfl

/-- The first entry, by places. -/
def readP (s : List UInt8) : Option ((List UInt8 × List UInt8) × List UInt8) :=
  if pos 10 s = s.length ∨ pos 32 (s.take (pos 10 s)) = pos 10 s then none
  else match numT ((s.take (pos 10 s)).drop (pos 32 (s.take (pos 10 s)) + 1)) with
    | none => none
    | some n => if s[pos 10 s + 1 + n]? = some 10 then some ((s.take (pos 32 (s.take (pos 10 s))), (s.drop (pos 10 s + 1)).take n), s.drop (pos 10 s + n + 2)) else none

theorem readE_readP (s : List UInt8) : readE s = readP s := by
  have hL := pos_le 10 s
  have hB := pos_le 32 (s.take (pos 10 s))
  rw [List.length_take, Nat.min_eq_left hL] at hB
  unfold readE readP
  rw [cut_pos 10 s]
  by_cases h1 : pos 10 s < s.length
  · rw [if_pos h1]
    simp only [Bool.true_eq_false, if_false]
    rw [cut_pos 32 (s.take (pos 10 s)), List.length_take, Nat.min_eq_left hL]
    by_cases h2 : pos 32 (s.take (pos 10 s)) < pos 10 s
    · rw [if_pos h2]
      simp only [Bool.true_eq_false, if_false]
      rw [if_neg (show ¬ (pos 10 s = s.length ∨ pos 32 (s.take (pos 10 s)) = pos 10 s) by omega)]
      cases numT ((s.take (pos 10 s)).drop (pos 32 (s.take (pos 10 s)) + 1)) with
      | none => rfl
      | some n =>
        simp only
        have e1 : (s.drop (pos 10 s + 1)).drop n = s.drop (pos 10 s + 1 + n) := by rw [List.drop_drop]
        rw [e1, List.length_drop]
        by_cases h3 : pos 10 s + 1 + n < s.length
        · rw [if_neg (by omega), List.drop_eq_getElem_cons h3, List.getElem?_eq_getElem h3]
          by_cases h4 : s[pos 10 s + 1 + n] = 10
          · rw [if_neg (by simp [h4, Lib.hasPrefix]), if_pos (by rw [h4])]
            rw [List.take_take, Nat.min_eq_left (by omega), List.drop_drop, show pos 10 s + 1 + (n + 1) = pos 10 s + n + 2 by omega]
          · have h5 : ((10 : UInt8) == s[pos 10 s + 1 + n]) = false := by simpa using fun e => h4 (by rw [← e])
            rw [if_pos (by simp only [Lib.hasPrefix, List.isPrefixOf, h5, Bool.false_and]), if_neg (by simpa using h4)]
        · rw [List.drop_eq_nil_of_le (by omega), List.getElem?_eq_none (by omega)]
          simp [Lib.hasPrefix]
    · rw [if_neg h2, if_pos (show pos 10 s = s.length ∨ pos 32 (s.take (pos 10 s)) = pos 10 s by omega)]
      simp
  · rw [if_neg h1, if_pos (show pos 10 s = s.length ∨ pos 32 (s.take (pos 10 s)) = pos 10 s by omega)]
    simp

theorem readP_lt {s r : List UInt8} {e : List UInt8 × List UInt8} (h : readE s = some (e, r)) : r.length < s.length := by
  rw [readE_readP] at h
  unfold readP at h
  split at h
  · cases h
  rename_i h1
  split at h
  · cases h
  split at h
  · simp at h
    rw [← h.2, List.length_drop]
    have := pos_le 10 s
    omega
  · cases h

theorem readE_text {s r : List UInt8} {e : List UInt8 × List UInt8} (h : readE s = some (e, r)) : s = entryT e ++ r := by
  rw [readE_readP] at h
  unfold readP at h
  split at h
  · cases h
  rename_i h1
  have hL := pos_le 10 s
  have hB := pos_le 32 (s.take (pos 10 s))
  rw [List.length_take, Nat.min_eq_left hL] at hB
  split at h
  · cases h
  rename_i n hn
  split at h
  · rename_i h10
    simp at h
    obtain ⟨rfl, rfl⟩ := h
    have hd : Lib.decDigits n = (s.take (pos 10 s)).drop (pos 32 (s.take (pos 10 s)) + 1) := by
      unfold numT at hn
      split at hn
      · cases hn
      split at hn
      · rename_i z hz
        split at hn
        · rename_i hc
          have e : z = (n : Int) := by have := Option.some.inj hn; omega
          rw [e, Lib.itoa_nonneg] at hc
          exact hc.2
        · cases hn
      · cases hn
    have hlt : pos 10 s + 1 + n < s.length := by
      rcases Nat.lt_or_ge (pos 10 s + 1 + n) s.length with h | h
      · exact h
      · rw [List.getElem?_eq_none h] at h10; cases h10
    have hlen : ((s.drop (pos 10 s + 1)).take n).length = n := by rw [List.length_take, List.length_drop]; omega
    have hp1 := pos_split (c := 10) (s := s) (by omega)
    have hp2 := pos_split (c := 32) (s := s.take (pos 10 s)) (by rw [List.length_take]; omega)
    have hp3 : s.drop (pos 10 s + 1) = (s.drop (pos 10 s + 1)).take n ++ 10 :: s.drop (pos 10 s + n + 2) := by
      have e1 : (s.drop (pos 10 s + 1)).drop n = s.drop (pos 10 s + 1 + n) := by rw [List.drop_drop]
      conv => lhs; rw [← List.take_append_drop n (s.drop (pos 10 s + 1)), e1, List.drop_eq_getElem_cons hlt]
      rw [List.getElem?_eq_getElem hlt] at h10
      rw [Option.some.inj h10, show pos 10 s + 1 + n + 1 = pos 10 s + n + 2 by omega]
    have ht : (s.take (pos 10 s)).take (pos 32 (s.take (pos 10 s))) = s.take (pos 32 (s.take (pos 10 s))) := by rw [List.take_take, Nat.min_eq_left hB]
    unfold entryT
    simp only
    rw [hlen, hd]
    conv => lhs; rw [hp1, hp2, hp3, ht]
    simp
  · cases h

/-! ### A text as a tree -/
def parse (s : List UInt8) : Option Fs :=
  if s = [] then some []
  else match hr : readE s with
    | none => none
    | some (e, r) =>
      have : r.length < s.length := readP_lt hr
      (parse r).map (e :: ·)
  termination_by s.length

theorem parse_nil : parse [] = some [] := by rw [parse]; simp
theorem parse_no {s : List UInt8} (h : s ≠ []) (hr : readE s = none) : parse s = none := by
  rw [parse, if_neg h]
  split
  · rfl
  · rename_i e; rw [hr] at e; cases e
theorem parse_step {s r : List UInt8} {e : List UInt8 × List UInt8} (h : s ≠ []) (hr : readE s = some (e, r)) : parse s = (parse r).map (e :: ·) := by
  rw [parse, if_neg h]
  split
  · rename_i e; rw [hr] at e; cases e
  · rename_i e' r' e''
    rw [hr] at e''
    cases e''
    rfl

theorem parse_Parse : ∀ (n : Nat) (s : List UInt8), s.length ≤ n → ∀ es, parse s = some es → Parse s es
  | n, s, hn, es, h => by
    by_cases hs : s = []
    · subst hs
      rw [parse_nil] at h
      cases h
      exact .nil
    · cases hr : readE s with
      | none => rw [parse_no hs hr] at h; cases h
      | some x =>
        obtain ⟨e, r⟩ := x
        rw [parse_step hs hr] at h
        cases hp : parse r with
        | none => rw [hp] at h; cases h
        | some l =>
          rw [hp] at h
          simp at h
          subst h
          have := readP_lt hr
          match n with
          | 0 => omega
          | n + 1 => exact .cons hs hr (parse_Parse n r (by omega) l hp)

theorem Parse.text {s : List UInt8} {es : Fs} (h : Parse s es) : textT es = s := by
  induction h with
  | nil => rfl
  | cons _ hr _ ih =>
    rw [readE_text hr, ← ih]
    simp [textT]

theorem entryT_len (f : List UInt8 × List UInt8) : f.1.length + f.2.length + 3 ≤ (entryT f).length := by
  simp [entryT]
  omega

theorem textT_long : ∀ (es : Fs), es.length * 3 ≤ (textT es).length ∧ ∀ f ∈ es, f.1.length ≤ (textT es).length ∧ f.2.length ≤ (textT es).length
  | [] => by simp [textT]
  | f :: r => by
    obtain ⟨h1, h2⟩ := textT_long r
    have h3 := entryT_len f
    have e : (textT (f :: r)).length = (entryT f).length + (textT r).length := by simp [textT]
    rw [e]
    refine ⟨by simp; omega, fun g hg => ?_⟩
    rcases List.mem_cons.1 hg with rfl | hg
    · omega
    · have := h2 g hg; omega

/-! ### Putting one by one -/
def stop (ok : List UInt8 → Bool) : Fs → Fs → Nat
  | _, [] => 0
  | t, e :: r => if putCode ok t e.1 e.2 = 0 then stop ok (put t e.1 e.2) r else putCode ok t e.1 e.2

theorem puts_from_well {ok : List UInt8 → Bool} : ∀ (r t : Fs), Well ok t → stop ok t r = 0 → Well ok (r.foldl (fun t e => put t e.1 e.2) t)
  | [], t, h, _ => h
  | e :: r, t, h, hs => by
    unfold stop at hs
    split at hs
    · rename_i hc
      exact puts_from_well r _ (h.put hc) hs
    · rename_i hc; exact absurd hs hc

theorem puts_well {ok : List UInt8 → Bool} {es : Fs} (h : stop ok [] es = 0) : Well ok (puts es) := puts_from_well es [] (Well.nil ok) h

theorem stop_step {ok : List UInt8 → Bool} {es : Fs} {k : Nat} (hk : k < es.length) : stop ok (puts (es.take k)) (es.drop k) = if putCode ok (puts (es.take k)) es[k].1 es[k].2 = 0 then stop ok (puts (es.take (k + 1))) (es.drop (k + 1)) else putCode ok (puts (es.take k)) es[k].1 es[k].2 := by
  rw [List.drop_eq_getElem_cons hk, List.take_succ_eq_append_getElem hk, puts_snoc]
  rfl

theorem putCode_le (ok : List UInt8 → Bool) (fs : Fs) (p b : List UInt8) : putCode ok fs p b = 0 ∨ putCode ok fs p b = 4 ∨ putCode ok fs p b = 2 ∨ putCode ok fs p b = 7 ∨ putCode ok fs p b = 8 := by
  unfold putCode
  repeat' split
  all_goals simp

theorem stop_le (ok : List UInt8 → Bool) : ∀ (es t : Fs), stop ok t es = 0 ∨ stop ok t es = 4 ∨ stop ok t es = 2 ∨ stop ok t es = 7 ∨ stop ok t es = 8
  | [], t => .inl rfl
  | e :: r, t => by
    unfold stop
    split
    · exact stop_le ok r _
    · exact putCode_le ok t e.1 e.2

/-! ### Rising, pair by pair -/
theorem rises_of_pairs : ∀ {es : Fs}, (∀ k (hk : k + 1 < es.length), bytesBefore es[k].1 es[k + 1].1 = true) → Rises es
  | [], _ => List.Pairwise.nil
  | [e], _ => List.pairwise_singleton _ _
  | e :: f :: r, h => by
    have h1 : Rises (f :: r) := rises_of_pairs fun k hk => by
      have := h (k + 1) (by simp at hk ⊢; omega)
      simpa using this
    have h0 : bytesBefore e.1 f.1 = true := by simpa using h 0 (by simp)
    refine List.pairwise_cons.2 ⟨fun g hg => ?_, h1⟩
    rcases List.mem_cons.1 hg with rfl | hg
    · exact h0
    · exact WideShapes.bytes_trans _ _ _ h0 ((List.pairwise_cons.1 h1).1 g hg)

/-- The number of Read's error (0: none). -/
noncomputable def codeT (ok : List UInt8 → Bool) (s : List UInt8) : Nat :=
  open Classical in
  match parse s with
  | none => 1
  | some es => if stop ok [] es ≠ 0 then stop ok [] es else if Rises es then 0 else 3

theorem codeT_none {ok : List UInt8 → Bool} {s : List UInt8} (h : parse s = none) : codeT ok s = 1 := by unfold codeT; rw [h]
theorem codeT_stop {ok : List UInt8 → Bool} {s : List UInt8} {es : Fs} (h : parse s = some es) (hc : stop ok [] es ≠ 0) : codeT ok s = stop ok [] es := by
  unfold codeT
  rw [h]
  simp [hc]
theorem codeT_shape {ok : List UInt8 → Bool} {s : List UInt8} {es : Fs} (h : parse s = some es) (hc : stop ok [] es = 0) (hr : ¬ Rises es) : codeT ok s = 3 := by
  unfold codeT
  rw [h]
  simp [hc, hr]
theorem codeT_yes {ok : List UInt8 → Bool} {s : List UInt8} {es : Fs} (h : parse s = some es) (hc : stop ok [] es = 0) (hr : Rises es) : codeT ok s = 0 := by
  unfold codeT
  rw [h]
  simp [hc, hr]
theorem codeT_le (ok : List UInt8 → Bool) (s : List UInt8) : codeT ok s = 0 ∨ ∃ k, k < 12 ∧ codeT ok s = k + 1 := by
  cases h : parse s with
  | none => exact .inr ⟨0, by omega, codeT_none h⟩
  | some es =>
    by_cases hc : stop ok [] es = 0
    · by_cases hr : Rises es
      · exact .inl (codeT_yes h hc hr)
      · exact .inr ⟨2, by omega, codeT_shape h hc hr⟩
    · have e := codeT_stop h hc
      have hl := stop_le ok es []
      exact .inr ⟨stop ok [] es - 1, by omega, by omega⟩

/-! ### A number of at most four digits, sign by sign -/
def numR (d : List UInt8) : Option Nat := if d.length < 1 ∨ 4 < d.length ∨ (1 < d.length ∧ d[0]? = some 48) then none else Lib.decFrom 0 d

theorem digits_head : ∀ (n : Nat), 1 ≤ n → (Lib.decDigits n).head? ≠ some 48
  | n, h1 => by
    rw [Lib.decDigits]
    split
    · rename_i h
      simp only [List.head?_cons, ne_eq, Option.some.injEq]
      intro e
      have := congrArg UInt8.toNat e
      simp at this
      omega
    · rename_i h
      have ih := digits_head (n / 10) (by omega)
      have hne := digits_ne (n / 10)
      cases hl : Lib.decDigits (n / 10) with
      | nil => exact absurd hl hne
      | cons b r => rw [hl] at ih; simpa using ih
  termination_by n => n
  decreasing_by omega

theorem decFrom_back (l : List UInt8) (c : UInt8) (acc m : Nat) (h : Lib.decFrom acc (l ++ [c]) = some m) : ∃ n d, Lib.decFrom acc l = some n ∧ Lib.digitVal c = some d ∧ m = n * 10 + d := by
  obtain ⟨n, hn⟩ := Lib.decFrom_prefix _ acc m h l.length
  rw [List.take_left'] at hn
  · obtain ⟨d, hd⟩ := Lib.digit_of_decFrom _ acc m h l.length c (by simp)
    have := decFrom_append l [c] acc n hn
    rw [h, decFrom_one n d c hd] at this
    exact ⟨n, d, hn, hd, Option.some.inj this⟩
  · rfl

theorem digit_byte {c : UInt8} {d : Nat} (h : Lib.digitVal c = some d) : UInt8.ofNat (48 + d) = c ∧ d < 10 := by
  obtain ⟨h1, h2, h3⟩ := Lib.digitVal_eq h
  refine ⟨?_, by omega⟩
  rw [h3, show 48 + (c.toNat - 48) = c.toNat by omega]
  simp

theorem digits_of : ∀ (n : Nat) (l : List UInt8) (m : Nat), l.length = n → l ≠ [] → l.head? ≠ some 48 → Lib.decFrom 0 l = some m → Lib.decDigits m = l ∧ 1 ≤ m
  | 0, l, m, hn, hne, _, _ => absurd (List.length_eq_zero_iff.1 hn) hne
  | n + 1, l, m, hn, hne, hh, hm => by
    have el := (List.dropLast_concat_getLast hne).symm
    generalize l.dropLast = l' at el
    generalize l.getLast hne = c at el
    subst el
    obtain ⟨k, d, hk, hd, rfl⟩ := decFrom_back l' c 0 m hm
    obtain ⟨hc, hd10⟩ := digit_byte hd
    by_cases hl : l' = []
    · subst hl
      simp [Lib.decFrom] at hk
      subst hk
      have hc48 : c ≠ 48 := by simpa using hh
      have hd0 : d ≠ 0 := fun e => hc48 (by rw [← hc, e]; rfl)
      rw [Lib.decDigits, dif_pos (by omega), show 0 * 10 + d = d by omega, hc]
      exact ⟨rfl, by omega⟩
    · have hh' : l'.head? ≠ some 48 := by
        cases l' with
        | nil => exact absurd rfl hl
        | cons b r => simpa using hh
      obtain ⟨h1, h2⟩ := digits_of n l' k (by simp at hn; omega) hl hh' hk
      rw [Lib.decDigits, dif_neg (by omega), show (k * 10 + d) / 10 = k by omega, show (k * 10 + d) % 10 = d by omega, h1, hc]
      exact ⟨rfl, by omega⟩

theorem numT_numR (d : List UInt8) : numT d = numR d := by
  unfold numT numR
  by_cases h4 : 4 < d.length
  · rw [if_pos h4, if_pos (by omega)]
  rw [if_neg h4]
  cases d with
  | nil => simp [Lib.atoi]
  | cons b r =>
    have hno : Lib.digitVal b = none → Lib.decFrom 0 (b :: r) = none := fun h => by simp [Lib.decFrom, h]
    have hright : Lib.decFrom 0 (b :: r) = none → (if (b :: r).length < 1 ∨ 4 < (b :: r).length ∨ (1 < (b :: r).length ∧ (b :: r)[0]? = some 48) then none else Lib.decFrom 0 (b :: r)) = none := fun h => by rw [h]; split <;> rfl
    by_cases h45 : b = 45
    · subst h45
      rw [hright (hno (by decide))]
      have : ∀ z, Lib.atoi (45 :: r) = some z → ¬ (0 ≤ z ∧ Lib.itoa z = 45 :: r) := by
        rintro z hz ⟨h0, h1⟩
        obtain ⟨n, rfl⟩ := Int.eq_ofNat_of_zero_le h0
        rw [Lib.itoa_nonneg] at h1
        have := digits_bytes n 45 (by rw [h1]; simp)
        simp at this
      cases ha : Lib.atoi (45 :: r) with
      | none => rfl
      | some z => simp only; rw [if_neg (this z ha)]
    by_cases h43 : b = 43
    · subst h43
      rw [hright (hno (by decide))]
      have : ∀ z, Lib.atoi (43 :: r) = some z → ¬ (0 ≤ z ∧ Lib.itoa z = 43 :: r) := by
        rintro z hz ⟨h0, h1⟩
        obtain ⟨n, rfl⟩ := Int.eq_ofNat_of_zero_le h0
        rw [Lib.itoa_nonneg] at h1
        have := digits_bytes n 43 (by rw [h1]; simp)
        simp at this
      cases ha : Lib.atoi (43 :: r) with
      | none => rfl
      | some z => simp only; rw [if_neg (this z ha)]
    have ha : Lib.atoi (b :: r) = (Lib.decFrom 0 (b :: r)).map fun (m : Nat) => (m : Int) := by
      have e1 : (b == 45) = false := by simpa using h45
      have e2 : (b == 43) = false := by simpa using h43
      simp [Lib.atoi, e1, e2, Lib.decNat]
    rw [ha]
    cases hd : Lib.decFrom 0 (b :: r) with
    | none => simp
    | some m =>
      simp only [Option.map_some]
      rw [Lib.itoa_nonneg]
      by_cases hz : 1 < (b :: r).length ∧ (b :: r)[0]? = some 48
      · rw [if_pos (show (b :: r).length < 1 ∨ 4 < (b :: r).length ∨ (1 < (b :: r).length ∧ (b :: r)[0]? = some 48) from .inr (.inr hz))]
        have hno2 : ¬ (0 ≤ (m : Int) ∧ Lib.decDigits m = b :: r) := by
          rintro ⟨_, h1⟩
          have hb : b = 48 := by simpa using hz.2
          subst hb
          by_cases hm : 1 ≤ m
          · have := digits_head m hm
            rw [h1] at this
            simp at this
          · obtain rfl : m = 0 := by omega
            rw [Lib.decDigits, dif_pos (by omega)] at h1
            have h2 := congrArg List.length h1
            have h3 := hz.1
            rw [← h2] at h3
            simp at h3
        rw [if_neg hno2]
      · have hyes : 0 ≤ (m : Int) ∧ Lib.decDigits m = b :: r := by
          refine ⟨by omega, ?_⟩
          by_cases hb : b = 48
          · subst hb
            have hr : r = [] := by
              cases r with
              | nil => rfl
              | cons x y => exact absurd ⟨by simp, by simp⟩ hz
            subst hr
            have e : Lib.decFrom 0 [48] = some 0 := by decide
            rw [e] at hd
            cases hd
            rw [Lib.decDigits, dif_pos (by omega)]
            rfl
          · exact (digits_of _ (b :: r) m rfl (by simp) (by simpa using hb) hd).1
        rw [if_pos hyes, if_neg (show ¬ ((b :: r).length < 1 ∨ 4 < (b :: r).length ∨ (1 < (b :: r).length ∧ (b :: r)[0]? = some 48)) from fun h => by
          rcases h with h | h | h
          · simp at h
          · exact h4 h
          · exact hz h)]
        simp
end Go.Proofs.YtmeplgihnlpjcaaGreatDoor.Tf
