import Derived.Test.YtmhipgompplkdaaGreatDoorWT15
import Derived.Test.YtmhipgompplkdaaGreatDoorWT03
namespace Go.Proofs.YtmhipgompplkdaaGreatDoor.Tf
open Go.Lib
def pos (c : UInt8) (s : List UInt8) : Nat := s.findIdx (· == c)
theorem pos_le (c : UInt8) (s : List UInt8) : pos c s ≤ s.length := List.findIdx_le_length
theorem pos_not (c : UInt8) (s : List UInt8) : c ∉ s.take (pos c s) := by
  intro h
  obtain ⟨j, hj, e⟩ := List.mem_iff_getElem.1 h
  rw [List.length_take] at hj
  rw [List.getElem_take] at e
  have := List.not_of_lt_findIdx (p := (· == c)) (xs := s) (i := j) (by unfold pos at hj; omega)
  simp [e] at this
theorem pos_split {c : UInt8} {s : List UInt8} (h : pos c s < s.length) : s = s.take (pos c s) ++ c :: s.drop (pos c s + 1) := by
  have h1 : s[pos c s] = c := by
    have := List.findIdx_getElem (xs := s) (p := (· == c)) (w := h)
    exact eq_of_beq this
  conv => lhs; rw [← List.take_append_drop (pos c s) s, List.drop_eq_getElem_cons h, h1]
theorem index_no {c : UInt8} : ∀ {s : List UInt8}, c ∉ s → Lib.index s [c] = -1
  | [], _ => rfl
  | b :: l, h => by
    have h1 : c ∉ l := fun h2 => h (List.mem_cons_of_mem _ h2)
    have h2 : (c == b) = false := by simp; intro e; exact h (by simp [e])
    unfold Lib.index
    rw [index_no h1]
    simp [List.isPrefixOf, h2]
theorem cut_pos (c : UInt8) (s : List UInt8) : Lib.cut s [c] = if pos c s < s.length then (s.take (pos c s), s.drop (pos c s + 1), true) else (s, [], false) := by
  split
  · rename_i h
    conv => lhs; rw [pos_split h]
    exact cut_at _ _ _ (pos_not c s)
  · rename_i h
    have h1 : pos c s = s.length := by have := pos_le c s; omega
    have h2 := pos_not c s
    rw [h1, List.take_length] at h2
    unfold Lib.cut
    rw [index_no h2]
    rfl
def readP (s : List UInt8) : Option ((List UInt8 × List UInt8) × List UInt8) :=
  if pos 10 s = s.length ∨ pos 32 (s.take (pos 10 s)) = pos 10 s then none
  else match numT ((s.take (pos 10 s)).drop (pos 32 (s.take (pos 10 s)) + 1)) with
    | none => none
    | some n => if s[pos 10 s + 1 + n]? = some 10 then some ((s.take (pos 32 (s.take (pos 10 s))), (s.drop (pos 10 s + 1)).take n), s.drop (pos 10 s + n + 2)) else none
theorem readE_readP (s : List UInt8) : readE s = readP s := by
  have hL := pos_le 10 s
  have hB := pos_le 32 (s.take (pos 10 s))
  rw [List.length_take, Nat.min_eq_left hL] at hB
  unfold readE readP
  rw [cut_pos 10 s]
  by_cases h1 : pos 10 s < s.length
  · rw [if_pos h1]
    simp only [Bool.true_eq_false, if_false]
    rw [cut_pos 32 (s.take (pos 10 s)), List.length_take, Nat.min_eq_left hL]
    by_cases h2 : pos 32 (s.take (pos 10 s)) < pos 10 s
    · rw [if_pos h2]
      simp only [Bool.true_eq_false, if_false]
      rw [if_neg (show ¬ (pos 10 s = s.length ∨ pos 32 (s.take (pos 10 s)) = pos 10 s) by omega)]
      cases numT ((s.take (pos 10 s)).drop (pos 32 (s.take (pos 10 s)) + 1)) with
      | none => rfl
      | some n =>
        simp only
        have e1 : (s.drop (pos 10 s + 1)).drop n = s.drop (pos 10 s + 1 + n) := by rw [List.drop_drop]
        rw [e1, List.length_drop]
        by_cases h3 : pos 10 s + 1 + n < s.length
        · rw [if_neg (by omega), List.drop_eq_getElem_cons h3, List.getElem?_eq_getElem h3]
          by_cases h4 : s[pos 10 s + 1 + n] = 10
          · rw [if_neg (by simp [h4, Lib.hasPrefix]), if_pos (by rw [h4])]
            rw [List.take_take, Nat.min_eq_left (by omega), List.drop_drop, show pos 10 s + 1 + (n + 1) = pos 10 s + n + 2 by omega]
          · have h5 : ((10 : UInt8) == s[pos 10 s + 1 + n]) = false := by simpa using fun e => h4 (by rw [← e])
            rw [if_pos (by simp only [Lib.hasPrefix, List.isPrefixOf, h5, Bool.false_and]), if_neg (by simpa using h4)]
        · rw [List.drop_eq_nil_of_le (by omega), List.getElem?_eq_none (by omega)]
          simp [Lib.hasPrefix]
    · rw [if_neg h2, if_pos (show pos 10 s = s.length ∨ pos 32 (s.take (pos 10 s)) = pos 10 s by omega)]
      simp
  · rw [if_neg h1, if_pos (show pos 10 s = s.length ∨ pos 32 (s.take (pos 10 s)) = pos 10 s by omega)]
    simp
theorem readE_text {s r : List UInt8} {e : List UInt8 × List UInt8} (h : readE s = some (e, r)) : s = entryT e ++ r := by
  rw [readE_readP] at h
  unfold readP at h
  split at h
  · cases h
  rename_i h1
  have hL := pos_le 10 s
  have hB := pos_le 32 (s.take (pos 10 s))
  rw [List.length_take, Nat.min_eq_left hL] at hB
  split at h
  · cases h
  rename_i n hn
  split at h
  · rename_i h10
    simp at h
    obtain ⟨rfl, rfl⟩ := h
    have hd : Lib.decDigits n = (s.take (pos 10 s)).drop (pos 32 (s.take (pos 10 s)) + 1) := by
      unfold numT at hn
      split at hn
      · cases hn
      split at hn
      · rename_i z hz
        split at hn
        · rename_i hc
          have e : z = (n : Int) := by have := Option.some.inj hn; omega
          rw [e, Lib.itoa_nonneg] at hc
          exact hc.2
        · cases hn
      · cases hn
    have hlt : pos 10 s + 1 + n < s.length := by
      rcases Nat.lt_or_ge (pos 10 s + 1 + n) s.length with h | h
      · exact h
      · rw [List.getElem?_eq_none h] at h10; cases h10
    have hlen : ((s.drop (pos 10 s + 1)).take n).length = n := by rw [List.length_take, List.length_drop]; omega
    have hp1 := pos_split (c := 10) (s := s) (by omega)
    have hp2 := pos_split (c := 32) (s := s.take (pos 10 s)) (by rw [List.length_take]; omega)
    have hp3 : s.drop (pos 10 s + 1) = (s.drop (pos 10 s + 1)).take n ++ 10 :: s.drop (pos 10 s + n + 2) := by
      have e1 : (s.drop (pos 10 s + 1)).drop n = s.drop (pos 10 s + 1 + n) := by rw [List.drop_drop]
      conv => lhs; rw [← List.take_append_drop n (s.drop (pos 10 s + 1)), e1, List.drop_eq_getElem_cons hlt]
      rw [List.getElem?_eq_getElem hlt] at h10
      rw [Option.some.inj h10, show pos 10 s + 1 + n + 1 = pos 10 s + n + 2 by omega]
    have ht : (s.take (pos 10 s)).take (pos 32 (s.take (pos 10 s))) = s.take (pos 32 (s.take (pos 10 s))) := by rw [List.take_take, Nat.min_eq_left hB]
    unfold entryT
    simp only
    rw [hlen, hd]
    conv => lhs; rw [hp1, hp2, hp3, ht]
    simp
  · cases h
theorem Parse.text {s : List UInt8} {es : Fs} (h : Parse s es) : textT es = s := by
  induction h with
  | nil => rfl
  | cons _ hr _ ih =>
    rw [readE_text hr, ← ih]
    simp [textT]
def stop (ok : List UInt8 → Bool) : Fs → Fs → Nat
  | _, [] => 0
  | t, e :: r => if putCode ok t e.1 e.2 = 0 then stop ok (put t e.1 e.2) r else putCode ok t e.1 e.2
def numR (d : List UInt8) : Option Nat := if d.length < 1 ∨ 4 < d.length ∨ (1 < d.length ∧ d[0]? = some 48) then none else Lib.decFrom 0 d
theorem digits_head : ∀ (n : Nat), 1 ≤ n → (Lib.decDigits n).head? ≠ some 48
  | n, h1 => by
    rw [Lib.decDigits]
    split
    · rename_i h
      simp only [List.head?_cons, ne_eq, Option.some.injEq]
      intro e
      have := congrArg UInt8.toNat e
      simp at this
      omega
    · rename_i h
      have ih := digits_head (n / 10) (by omega)
      have hne := digits_ne (n / 10)
      cases hl : Lib.decDigits (n / 10) with
      | nil => exact absurd hl hne
      | cons b r => rw [hl] at ih; simpa using ih
  termination_by n => n
  decreasing_by omega
theorem decFrom_back (l : List UInt8) (c : UInt8) (acc m : Nat) (h : Lib.decFrom acc (l ++ [c]) = some m) : ∃ n d, Lib.decFrom acc l = some n ∧ Lib.digitVal c = some d ∧ m = n * 10 + d := by
  obtain ⟨n, hn⟩ := Lib.decFrom_prefix _ acc m h l.length
  rw [List.take_left'] at hn
  · obtain ⟨d, hd⟩ := Lib.digit_of_decFrom _ acc m h l.length c (by simp)
    have := decFrom_append l [c] acc n hn
    rw [h, decFrom_one n d c hd] at this
    exact ⟨n, d, hn, hd, Option.some.inj this⟩
  · rfl
theorem digit_byte {c : UInt8} {d : Nat} (h : Lib.digitVal c = some d) : UInt8.ofNat (48 + d) = c ∧ d < 10 := by
  obtain ⟨h1, h2, h3⟩ := Lib.digitVal_eq h
  refine ⟨?_, by omega⟩
  rw [h3, show 48 + (c.toNat - 48) = c.toNat by omega]
  simp
theorem digits_of : ∀ (n : Nat) (l : List UInt8) (m : Nat), l.length = n → l ≠ [] → l.head? ≠ some 48 → Lib.decFrom 0 l = some m → Lib.decDigits m = l ∧ 1 ≤ m
  | 0, l, m, hn, hne, _, _ => absurd (List.length_eq_zero_iff.1 hn) hne
  | n + 1, l, m, hn, hne, hh, hm => by
    have el := (List.dropLast_concat_getLast hne).symm
    generalize l.dropLast = l' at el
    generalize l.getLast hne = c at el
    subst el
    obtain ⟨k, d, hk, hd, rfl⟩ := decFrom_back l' c 0 m hm
    obtain ⟨hc, hd10⟩ := digit_byte hd
    by_cases hl : l' = []
    · subst hl
      simp [Lib.decFrom] at hk
      subst hk
      have hc48 : c ≠ 48 := by simpa using hh
      have hd0 : d ≠ 0 := fun e => hc48 (by rw [← hc, e]; rfl)
      rw [Lib.decDigits, dif_pos (by omega), show 0 * 10 + d = d by omega, hc]
      exact ⟨rfl, by omega⟩
    · have hh' : l'.head? ≠ some 48 := by
        cases l' with
        | nil => exact absurd rfl hl
        | cons b r => simpa using hh
      obtain ⟨h1, h2⟩ := digits_of n l' k (by simp at hn; omega) hl hh' hk
      rw [Lib.decDigits, dif_neg (by omega), show (k * 10 + d) / 10 = k by omega, show (k * 10 + d) % 10 = d by omega, h1, hc]
      exact ⟨rfl, by omega⟩
theorem numT_numR (d : List UInt8) : numT d = numR d := by
  unfold numT numR
  by_cases h4 : 4 < d.length
  · rw [if_pos h4, if_pos (by omega)]
  rw [if_neg h4]
  cases d with
  | nil => simp [Lib.atoi]
  | cons b r =>
    have hno : Lib.digitVal b = none → Lib.decFrom 0 (b :: r) = none := fun h => by simp [Lib.decFrom, h]
    have hright : Lib.decFrom 0 (b :: r) = none → (if (b :: r).length < 1 ∨ 4 < (b :: r).length ∨ (1 < (b :: r).length ∧ (b :: r)[0]? = some 48) then none else Lib.decFrom 0 (b :: r)) = none := fun h => by rw [h]; split <;> rfl
    by_cases h45 : b = 45
    · subst h45
      rw [hright (hno (by decide))]
      have : ∀ z, Lib.atoi (45 :: r) = some z → ¬ (0 ≤ z ∧ Lib.itoa z = 45 :: r) := by
        rintro z hz ⟨h0, h1⟩
        obtain ⟨n, rfl⟩ := Int.eq_ofNat_of_zero_le h0
        rw [Lib.itoa_nonneg] at h1
        have := digits_bytes n 45 (by rw [h1]; simp)
        simp at this
      cases ha : Lib.atoi (45 :: r) with
      | none => rfl
      | some z => simp only; rw [if_neg (this z ha)]
    by_cases h43 : b = 43
    · subst h43
      rw [hright (hno (by decide))]
      have : ∀ z, Lib.atoi (43 :: r) = some z → ¬ (0 ≤ z ∧ Lib.itoa z = 43 :: r) := by
        rintro z hz ⟨h0, h1⟩
        obtain ⟨n, rfl⟩ := Int.eq_ofNat_of_zero_le h0
        rw [Lib.itoa_nonneg] at h1
        have := digits_bytes n 43 (by rw [h1]; simp)
        simp at this
      cases ha : Lib.atoi (43 :: r) with
      | none => rfl
      | some z => simp only; rw [if_neg (this z ha)]
    have ha : Lib.atoi (b :: r) = (Lib.decFrom 0 (b :: r)).map fun (m : Nat) => (m : Int) := by
      have e1 : (b == 45) = false := by simpa using h45
      have e2 : (b == 43) = false := by simpa using h43
      simp [Lib.atoi, e1, e2, Lib.decNat]
    rw [ha]
    cases hd : Lib.decFrom 0 (b :: r) with
    | none => simp
    | some m =>
      simp only [Option.map_some]
      rw [Lib.itoa_nonneg]
      by_cases hz : 1 < (b :: r).length ∧ (b :: r)[0]? = some 48
      · rw [if_pos (show (b :: r).length < 1 ∨ 4 < (b :: r).length ∨ (1 < (b :: r).length ∧ (b :: r)[0]? = some 48) from .inr (.inr hz))]
        have hno2 : ¬ (0 ≤ (m : Int) ∧ Lib.decDigits m = b :: r) := by
          rintro ⟨_, h1⟩
          have hb : b = 48 := by simpa using hz.2
          subst hb
          by_cases hm : 1 ≤ m
          · have := digits_head m hm
            rw [h1] at this
            simp at this
          · obtain rfl : m = 0 := by omega
            rw [Lib.decDigits, dif_pos (by omega)] at h1
            have h2 := congrArg List.length h1
            have h3 := hz.1
            rw [← h2] at h3
            simp at h3
        rw [if_neg hno2]
      · have hyes : 0 ≤ (m : Int) ∧ Lib.decDigits m = b :: r := by
          refine ⟨by omega, ?_⟩
          by_cases hb : b = 48
          · subst hb
            have hr : r = [] := by
              cases r with
              | nil => rfl
              | cons x y => exact absurd ⟨by simp, by simp⟩ hz
            subst hr
            have e : Lib.decFrom 0 [48] = some 0 := by decide
            rw [e] at hd
            cases hd
            rw [Lib.decDigits, dif_pos (by omega)]
            rfl
          · exact (digits_of _ (b :: r) m rfl (by simp) (by simpa using hb) hd).1
        rw [if_pos hyes, if_neg (show ¬ ((b :: r).length < 1 ∨ 4 < (b :: r).length ∨ (1 < (b :: r).length ∧ (b :: r)[0]? = some 48)) from fun h => by
          rcases h with h | h | h
          · simp at h
          · exact h4 h
          · exact hz h)]
        simp
end Go.Proofs.YtmhipgompplkdaaGreatDoor.Tf
namespace Go.Proofs.YtmhipgompplkdaaGreatDoor
open Go.RowKit Go.Shelf Go.Lib
def numR3 (d : List UInt8) : Option Nat := if d.length < 1 ∨ 3 < d.length ∨ (1 < d.length ∧ d[0]? = some 48) then none else Lib.decFrom 0 d
def numJ (d : List UInt8) : Int := match numR3 d with
  | some n => (n : Int)
  | none => -1
theorem numJ_no {d : List UInt8} (h : d.length < 1 ∨ 3 < d.length ∨ (1 < d.length ∧ d[0]? = some 48)) : numJ d = -1 := by
  unfold numJ numR3
  rw [if_pos h]
theorem numJ_dec {d : List UInt8} (h : ¬ (d.length < 1 ∨ 3 < d.length ∨ (1 < d.length ∧ d[0]? = some 48))) {n : Nat} (hd : Lib.decFrom 0 d = some n) : numJ d = (n : Int) := by
  unfold numJ numR3
  rw [if_neg h, hd]
theorem numJ_bad {d : List UInt8} {k : Nat} (hk : k < d.length) (h : Lib.digitVal d[k] = none) : numJ d = -1 := by
  unfold numJ numR3
  split
  · rename_i n hn
    split at hn
    · cases hn
    · obtain ⟨x, hx⟩ := Lib.digit_of_decFrom d 0 n hn k d[k] (List.getElem?_eq_getElem hk)
      rw [h] at hx
      cases hx
  · rfl
set_option maxRecDepth 100000 in
set_option maxHeartbeats 2000000 in
theorem NumberOf3_calls (d : List UInt8) (hd : d.length ≤ 1000000) (w : World) :
    Calls Tryz.prog 83 #[.string (ba d), .int .i64 3] w fun e w' => e = .returned (.int .i64 (numJ d)) ∧ w' = w := by
  obtain ⟨bs, eb, T⟩ := txt d
  rw [eb]
  clear eb
  have hsz : (bs.size : Int) ≤ 1000000 := by rw [T.size]; omega
  by_cases h1 : d.length < 1
  · rw [numJ_no (.inl h1)]
    have z1 : (bs.size : Int) < 1 := by rw [T.size]; omega
    clear T h1
    go_enter Tryz.func83, Tryz.ntmps83
    go_wp2
    go_ret
    exact ⟨rfl, rfl⟩
  by_cases h4 : 3 < d.length
  · rw [numJ_no (.inr (.inl h4))]
    have z1 : (1 : Int) ≤ (bs.size : Int) := by rw [T.size]; omega
    have z4 : (3 : Int) < (bs.size : Int) := by rw [T.size]; omega
    clear T h1 h4
    go_enter Tryz.func83, Tryz.ntmps83
    go_wp2
    go_ret
    exact ⟨rfl, rfl⟩
  have z1 : (1 : Int) ≤ (bs.size : Int) := by rw [T.size]; omega
  have z4 : (bs.size : Int) ≤ 3 := by rw [T.size]; omega
  have n0 : 0 < bs.size := by rw [T.size]; omega
  have hg0 := T.get 0 (by omega) n0
  by_cases h0 : 1 < d.length ∧ d[0]? = some 48
  · rw [numJ_no (.inr (.inr h0))]
    have z2 : (1 : Int) < (bs.size : Int) := by rw [T.size]; omega
    have hb : bs[0] = 48 := by
      rw [hg0]
      have := h0.2
      rw [List.getElem?_eq_getElem (by omega)] at this
      exact Option.some.inj this
    clear T h1 h4 h0 hg0
    go_enter Tryz.func83, Tryz.ntmps83
    go_wp2
    go_ret
    exact ⟨rfl, rfl⟩
  have hcond : ¬ (d.length < 1 ∨ 3 < d.length ∨ (1 < d.length ∧ d[0]? = some 48)) := by rintro (h | h | h); exact h1 h; exact h4 h; exact h0 h
  have hz : (1 : Int) < (bs.size : Int) → ((bs[0].toNat : Int) == 48) = false := fun h => by
    rw [T.size] at h
    cases hq : ((bs[0].toNat : Int) == 48) with
    | false => rfl
    | true =>
      exfalso
      refine h0 ⟨by omega, ?_⟩
      rw [List.getElem?_eq_getElem (by omega)]
      have := eq_of_beq hq
      rw [hg0] at this
      congr 1
      exact UInt8.toNat_inj.1 (by simp; omega)
  have HZ : Hid ((1 : Int) < (bs.size : Int) → ((bs[0].toNat : Int) == 48) = false) := hz
  have HC : Hid (¬ (d.length < 1 ∨ 3 < d.length ∨ (1 < d.length ∧ d[0]? = some 48))) := hcond
  obtain ⟨res, hres⟩ : ∃ res, numJ d = res := ⟨_, rfl⟩
  have HR : Hid (numJ d = res) := hres
  rw [hres]
  clear hz hcond hres h0
  clear hg0 h1 h4
  go_enter Tryz.func83, Tryz.ntmps83
  by_cases hone : (1 : Int) < (bs.size : Int)
  all_goals
    (try have hb0 := HZ.out hone)

    go_wp2
    go_loopw [5, 6] (fun n i wr => ∃ (k m : Nat), k ≤ d.length ∧ i = .int .i64 k ∧ n = .int .i64 m ∧ Lib.decFrom 0 (d.take k) = some m ∧ m < 10000 ∧ wr = w) (fun _ i _ => d.length - (intOf i).toNat)
    case atStart => exact ⟨0, 0, by omega, rfl, rfl, rfl, by omega, rfl⟩
    case round =>
      obtain ⟨k, m, hk, rfl, rfl, hdec, hm, rfl⟩ := hrel
      have HD : Hid (Lib.decFrom 0 (d.take k) = some m) := hdec
      clear hdec
      have zm : (m : Int) < 10000 := by omega
      have zm0 : (0 : Int) ≤ (m : Int) := by omega
      by_cases hlt : k < d.length
      · have hlt2 : k < bs.size := by rw [T.size]; exact hlt
        have c1 : (k : Int) < (bs.size : Int) := by rw [T.size]; omega
        have c0 : (0 : Int) ≤ (k : Int) := by omega
        have hget := T.get k hlt hlt2
        have hbad : ∀ (_ : ¬ (48 ≤ bs[k].toNat ∧ bs[k].toNat ≤ 57)), res = -1 := fun h => by
          rw [← HR.out]
          refine numJ_bad hlt ?_
          unfold Lib.digitVal
          rw [← hget, if_neg h]
        by_cases hlo : 48 ≤ bs[k].toNat
        · by_cases hhi : bs[k].toNat ≤ 57
          · have hdig : Lib.digitVal d[k] = some (bs[k].toNat - 48) := by
              unfold Lib.digitVal
              rw [← hget, if_pos ⟨hlo, hhi⟩]
            have hnext := Lib.decFrom_take d k 0 m d[k] _ HD.out (List.getElem?_eq_getElem hlt) hdig
            have hsmall : m * 10 + (bs[k].toNat - 48) < 10000 := by
              have h1 := Lib.decFrom_lt _ 0 _ hnext
              have h2 : 10 ^ (d.take (k + 1)).length ≤ 10 ^ 4 := Nat.pow_le_pow_right (by omega) (by rw [List.length_take, ← T.size]; omega)
              omega
            have HN : Hid (Lib.decFrom 0 (d.take (k + 1)) = some (m * 10 + (bs[k].toNat - 48))) := hnext
            clear hnext hdig hbad hget
            have y1 : (48 : Int) ≤ (bs[k].toNat : Int) := by omega
            have y2 : (bs[k].toNat : Int) ≤ 57 := by omega
            go_wp2
            go_roundw
            case rel => exact ⟨k + 1, m * 10 + (bs[k].toNat - 48), by omega, by go_num, by go_num, HN.out, hsmall, by first | rfl | trivial⟩
            case measure => simp [intOf]; omega
          · have e := hbad (by omega)
            have y2 : (57 : Int) < (bs[k].toNat : Int) := by omega
            have y1 : (48 : Int) ≤ (bs[k].toNat : Int) := by omega
            clear hbad hget
            go_wp2
            go_ret
            exact ⟨by rw [e]; rfl, rfl⟩
        · have e := hbad (by omega)
          have y1 : (bs[k].toNat : Int) < 48 := by omega
          clear hbad hget
          go_wp2
          go_ret
          exact ⟨by rw [e]; rfl, rfl⟩
      · have c1 : (bs.size : Int) ≤ (k : Int) := by rw [T.size]; omega
        obtain rfl : k = d.length := by omega
        have e : res = (m : Int) := by
          have := HD.out
          rw [List.take_length] at this
          rw [← HR.out, numJ_dec HC.out this]
        go_wp2
        go_ret
        exact ⟨by rw [e]; rfl, rfl⟩
theorem numM_numR3 (d : List UInt8) : numM 3 d = numR3 d := by
  by_cases h : 3 < d.length
  · unfold numM numR3
    rw [if_pos h, if_pos (.inr (.inl h))]
  · have e1 : numM 3 d = numM 4 d := by
      unfold numM
      rw [if_neg h, if_neg (by omega)]
    have e2 : Tf.numR d = numR3 d := by
      unfold Tf.numR numR3
      by_cases hc : d.length < 1 ∨ (1 < d.length ∧ d[0]? = some 48)
      · rw [if_pos (by rcases hc with hc | hc; exact .inl hc; exact .inr (.inr hc)), if_pos (by rcases hc with hc | hc; exact .inl hc; exact .inr (.inr hc))]
      · rw [if_neg (by rintro (hh | hh | hh); exact hc (.inl hh); omega; exact hc (.inr hh)), if_neg (by rintro (hh | hh | hh); exact hc (.inl hh); exact h hh; exact hc (.inr hh))]
    rw [e1, ← numT_numM, Tf.numT_numR, e2]
theorem numJ_many (d : List UInt8) : decide ((0 : Int) ≤ numJ d) = (numM 3 d).isSome := by
  rw [numM_numR3]
  unfold numJ
  cases numR3 d with
  | none => rfl
  | some n => simp
end Go.Proofs.YtmhipgompplkdaaGreatDoor
