/- The tables of the document's answer, filled by what package path tells of beginnings; what MatchOf answers where there is no pattern, or no path. -/
import Derived.Test.YtpkkhabiheobnaaDoorWildName
import Derived.Test.YtpkkhabiheobnaaDoorStarOf
import Derived.Test.YtpkkhabiheobnaaDoorRPath
import Derived.Laws.OwnMore
namespace Go.Proofs.YtpkkhabiheobnaaDoor
open Go.RowKit Go.Shelf Go.Lib

theorem bool_iff {a b : Bool} {p q : Prop} (ha : a = true ↔ p) (hb : b = true ↔ q) (h : p ↔ q) : a = b := by
  rw [Bool.eq_iff_iff, ha, hb, h]

theorem table_of {α β : Type} (st : α → Bool) (eq : α → β → Bool) (p : List α) (s : List β) (st' : Nat → Bool) (eq' : Nat → Nat → Bool)
    (hst : ∀ i (h : i < p.length), st' i = st p[i]) (heq : ∀ i k (h : i < p.length) (h' : k < s.length), eq' i k = eq p[i] s[k]) (R : Nat → Nat → Bool)
    (hR : ∀ i k, i ≤ p.length → k ≤ s.length → (R i k = true ↔ Wd st eq (p.take i) (s.take k))) : Table p.length s.length st' eq' R where
  start := (hR 0 0 (by omega) (by omega)).2 rfl
  none k hk := by
    have h := hR 0 (k + 1) (by omega) (by omega)
    cases hx : R 0 (k + 1) with
    | false => rfl
    | true =>
      have h1 : s.take (k + 1) = [] := h.1 hx
      have h2 := congrArg List.length h1
      simp at h2
      subst h2
      simp at hk
  star0 i hi hs := by
    rw [hst i hi] at hs
    refine bool_iff (hR (i + 1) 0 (by omega) (by omega)) (hR i 0 (by omega) (by omega)) ?_
    rw [List.take_succ_eq_append_getElem hi]
    exact Wd_star_nil st eq hs _
  star i k hi hk hs := by
    rw [hst i hi] at hs
    rw [Bool.eq_iff_iff, Bool.or_eq_true, hR (i + 1) (k + 1) (by omega) (by omega), hR i (k + 1) (by omega) (by omega), hR (i + 1) k (by omega) (by omega)]
    rw [List.take_succ_eq_append_getElem hi, List.take_succ_eq_append_getElem hk]
    exact Wd_star_step st eq hs _ _ _
  lit0 i hi hs := by
    rw [hst i hi] at hs
    have h := hR (i + 1) 0 (by omega) (by omega)
    cases hx : R (i + 1) 0 with
    | false => rfl
    | true =>
      have h1 := h.1 hx
      rw [List.take_succ_eq_append_getElem hi] at h1
      exact absurd h1 (Wd_lit_nil st eq hs _)
  lit i k hi hk hs := by
    rw [hst i hi] at hs
    rw [Bool.eq_iff_iff, Bool.and_eq_true, hR (i + 1) (k + 1) (by omega) (by omega), hR i k (by omega) (by omega), heq i k hi hk]
    rw [List.take_succ_eq_append_getElem hi, List.take_succ_eq_append_getElem hk]
    exact Wd_lit_step st eq hs _ _ _

theorem starOf_calls (p s : List UInt8) (hp : p.length ≤ 1000) (hs : s.length ≤ 1000) (w : World) :
    Calls Tryd.prog 36 #[.string (ba p), .string (ba s)] w fun e w' => e = .returned (.bool (fitN p s)) ∧ Below w.heap.size w w' := by
  obtain ⟨ps, ep, Tp⟩ := txt p
  obtain ⟨ss, es, Ts⟩ := txt s
  rw [ep, es]
  refine starOf_walk ps ss p s Tp Ts hp hs (fun i k => fitN (p.take i) (s.take k)) (fitN p s) (show fitN (p.take p.length) (s.take s.length) = fitN p s by rw [List.take_length, List.take_length]) ?_ w
  refine table_of oneS same p s _ _ (fun i h => ?_) (fun i k h h' => ?_) _ (fun i k _ _ => fitN_Wd _ _)
  · simp [oneS, h]
  · simp [same, h, h']

theorem name_len {b : Bool} {p : List UInt8} (h : nameR b p = true) : p.length ≤ 12 := by
  unfold nameR at h
  simp only [Bool.and_eq_true, decide_eq_true_eq] at h
  exact h.1.1.1.2

theorem partsOf_yes (stars : Bool) (s : List UInt8) (hs : s.length ≤ 1000000) (h : okR stars s = true) :
    Hid (∀ W, Calls Tryd.prog 26 #[.string (ba s), .bool stars] W fun e w' => ∃ g cap, e = .returned (.slice (some ⟨g, 0, none⟩) (Kf.parts s).length cap) ∧ g < w'.heap.size ∧ (∀ (j : Nat) (h : j < (Kf.parts s).length), w'.cell? ⟨g, j, none⟩ = some (.string (ba (Kf.parts s)[j]))) ∧ Below W.heap.size W w') := fun W => by
  refine (partsOf_calls stars s hs W).mono ?_
  rintro e w' ⟨v, rfl, (⟨_, hrow⟩ | ⟨ho, _⟩), hB⟩
  · have hne := Kf.parts_ne s
    generalize Kf.parts s = l at *
    obtain ⟨g, cap, rfl⟩ : ∃ g cap, v = .slice (some ⟨g, 0, none⟩) l.length cap := by
      cases l with
      | nil => exact absurd rfl hne
      | cons x xs => exact ownsRow_succ hrow
    have hc : ∀ (j : Nat) (h : j < l.length), w'.cell? ⟨g, j, none⟩ = some (.string (ba l[j])) := fun j hj => by
      have := hrow.cellAt j (by omega)
      rw [this, List.getElem?_map, List.getElem?_eq_getElem hj]
      rfl
    exact ⟨g, cap, rfl, lt_of_cell (hc 0 (List.length_pos_iff.2 hne)), hc, hB⟩
  · rw [h] at ho; cases ho

theorem okR_parts' {b : Bool} {s : List UInt8} (h : okR b s = true) : (Kf.parts s).length ≤ 5 ∧ (∀ p ∈ Kf.parts s, nameR b p = true) := by
  unfold okR at h
  simp only [Bool.and_eq_true, List.all_eq_true, decide_eq_true_eq] at h
  exact h

theorem partsOf_no (stars : Bool) (s : List UInt8) (hs : s.length ≤ 1000000) (h : okR stars s = false) :
    Hid (∀ W, Calls Tryd.prog 26 #[.string (ba s), .bool stars] W fun e w' => e = .returned (.slice none 0 0) ∧ Below W.heap.size W w') := fun W => by
  refine (partsOf_calls stars s hs W).mono ?_
  rintro e w' ⟨v, rfl, (⟨ho, _⟩ | ⟨_, rfl⟩), hB⟩
  · rw [h] at ho; cases ho
  · exact ⟨rfl, hB⟩

theorem MatchOf_noPat (p s : List UInt8) (hp : p.length ≤ 1000000) (hs : s.length ≤ 1000000) (h1 : okR true p = false) (w : World) :
    Calls Tryd.prog 22 #[.string (ba p), .string (ba s)] w fun e w' => e = .returned (.tuple #[.bool false, .int .i64 4]) ∧ Below w.heap.size w w' := by
  have HP := partsOf_no true p hp h1
  have HL : Hid (∀ W, Calls Tryd.prog 26 #[.string (ba s), .bool false] W fun e w' => ∃ a n c, e = .returned (.slice a n c) ∧ Below W.heap.size W w') := fun W => by
    refine (partsOf_calls false s hs W).mono ?_
    rintro e w' ⟨v, rfl, h, hB⟩
    rcases h with ⟨_, hrow⟩ | ⟨_, rfl⟩
    · rcases hrow.2 with ⟨rfl, _⟩ | ⟨g, cap, cur, rfl, _⟩
      · exact ⟨_, _, _, rfl, hB⟩
      · exact ⟨_, _, _, rfl, hB⟩
    · exact ⟨_, _, _, rfl, hB⟩
  clear h1
  go_enter Tryd.func22, Tryd.ntmps22
  go_wp2_with fail
  refine (HP.out _).mono ?_
  rintro e w1 ⟨rfl, g1⟩
  go_wp2_with fail
  refine (HL.out _).mono ?_
  rintro e w2 ⟨a, n, c, rfl, g2⟩
  go_wp2
  go_ret2
  exact ⟨rfl, g1.trans (g2.mono g1.size)⟩

theorem MatchOf_noPath (p s : List UInt8) (hp : p.length ≤ 1000000) (hs : s.length ≤ 1000000) (h1 : okR true p = true) (h2 : okR false s = false) (w : World) :
    Calls Tryd.prog 22 #[.string (ba p), .string (ba s)] w fun e w' => e = .returned (.tuple #[.bool false, .int .i64 4]) ∧ Below w.heap.size w w' := by
  have HL := partsOf_no false s hs h2
  have HP : Hid (∀ W, Calls Tryd.prog 26 #[.string (ba p), .bool true] W fun e w' => ∃ g cap, e = .returned (.slice (some ⟨g, 0, none⟩) (Kf.parts p).length cap) ∧ Below W.heap.size W w') := fun W => by
    refine ((partsOf_yes true p hp h1).out W).mono ?_
    rintro e w' ⟨g, cap, rfl, _, _, hB⟩
    exact ⟨_, _, rfl, hB⟩
  have hz := List.length_pos_iff.2 (Kf.parts_ne p)
  generalize (Kf.parts p).length = n at *
  have zP : ((n : Int) == 0) = false := beq_eq_false_iff_ne.2 (by omega)
  clear h1 h2 hz
  go_enter Tryd.func22, Tryd.ntmps22
  go_wp2_with fail
  refine (HP.out _).mono ?_
  rintro e w1 ⟨g, cap, rfl, g1⟩
  go_wp2_with fail
  refine (HL.out _).mono ?_
  rintro e w2 ⟨rfl, g2⟩
  go_wp2
  go_ret2
  exact ⟨rfl, g1.trans (g2.mono g1.size)⟩
end Go.Proofs.YtpkkhabiheobnaaDoor
