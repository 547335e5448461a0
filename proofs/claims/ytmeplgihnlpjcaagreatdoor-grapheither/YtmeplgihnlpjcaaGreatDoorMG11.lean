/- Rounds of rules, and orders: as data. -/
import Derived.Test.YtmeplgihnlpjcaaGreatDoorMG3
import Derived.Test.YtmeplgihnlpjcaaGreatDoorGInts
import Derived.Test.YtmeplgihnlpjcaaGreatDoorMG8
namespace Go.Proofs.YtmeplgihnlpjcaaGreatDoor
open Go.RowKit Go.Shelf Go.Lib

namespace Ru
/-- A way of t steps, each from a rule to one that it needs. -/
inductive Walk (l : List Ru) : Nat → Nat → Nat → Prop
  | zero (i : Nat) : Walk l i i 0
  | step {i j k t : Nat} : needs l i j = true → Walk l j k t → Walk l i k (t + 1)
theorem Walk.trans {l : List Ru} {i j k s t : Nat} (h : Walk l i j s) (h' : Walk l j k t) : Walk l i k (s + t) := by
  induction h with
  | zero i => rw [Nat.zero_add]; exact h'
  | step hn _ ih => rw [Nat.add_right_comm]; exact .step hn (ih h')
theorem Walk.one {l : List Ru} {i k : Nat} (h : needs l i k = true) : Walk l i k 1 := .step h (.zero k)
theorem Walk.inv {l : List Ru} {i k t : Nat} (h : Walk l i k (t + 1)) : ∃ j, needs l i j = true ∧ Walk l j k t := by
  cases h with
  | step hn hw => exact ⟨_, hn, hw⟩
theorem Walk.last {l : List Ru} {i k t : Nat} (h : Walk l i k (t + 1)) : ∃ j, Walk l i j t ∧ needs l j k = true := by
  induction t generalizing i with
  | zero =>
    obtain ⟨j, hn, hw⟩ := h.inv
    cases hw
    exact ⟨i, .zero i, hn⟩
  | succ t ih =>
    obtain ⟨j, hn, hw⟩ := h.inv
    obtain ⟨m, h1, h2⟩ := ih hw
    exact ⟨m, .step hn h1, h2⟩
theorem Walk.lt {l : List Ru} {i k t : Nat} (h : Walk l i k (t + 1)) : i < l.length ∧ k < l.length := by
  obtain ⟨j, hn, _⟩ := h.inv
  obtain ⟨m, _, hm⟩ := h.last
  exact ⟨(needs_lt hn).1, (needs_lt hm).2⟩
/-- The least number of steps, from 1 on. -/
def Dist (l : List Ru) (i k t : Nat) : Prop := 1 ≤ t ∧ Walk l i k t ∧ ∀ s, 1 ≤ s → Walk l i k s → t ≤ s
theorem Dist.unique {l : List Ru} {i k s t : Nat} (h : Dist l i k s) (h' : Dist l i k t) : s = t :=
  Nat.le_antisymm (h.2.2 t h'.1 h'.2.1) (h'.2.2 s h.1 h.2.1)

theorem pigeon {n : Nat} {g : Nat → Nat} (h : ∀ t, t ≤ n → g t < n) : ∃ a b, a < b ∧ b ≤ n ∧ g a = g b := by
  refine Classical.byContradiction fun hno => ?_
  have hd : ((List.range (n + 1)).map g).Nodup := by
    rw [List.nodup_iff_pairwise_ne, List.pairwise_map]
    refine List.Pairwise.imp_of_mem ?_ List.pairwise_lt_range
    intro a b _ hb hab e
    exact hno ⟨a, b, hab, by have := List.mem_range.1 hb; omega, e⟩
  have := len_le (n := n) hd (fun i hi => by
    obtain ⟨t, ht, rfl⟩ := List.mem_map.1 hi
    exact h t (by have := List.mem_range.1 ht; omega))
  simp at this
  omega

/-- A way can be had in no more steps than there are rules. -/
theorem Walk.short {l : List Ru} {i k t : Nat} (h : Walk l i k (t + 1)) : ∃ s, s + 1 ≤ l.length ∧ Walk l i k (s + 1) := by
  -- the least number of steps
  have hex : ∃ s, Walk l i k (s + 1) := ⟨t, h⟩
  obtain ⟨s, hs, hmin⟩ : ∃ s, Walk l i k (s + 1) ∧ ∀ m, Walk l i k (m + 1) → s ≤ m := by
    refine Classical.byContradiction fun hno => ?_
    have : ∀ m, ∀ r, r ≤ m → ¬ Walk l i k (r + 1) := by
      intro m
      induction m with
      | zero =>
        intro r hr hw
        obtain rfl : r = 0 := by omega
        exact hno ⟨0, hw, fun _ _ => Nat.zero_le _⟩
      | succ m ih =>
        intro r hr hw
        rcases Nat.lt_or_ge r (m + 1) with h1 | h1
        · exact ih r (by omega) hw
        · obtain rfl : r = m + 1 := by omega
          refine hno ⟨m + 1, hw, fun q hq => ?_⟩
          rcases Nat.lt_or_ge q (m + 1) with h2 | h2
          · exact absurd hq (ih q (by omega))
          · exact h2
    exact this t t (Nat.le_refl _) h
  refine ⟨s, ?_, hs⟩
  refine Nat.le_of_not_lt fun hlt => ?_
  -- the places of the way
  have key : ∀ (t : Nat) (i : Nat), Walk l i k t → ∃ g : Nat → Nat, g 0 = i ∧ g t = k ∧ ∀ a, a < t → needs l (g a) (g (a + 1)) = true := by
    intro t
    induction t with
    | zero =>
      intro i hw
      have e : i = k := by cases hw; rfl
      subst e
      exact ⟨fun _ => i, rfl, rfl, fun a ha => by omega⟩
    | succ t ih =>
      intro i hw
      obtain ⟨j, hn, hw'⟩ := hw.inv
      obtain ⟨g, g0, gt, gn⟩ := ih j hw'
      refine ⟨fun a => if a = 0 then i else g (a - 1), rfl, by simpa using gt, fun a ha => ?_⟩
      by_cases e : a = 0
      · subst e; simpa [g0] using hn
      · have := gn (a - 1) (by omega)
        rw [show a - 1 + 1 = a by omega] at this
        simpa [e] using this
  obtain ⟨g, g0, gt, gn⟩ := key (s + 1) i hs
  have hg : ∀ a, a ≤ s → g a < l.length := fun a ha => (needs_lt (gn a (by omega))).1
  obtain ⟨a, b, hab, hb, e⟩ := pigeon (n := l.length) (g := g) fun a ha => hg a (by omega)
  have sub : ∀ (d a : Nat), a + d ≤ s + 1 → Walk l (g a) (g (a + d)) d := by
    intro d
    induction d with
    | zero => intro a _; exact .zero _
    | succ d ih =>
      intro a ha
      have := ih (a + 1) (by omega)
      rw [show a + 1 + d = a + (d + 1) by omega] at this
      exact .step (gn a (by omega)) this
  have w1 := sub a 0 (by omega)
  rw [Nat.zero_add, g0] at w1
  have w2 := sub (s + 1 - b) b (by omega)
  rw [show b + (s + 1 - b) = s + 1 by omega, gt, ← e] at w2
  have w3 := w1.trans w2
  obtain ⟨m, hm⟩ : ∃ m, a + (s + 1 - b) = m + 1 := ⟨a + (s + 1 - b) - 1, by omega⟩
  rw [hm] at w3
  have := hmin m w3
  omega
theorem Walk.dist {l : List Ru} {i k t : Nat} (h : Walk l i k (t + 1)) : ∃ d, d ≤ l.length ∧ Dist l i k d := by
  obtain ⟨s, hs, hw⟩ := h.short
  have : ∀ m, ∀ r, r ≤ m → Walk l i k (r + 1) → ∃ d, d ≤ r + 1 ∧ Dist l i k d := by
    intro m
    induction m with
    | zero =>
      intro r hr hw
      obtain rfl : r = 0 := by omega
      exact ⟨1, Nat.le_refl _, Nat.le_refl _, hw, fun s hs _ => hs⟩
    | succ m ih =>
      intro r hr hw
      by_cases hc : ∃ q, q < r ∧ Walk l i k (q + 1)
      · obtain ⟨q, hq, hw'⟩ := hc
        obtain ⟨d, hd, hD⟩ := ih q (by omega) hw'
        exact ⟨d, by omega, hD⟩
      · refine ⟨r + 1, Nat.le_refl _, by omega, hw, fun s hs hws => ?_⟩
        refine Nat.le_of_not_lt fun hlt => hc ⟨s - 1, by omega, ?_⟩
        rw [show s - 1 + 1 = s by omega]
        exact hws
  obtain ⟨d, hd, hD⟩ := this s s (Nat.le_refl _) hw
  exact ⟨d, by omega, hD⟩

/-- The first step of a shortest way. -/
theorem Dist.first {l : List Ru} {i k t : Nat} (h : Dist l i k (t + 2)) : ∃ j, needs l i j = true ∧ Dist l j k (t + 1) := by
  obtain ⟨j, hn, hw⟩ := h.2.1.inv
  refine ⟨j, hn, by omega, hw, fun s hs hws => ?_⟩
  have := h.2.2 (s + 1) (by omega) (.step hn hws)
  omega

/-- The round that the document asks for: empty: there is none. -/
structure IsCycle (l : List Ru) (c : List Nat) : Prop where
  none : c = [] → ∀ i t, ¬ Walk l i i (t + 1)
  first : ∀ (h : 0 < c.length), (∀ j t, j < c[0] → ¬ Walk l j j (t + 1)) ∧ Dist l c[0] c[0] c.length
  next : ∀ j (h : j + 1 < c.length), needs l c[j] c[j + 1] = true ∧ Dist l c[j + 1] c[0] (c.length - 1 - j) ∧ ∀ k, k < c[j + 1] → ¬ (needs l c[j] k = true ∧ Dist l k c[0] (c.length - 1 - j))

theorem IsCycle.lt {l : List Ru} {c : List Nat} (h : IsCycle l c) (j : Nat) (hj : j < c.length) : c[j] < l.length := by
  cases j with
  | zero =>
    have := (h.first hj).2
    obtain ⟨t, ht⟩ : ∃ t, c.length = t + 1 := ⟨c.length - 1, by omega⟩
    have hw := this.2.1
    rw [ht] at hw
    exact hw.lt.1
  | succ j => exact (needs_lt (h.next j hj).1).2
/-- Each needs the one behind it, and the last one the first one. -/
theorem IsCycle.round {l : List Ru} {c : List Nat} (h : IsCycle l c) (j : Nat) (hj : j < c.length) : needs l c[j] (c[(j + 1) % c.length]'(Nat.mod_lt _ (by omega))) = true := by
  by_cases hlt : j + 1 < c.length
  · simp only [Nat.mod_eq_of_lt hlt]
    exact (h.next j hlt).1
  · have e : j + 1 = c.length := by omega
    simp only [e, Nat.mod_self]
    have hd : Dist l c[j] (c[0]'(by omega)) 1 := by
      cases j with
      | zero =>
        have := (h.first hj).2
        rw [← e] at this
        exact this
      | succ i =>
        have := (h.next i hj).2.1
        rw [show c.length - 1 - i = 1 by omega] at this
        exact this
    obtain ⟨m, hn, hw⟩ := Walk.inv hd.2.1
    cases hw
    exact hn

theorem IsCycle.unique {l : List Ru} {c c' : List Nat} (h : IsCycle l c) (h' : IsCycle l c') : c = c' := by
  by_cases e : c = []
  · subst e
    by_cases e' : c' = []
    · exact e'.symm
    · have hp : 0 < c'.length := List.length_pos_iff.2 e'
      have hd := (h'.first hp).2
      obtain ⟨t, ht⟩ : ∃ t, c'.length = t + 1 := ⟨c'.length - 1, by omega⟩
      have hw := hd.2.1
      rw [ht] at hw
      exact absurd hw (h.none rfl _ _)
  · have hp : 0 < c.length := List.length_pos_iff.2 e
    have hd := (h.first hp).2
    by_cases e' : c' = []
    · obtain ⟨t, ht⟩ : ∃ t, c.length = t + 1 := ⟨c.length - 1, by omega⟩
      have hw := hd.2.1
      rw [ht] at hw
      exact absurd hw (h'.none e' _ _)
    · have hp' : 0 < c'.length := List.length_pos_iff.2 e'
      have hd' := (h'.first hp').2
      have h0 : c[0] = c'[0] := by
        rcases Nat.lt_trichotomy c[0] c'[0] with h1 | h1 | h1
        · obtain ⟨t, ht⟩ : ∃ t, c.length = t + 1 := ⟨c.length - 1, by omega⟩
          have hw := hd.2.1
          rw [ht] at hw
          exact absurd hw ((h'.first hp').1 _ t h1)
        · exact h1
        · obtain ⟨t, ht⟩ : ∃ t, c'.length = t + 1 := ⟨c'.length - 1, by omega⟩
          have hw := hd'.2.1
          rw [ht] at hw
          exact absurd hw ((h.first hp).1 _ t h1)
      have hlen : c.length = c'.length := by
        rw [h0] at hd
        exact hd.unique hd'
      have all : ∀ j (hj : j < c.length), c[j] = c'[j]'(by omega) := by
        intro j
        induction j with
        | zero => intro _; exact h0
        | succ j ih =>
          intro hj
          have hj' : j + 1 < c'.length := by omega
          have e1 := ih (by omega)
          obtain ⟨a1, a2, a3⟩ := h.next j hj
          obtain ⟨b1, b2, b3⟩ := h'.next j hj'
          rw [e1] at a1 a3
          rw [h0, hlen] at a2
          rw [h0] at a3
          rcases Nat.lt_trichotomy c[j + 1] c'[j + 1] with h1 | h1 | h1
          · exact absurd ⟨a1, a2⟩ (b3 _ h1)
          · exact h1
          · exact absurd ⟨b1, by rw [show c.length - 1 - j = c'.length - 1 - j by rw [hlen]]; exact b2⟩ (a3 _ h1)
      exact List.ext_getElem hlen fun j h1 _ => all j h1

/-- Each comes behind all that it needs. -/
def Topo (l : List Ru) (o : List Nat) : Prop := ∀ j (hj : j < o.length) k, needs l o[j] k = true → k ∈ o.take j
theorem orderF_some {l : List Ru} {some : Nat → Bool} : ∀ {f : Nat} {o r : List Nat}, orderF l some f o = Option.some r → Topo l o → Topo l r ∧ ∀ i, i < l.length → some i = true → i ∈ r
  | 0, _, _, h, _ => by cases h
  | f + 1, o, r, h, ht => by
    unfold orderF at h
    split at h
    · split at h
      · cases h
      · rename_i i hi
        refine orderF_some h ?_
        have hm := (nextTo_some hi).2
        simp only [may, Bool.and_eq_true, freeTo, List.all_eq_true, Bool.or_eq_true, Bool.not_eq_true'] at hm
        intro j hj k hn
        rw [List.length_append, List.length_singleton] at hj
        by_cases e : j < o.length
        · rw [List.getElem_append_left e] at hn
          rw [List.take_append_of_le_length (by omega)]
          exact ht j e k hn
        · obtain rfl : j = o.length := by omega
          rw [List.getElem_append_right (Nat.le_refl _)] at hn
          simp only [Nat.sub_self, List.getElem_cons_zero] at hn
          rw [List.take_append_of_le_length (Nat.le_refl _), List.take_length]
          rcases hm.2 k (List.mem_range.2 (needs_lt hn).2) with h1 | h1
          · simpa [isIn] using h1
          · rw [hn] at h1
            cases h1
    · rename_i hl
      cases h
      refine ⟨ht, fun i hi hs => ?_⟩
      simp only [leftTo, List.any_eq_true, Bool.and_eq_true, Bool.not_eq_true'] at hl
      refine Classical.byContradiction fun hno => hl ⟨i, List.mem_range.2 hi, hs, ?_⟩
      simpa [isIn] using hno
theorem order_some {l : List Ru} {some : Nat → Bool} {o : List Nat} (h : order l some = Option.some o) : Topo l o ∧ ∀ i, i < l.length → some i = true → i ∈ o :=
  orderF_some h fun j hj => by simp at hj

theorem orderF_nodup {l : List Ru} {some : Nat → Bool} : ∀ {f : Nat} {o r : List Nat}, orderF l some f o = Option.some r → o.Nodup → (∀ i ∈ o, i < l.length) → r.Nodup ∧ ∀ i ∈ r, i < l.length
  | 0, _, _, h, _, _ => by cases h
  | f + 1, o, r, h, hd, hb => by
    unfold orderF at h
    split at h
    · split at h
      · cases h
      · rename_i i hi
        obtain ⟨hil, hm⟩ := nextTo_some hi
        have hio : i ∉ o := by
          simp only [may, Bool.and_eq_true, Bool.not_eq_true', isIn, decide_eq_false_iff_not] at hm
          exact hm.1.2
        refine orderF_nodup h ?_ ?_
        · rw [List.nodup_append]
          exact ⟨hd, by simp, fun a ha b hb => by
            rw [List.mem_singleton.1 hb]
            rintro rfl
            exact hio ha⟩
        · intro j hj
          rcases List.mem_append.1 hj with h1 | h1
          · exact hb j h1
          · rw [List.mem_singleton.1 h1]; exact hil
    · cases h
      exact ⟨hd, hb⟩
theorem order_nodup {l : List Ru} {some : Nat → Bool} {o : List Nat} (h : order l some = Option.some o) : o.Nodup ∧ ∀ i ∈ o, i < l.length :=
  orderF_nodup h List.nodup_nil (by simp)
theorem nodup_sub {α : Type} [DecidableEq α] {a : List α} : ∀ {b : List α}, a.Nodup → a ⊆ b → a.length ≤ b.length := by
  induction a with
  | nil => intro b _ _; simp
  | cons x r ih =>
    intro b hd hs
    obtain ⟨hx, hr⟩ := List.nodup_cons.1 hd
    have hxb : x ∈ b := hs (by simp)
    have := ih (b := b.erase x) hr fun y hy => by
      have hne : y ≠ x := fun e => hx (e ▸ hy)
      exact (List.mem_erase_of_ne hne).2 (hs (List.mem_cons_of_mem _ hy))
    rw [List.length_erase_of_mem hxb] at this
    have hp := List.length_pos_of_mem hxb
    simp
    omega
theorem order_len {l : List Ru} {o : List Nat} (h : order l (fun _ => true) = Option.some o) : o.length = l.length := by
  obtain ⟨h1, h2⟩ := order_nodup h
  refine Nat.le_antisymm (len_le h1 h2) ?_
  have := nodup_sub (a := List.range l.length) (b := o) List.nodup_range fun i hi => (order_some h).2 i (List.mem_range.1 hi) rfl
  simpa using this

/-- Where there is an order, there is no round. -/
theorem Topo.none {l : List Ru} {o : List Nat} (h : Topo l o) (i t : Nat) (hi : i ∈ o) : ¬ Walk l i i (t + 1) := by
  have key : ∀ t i j (hj : j < o.length), o[j] = i → ∀ k, Walk l i k (t + 1) → k ∈ o.take j := by
    intro t
    induction t with
    | zero =>
      rintro i j hj rfl k hw
      obtain ⟨m, hn, hw'⟩ := hw.inv
      cases hw'
      exact h j hj _ hn
    | succ t ih =>
      rintro i j hj rfl k hw
      obtain ⟨m, hn, hw'⟩ := hw.inv
      have hm := h j hj m hn
      obtain ⟨q, hq, e⟩ := List.getElem_of_mem hm
      rw [List.getElem_take] at e
      have hqj : q < j := by simp at hq; omega
      exact (List.take_sublist_take_left (Nat.le_of_lt hqj)).subset (ih m q (by omega) e k hw')
  -- the first place of i
  intro hw
  have : ∀ m j (hj : j < o.length), j ≤ m → o[j] = i → False := by
    intro m
    induction m with
    | zero =>
      intro j hj hm e
      obtain rfl : j = 0 := by omega
      have := key t i 0 hj e i hw
      simp at this
    | succ m ih =>
      intro j hj hm e
      have h1 := key t i j hj e i hw
      obtain ⟨q, hq, e'⟩ := List.getElem_of_mem h1
      rw [List.getElem_take] at e'
      exact ih q (by simp at hq; omega) (by simp at hq; omega) e'
  obtain ⟨j, hj, e⟩ := List.getElem_of_mem hi
  exact this j j hj (Nat.le_refl _) e

/-- Where there is no order, there is a round. -/
theorem orderF_none {l : List Ru} {some : Nat → Bool} (hs : ∀ i, some i = true) : ∀ {f : Nat} {o : List Nat}, orderF l some f o = none → o.Nodup → (∀ i ∈ o, i < l.length) → l.length < f + o.length → ∃ i t, Walk l i i (t + 1)
  | 0, o, _, hd, hb, hf => by have := len_le hd hb; omega
  | f + 1, o, h, hd, hb, hf => by
    unfold orderF at h
    split at h
    · rename_i hl
      split at h
      · rename_i hi
        simp only [leftTo, List.any_eq_true, Bool.and_eq_true, Bool.not_eq_true'] at hl
        obtain ⟨i, hil, _, hio⟩ := hl
        have hnext : ∀ i, i < l.length ∧ i ∉ o → ∃ k, (k < l.length ∧ k ∉ o) ∧ needs l i k = true := by
          rintro i ⟨hil, hio⟩
          have h0 := List.find?_eq_none.1 hi i (List.mem_range.2 hil)
          simp only [may, hs, Bool.true_and, Bool.and_eq_true, isIn, Bool.not_eq_true', decide_eq_false_iff_not, hio, not_false_eq_true, true_and, freeTo, List.all_eq_true, Bool.or_eq_true] at h0
          simp only [Classical.not_forall] at h0
          obtain ⟨k, hk, hk2⟩ := h0
          simp only [not_or, decide_eq_true_eq] at hk2
          exact ⟨k, ⟨List.mem_range.1 hk, hk2.1⟩, by simpa using hk2.2⟩
        have hg : ∃ g : Nat → Nat, g 0 = i ∧ ∀ a, (g a < l.length ∧ g a ∉ o) ∧ needs l (g a) (g (a + 1)) = true := by
          let nx : {i // i < l.length ∧ i ∉ o} → {i // i < l.length ∧ i ∉ o} := fun x => ⟨Classical.choose (hnext x.1 x.2), (Classical.choose_spec (hnext x.1 x.2)).1⟩
          let st : {i // i < l.length ∧ i ∉ o} := ⟨i, List.mem_range.1 hil, by simpa [isIn] using hio⟩
          refine ⟨fun a => (Nat.rec st (fun _ x => nx x) a : {i // i < l.length ∧ i ∉ o}).1, rfl, fun a => ⟨(Nat.rec st (fun _ x => nx x) a : {i // i < l.length ∧ i ∉ o}).2, ?_⟩⟩
          exact (Classical.choose_spec (hnext _ (Nat.rec st (fun _ x => nx x) a : {i // i < l.length ∧ i ∉ o}).2)).2
        obtain ⟨g, _, hgn⟩ := hg
        obtain ⟨a, b, hab, _, e⟩ := pigeon (n := l.length) (g := g) fun t _ => (hgn t).1.1
        have sub : ∀ (d a : Nat), Walk l (g a) (g (a + d)) d := by
          intro d
          induction d with
          | zero => intro a; exact .zero _
          | succ d ih =>
            intro a
            have := ih (a + 1)
            rw [show a + 1 + d = a + (d + 1) by omega] at this
            exact .step (hgn a).2 this
        have := sub (b - a) a
        rw [show a + (b - a) = b by omega, ← e] at this
        exact ⟨g a, b - a - 1, by rw [show b - a - 1 + 1 = b - a by omega]; exact this⟩
      · rename_i i hi
        obtain ⟨hil, hm⟩ := nextTo_some hi
        have hio : i ∉ o := by
          simp only [may, Bool.and_eq_true, Bool.not_eq_true', isIn, decide_eq_false_iff_not] at hm
          exact hm.1.2
        refine orderF_none hs h ?_ ?_ ?_
        · rw [List.nodup_append]
          exact ⟨hd, by simp, fun a ha b hb => by
            rw [List.mem_singleton.1 hb]
            rintro rfl
            exact hio ha⟩
        · intro j hj
          rcases List.mem_append.1 hj with h1 | h1
          · exact hb j h1
          · rw [List.mem_singleton.1 h1]; exact hil
        · rw [List.length_append, List.length_singleton]; omega
    · cases h
theorem order_none {l : List Ru} {some : Nat → Bool} (hs : ∀ i, some i = true) (h : order l some = none) : ∃ i t, Walk l i i (t + 1) :=
  orderF_none hs h List.nodup_nil (by simp) (by simp)
end Ru
end Go.Proofs.YtmeplgihnlpjcaaGreatDoor
/- Ways to one rule, looked for from it on; the round that they make: as data. -/
namespace Go.Proofs.YtmeplgihnlpjcaaGreatDoor
open Go.RowKit Go.Shelf Go.Lib

namespace Ru
/-- The least number of steps to a rule, from 0 on. -/
def Steps (l : List Ru) (e i t : Nat) : Prop := Walk l i e t ∧ ∀ s, Walk l i e s → t ≤ s
theorem Walk.same {l : List Ru} {i k : Nat} (h : Walk l i k 0) : i = k := by cases h; rfl
theorem Steps.dist {l : List Ru} {e i t : Nat} (h : Steps l e i t) (hne : i ≠ e) : Dist l i e t := by
  refine ⟨?_, h.1, fun s _ hs => h.2 s hs⟩
  cases t with
  | zero => exact absurd h.1.same hne
  | succ t => omega
theorem Dist.steps {l : List Ru} {e i t : Nat} (h : Dist l i e t) (hne : i ≠ e) : Steps l e i t := by
  refine ⟨h.2.1, fun s hs => ?_⟩
  cases s with
  | zero => exact absurd hs.same hne
  | succ s => exact h.2.2 _ (by omega) hs
theorem Steps.unique {l : List Ru} {e i s t : Nat} (h : Steps l e i s) (h' : Steps l e i t) : s = t := Nat.le_antisymm (h.2 t h'.1) (h'.2 s h.1)

/-- What has been come to (s), how far each is (d); a: those whose own are known; i: of the one at a, the rules that were looked at. -/
structure Bfs (l : List Ru) (e : Nat) (d : Nat → Nat) (s : List Nat) (a i : Nat) : Prop where
  top : s[0]? = some e
  lt : ∀ k ∈ s, k < l.length
  once : s.Nodup
  steps : ∀ k ∈ s, Steps l e k (d k)
  rises : ∀ p q x y : Nat, p ≤ q → s[p]? = some x → s[q]? = some y → d x ≤ d y
  near : ∀ x y : Nat, s[a]? = some x → y ∈ s → d y ≤ d x + 1
  past : ∀ p x : Nat, p < a → s[p]? = some x → ∀ k, needs l k x = true → k ∈ s
  now : ∀ x : Nat, s[a]? = some x → ∀ k, k < i → needs l k x = true → k ∈ s
  low : ∀ x : Nat, s[a]? = some x → ∀ k t, Walk l k e t → t < d x → k ∈ s.take a
theorem Bfs.first {l : List Ru} {e : Nat} (he : e < l.length) : Bfs l e (fun _ => 0) [e] 0 0 := by
  refine ⟨rfl, by simpa using he, by simp, ?_, fun _ _ _ _ _ _ _ => Nat.le_refl _, fun _ _ _ _ => Nat.zero_le _, fun p _ h => absurd h (Nat.not_lt_zero p), fun _ _ k h => absurd h (Nat.not_lt_zero k), fun _ _ _ t _ h => absurd h (Nat.not_lt_zero t)⟩
  intro k hk
  rw [List.mem_singleton.1 hk]
  exact ⟨.zero e, fun _ _ => Nat.zero_le _⟩
theorem Bfs.end_mem {l : List Ru} {e : Nat} {d : Nat → Nat} {s : List Nat} {a i : Nat} (h : Bfs l e d s a i) : e ∈ s := List.mem_of_getElem? h.top
theorem Bfs.skip {l : List Ru} {e : Nat} {d : Nat → Nat} {s : List Nat} {a i : Nat} (h : Bfs l e d s a i) (hs : i ∈ s ∨ ∀ x, s[a]? = some x → needs l i x = false) : Bfs l e d s a (i + 1) := by
  refine ⟨h.top, h.lt, h.once, h.steps, h.rises, h.near, h.past, fun x hx k hk hn => ?_, h.low⟩
  by_cases e : k = i
  · subst e
    rcases hs with hs | hs
    · exact hs
    · rw [hs x hx] at hn
      cases hn
  · exact h.now x hx k (by omega) hn
theorem Bfs.add {l : List Ru} {e : Nat} {d : Nat → Nat} {s : List Nat} {a i x : Nat} (h : Bfs l e d s a i) (hi : i < l.length) (hx : s[a]? = some x) (his : i ∉ s) (hn : needs l i x = true) : Bfs l e (fun k => if k = i then d x + 1 else d k) (s ++ [i]) a (i + 1) := by
  have hal : a < s.length := (List.getElem?_eq_some_iff.1 hx).1
  have hxs : x ∈ s := List.mem_of_getElem? hx
  have hd : ∀ k, k ∈ s → (if k = i then d x + 1 else d k) = d k := fun k hk => if_neg fun (e : k = i) => his (e ▸ hk)
  have hg : ∀ p, p < s.length → (s ++ [i])[p]? = s[p]? := fun p hp => List.getElem?_append_left hp
  have hgl : ∀ p y, (s ++ [i])[p]? = some y → (p < s.length ∧ s[p]? = some y) ∨ (p = s.length ∧ y = i) := by
    intro p y hp
    rcases Nat.lt_or_ge p s.length with h1 | h1
    · left
      exact ⟨h1, by rw [← hg p h1]; exact hp⟩
    · right
      have h2 := (List.getElem?_eq_some_iff.1 hp).1
      simp at h2
      obtain rfl : p = s.length := by omega
      simp at hp
      exact ⟨rfl, hp.symm⟩
  have hpos : 0 < s.length := by omega
  refine ⟨by rw [hg 0 hpos]; exact h.top, ?_, ?_, ?_, ?_, ?_, ?_, ?_, ?_⟩
  · intro k hk
    rcases List.mem_append.1 hk with h1 | h1
    · exact h.lt k h1
    · rw [List.mem_singleton.1 h1]; exact hi
  · rw [List.nodup_append]
    exact ⟨h.once, by simp, fun a ha b hb => by
      rw [List.mem_singleton.1 hb]
      rintro rfl
      exact his ha⟩
  · intro k hk
    show Steps l e k (if k = i then d x + 1 else d k)
    rcases List.mem_append.1 hk with h1 | h1
    · rw [hd k h1]
      exact h.steps k h1
    · rw [List.mem_singleton.1 h1, if_pos rfl]
      refine ⟨.step hn (h.steps x hxs).1, fun t ht => ?_⟩
      cases t with
      | zero => exact absurd (ht.same ▸ h.end_mem) his
      | succ t =>
        obtain ⟨j, hj, hw⟩ := ht.inv
        refine Nat.le_of_not_lt fun hlt => ?_
        have hjs := h.low x hx j t hw (by omega)
        obtain ⟨p, hp, ep⟩ := List.getElem_of_mem hjs
        rw [List.getElem_take] at ep
        have hpa : p < a ∧ p < s.length := by simp at hp; omega
        exact his (h.past p j hpa.1 (by rw [List.getElem?_eq_getElem hpa.2, ep]) i hj)
  · intro p q y z hpq hy hz
    show (if y = i then d x + 1 else d y) ≤ (if z = i then d x + 1 else d z)
    rcases hgl p y hy with ⟨h1, h2⟩ | ⟨h1, h2⟩
    · rw [hd y (List.mem_of_getElem? h2)]
      rcases hgl q z hz with ⟨h3, h4⟩ | ⟨h3, h4⟩
      · rw [hd z (List.mem_of_getElem? h4)]
        exact h.rises p q y z hpq h2 h4
      · rw [if_pos h4]
        exact h.near x y hx (List.mem_of_getElem? h2)
    · rcases hgl q z hz with ⟨h3, h4⟩ | ⟨h3, h4⟩
      · omega
      · rw [h2, h4]; exact Nat.le_refl _
  · intro y z hy hz
    show (if z = i then d x + 1 else d z) ≤ (if y = i then d x + 1 else d y) + 1
    rw [hg a hal] at hy
    rw [hd y (List.mem_of_getElem? hy)]
    have : y = x := Option.some.inj (hy.symm.trans hx)
    subst this
    rcases List.mem_append.1 hz with h1 | h1
    · rw [hd z h1]
      exact h.near y z hy h1
    · rw [List.mem_singleton.1 h1, if_pos rfl]
      exact Nat.le_refl _
  · intro p y hp hy k hk
    rw [hg p (by omega)] at hy
    exact List.mem_append_left _ (h.past p y hp hy k hk)
  · intro y hy k hk hkn
    rw [hg a hal] at hy
    by_cases e : k = i
    · subst e
      exact List.mem_append_right _ (List.mem_singleton.2 rfl)
    · exact List.mem_append_left _ (h.now y hy k (by omega) hkn)
  · intro y hy k t hw ht
    rw [hg a hal] at hy
    rw [hd y (List.mem_of_getElem? hy)] at ht
    rw [List.take_append_of_le_length (Nat.le_of_lt hal)]
    exact h.low y hy k t hw ht
theorem Bfs.next {l : List Ru} {e : Nat} {d : Nat → Nat} {s : List Nat} {a : Nat} (h : Bfs l e d s a l.length) (ha : a < s.length) : Bfs l e d s (a + 1) 0 := by
  have hx := List.getElem?_eq_getElem ha
  generalize s[a] = x at hx
  have hxs : x ∈ s := List.mem_of_getElem? hx
  refine ⟨h.top, h.lt, h.once, h.steps, h.rises, ?_, ?_, fun _ _ k hk => absurd hk (Nat.not_lt_zero k), ?_⟩
  · intro y z hy hz
    have h1 := h.near x z hx hz
    have h2 := h.rises a (a + 1) x y (by omega) hx hy
    omega
  · intro p y hp hy k hk
    by_cases e : p = a
    · subst e
      exact h.now y hy k (needs_lt hk).1 hk
    · exact h.past p y (by omega) hy k hk
  · intro y hy k t hw ht
    have h1 := h.near x y hx (List.mem_of_getElem? hy)
    by_cases hlt : t < d x
    · exact (List.take_sublist_take_left (Nat.le_succ a)).subset (h.low x hx k t hw hlt)
    · have htx : t = d x := by omega
      cases t with
      | zero =>
        rw [hw.same]
        obtain ⟨h0, e0⟩ := List.getElem?_eq_some_iff.1 h.top
        rw [← e0]
        exact List.mem_take_iff_getElem.2 ⟨0, by omega, rfl⟩
      | succ t =>
        obtain ⟨j, hj, hw'⟩ := hw.inv
        have hjs := h.low x hx j t hw' (by omega)
        obtain ⟨p, hp, ep⟩ := List.getElem_of_mem hjs
        rw [List.getElem_take] at ep
        have hpa : p < a ∧ p < s.length := by simp at hp; omega
        have hks := h.past p j hpa.1 (by rw [List.getElem?_eq_getElem hpa.2, ep]) k hj
        have hdk := (h.steps k hks).2 _ hw
        obtain ⟨q, hq, eq⟩ := List.getElem_of_mem hks
        have hqa : q < a + 1 := by
          refine Nat.lt_of_not_le fun hge => ?_
          have := h.rises (a + 1) q y k hge hy (by rw [List.getElem?_eq_getElem hq, eq])
          omega
        rw [← eq]
        exact List.mem_take_iff_getElem.2 ⟨q, by omega, rfl⟩

/-- All that lead to a rule, and how far they are. -/
structure Leads (l : List Ru) (e : Nat) (s : List Nat) (d : Nat → Nat) : Prop where
  steps : ∀ k ∈ s, Steps l e k (d k)
  all : ∀ k t, Walk l k e t → k ∈ s
  lt : ∀ k ∈ s, k < l.length
theorem Bfs.done {l : List Ru} {e : Nat} {d : Nat → Nat} {s : List Nat} {a i : Nat} (h : Bfs l e d s a i) (ha : s.length ≤ a) : Leads l e s d := by
  refine ⟨h.steps, ?_, h.lt⟩
  intro k t
  induction t generalizing k with
  | zero => intro hw; rw [hw.same]; exact h.end_mem
  | succ t ih =>
    intro hw
    obtain ⟨j, hj, hw'⟩ := hw.inv
    obtain ⟨p, hp, ep⟩ := List.getElem_of_mem (ih j hw')
    exact h.past p j (by omega) (by rw [List.getElem?_eq_getElem hp, ep]) k hj

/-- Of those that a rule needs and that lead to the end: the nearest one, of several the least. -/
def Next (l : List Ru) (s : List Nat) (d : Nat → Nat) (x y : Nat) : Prop :=
  needs l x y = true ∧ y ∈ s ∧ ∀ z, needs l x z = true → z ∈ s → d y < d z ∨ (d y = d z ∧ y ≤ z)
theorem Leads.down {l : List Ru} {e : Nat} {s : List Nat} {d : Nat → Nat} (h : Leads l e s d) {x y : Nat} (hx : x ∈ s) (hne : x ≠ e) (hn : Next l s d x y) : d x = d y + 1 := by
  have hs := h.steps x hx
  refine Nat.le_antisymm (hs.2 _ (.step hn.1 (h.steps y hn.2.1).1)) ?_
  have hw := hs.1
  generalize hd : d x = t at hw
  cases t with
  | zero => exact absurd hw.same hne
  | succ t =>
    obtain ⟨z, hz, hw'⟩ := hw.inv
    have hzs := h.all z t hw'
    have h1 := (h.steps z hzs).2 t hw'
    rcases hn.2.2 z hz hzs with h2 | ⟨h2, _⟩ <;> omega
theorem Leads.some {l : List Ru} {e : Nat} {s : List Nat} {d : Nat → Nat} (h : Leads l e s d) {x : Nat} (hx : x ∈ s) (hne : x ≠ e) : ∃ z, needs l x z = true ∧ z ∈ s := by
  have hw := (h.steps x hx).1
  generalize d x = t at hw
  cases t with
  | zero => exact absurd hw.same hne
  | succ t =>
    obtain ⟨z, hz, hw'⟩ := hw.inv
    exact ⟨z, hz, h.all z t hw'⟩
theorem Leads.none {l : List Ru} {e : Nat} {s : List Nat} {d : Nat → Nat} (h : Leads l e s d) (hno : ∀ z, needs l e z = true → z ∉ s) (t : Nat) : ¬ Walk l e e (t + 1) := by
  intro hw
  obtain ⟨z, hz, hw'⟩ := hw.inv
  exact hno z hz (h.all z t hw')

/-- A way from the end on, each step to the nearest. -/
structure Trail (l : List Ru) (e : Nat) (s : List Nat) (d : Nat → Nat) (c : List Nat) : Prop where
  top : c[0]? = Option.some e
  step : ∀ j x y : Nat, c[j]? = Option.some x → c[j + 1]? = Option.some y → Next l s d x y ∧ y ≠ e
theorem Trail.first (l : List Ru) (e : Nat) (s : List Nat) (d : Nat → Nat) : Trail l e s d [e] := ⟨rfl, fun j x y _ h => by simp at h⟩
theorem Trail.more {l : List Ru} {e : Nat} {s : List Nat} {d : Nat → Nat} {c : List Nat} {x y : Nat} (h : Trail l e s d (c ++ [x])) (hn : Next l s d x y) (hne : y ≠ e) : Trail l e s d (c ++ [x] ++ [y]) := by
  refine ⟨by rw [List.getElem?_append_left (by simp)]; exact h.top, fun j u v hu hv => ?_⟩
  rcases Nat.lt_or_ge (j + 1) (c ++ [x]).length with h1 | h1
  · rw [List.getElem?_append_left (by omega)] at hu
    rw [List.getElem?_append_left h1] at hv
    exact h.step j u v hu hv
  · have h2 := (List.getElem?_eq_some_iff.1 hv).1
    simp at h1 h2
    obtain rfl : j = c.length := by omega
    rw [List.getElem?_append_left (by simp), List.getElem?_append_right (Nat.le_refl _)] at hu
    rw [List.getElem?_append_right (by simp)] at hv
    simp at hu hv
    subst hu hv
    exact ⟨hn, hne⟩
/-- The one behind the first is as far as the way goes on. -/
theorem Trail.dist {l : List Ru} {e : Nat} {s : List Nat} {d : Nat → Nat} {c : List Nat} (hF : Leads l e s d) (h : Trail l e s d c) {y1 : Nat} (h1 : c[1]? = Option.some y1) : ∀ j y, c[j + 1]? = Option.some y → d y + j = d y1
  | 0, y, hy => by
    rw [Option.some.inj (hy.symm.trans h1)]
    rfl
  | j + 1, y, hy => by
    have hj : j + 1 < c.length := by have := (List.getElem?_eq_some_iff.1 hy).1; omega
    have hx := List.getElem?_eq_getElem hj
    generalize c[j + 1] = x at hx
    have ih := Trail.dist hF h h1 j x hx
    have hj0 : j < c.length := by omega
    have h0 := h.step j _ x (List.getElem?_eq_getElem hj0) hx
    have h2 := h.step (j + 1) x y hx hy
    have := hF.down h0.1.2.1 h0.2 h2.1
    omega
theorem Trail.cycle {l : List Ru} {e : Nat} {s : List Nat} {d : Nat → Nat} {c : List Nat} {x : Nat} (hF : Leads l e s d) (h : Trail l e s d (c ++ [x])) (hn : Next l s d x e) (hleast : ∀ j t, j < e → ¬ Walk l j j (t + 1)) : IsCycle l (c ++ [x]) := by
  have hd0 : d e = 0 := by
    have := (hF.steps e hn.2.1).2 0 (.zero e)
    omega
  have hlast : (c ++ [x])[c.length]? = Option.some x := by simp
  have hlen : (c ++ [x]).length = c.length + 1 := by simp
  generalize hc : c ++ [x] = r at *
  have hm : ∀ j y, r[j + 1]? = Option.some y → d y = r.length - 1 - j ∧ y ≠ e := by
    intro j y hy
    have hj : j + 1 < r.length := (List.getElem?_eq_some_iff.1 hy).1
    obtain ⟨m, hm⟩ : ∃ m, c.length = m + 1 := ⟨c.length - 1, by omega⟩
    have h1 := List.getElem?_eq_getElem (l := r) (i := 1) (by omega)
    generalize r[1] = y1 at h1
    rw [hm] at hlast
    have e1 := Trail.dist hF h h1 m x hlast
    have e2 := Trail.dist hF h h1 j y hy
    have hx := h.step m _ x (List.getElem?_eq_getElem (by omega)) hlast
    have e3 := hF.down hx.1.2.1 hx.2 hn
    exact ⟨by omega, (h.step j _ y (List.getElem?_eq_getElem (by omega)) hy).2⟩
  have htop : r[0]'(by omega) = e := by
    obtain ⟨h0, e0⟩ := List.getElem?_eq_some_iff.1 h.top
    exact e0
  refine ⟨fun e => by rw [e] at hlen; simp at hlen, fun h0 => ?_, fun j hj => ?_⟩
  · rw [htop]
    refine ⟨hleast, by omega, ?_, ?_⟩
    · by_cases hc0 : c.length = 0
      · rw [hc0, h.top] at hlast
        cases hlast
        rw [hlen, hc0]
        exact Walk.one hn.1
      · have h1 := List.getElem?_eq_getElem (l := r) (i := 1) (by omega)
        generalize r[1] = y1 at h1
        have hs := h.step 0 e y1 h.top h1
        have := (hF.steps y1 hs.1.2.1).1
        rw [(hm 0 y1 h1).1] at this
        have hw := Walk.step hs.1.1 this
        rw [show r.length - 1 - 0 + 1 = r.length by omega] at hw
        exact hw
    · intro t ht hw
      cases t with
      | zero => omega
      | succ t =>
        obtain ⟨z, hz, hw'⟩ := hw.inv
        have hzs := hF.all z t hw'
        have hdz := (hF.steps z hzs).2 t hw'
        by_cases hc0 : c.length = 0
        · omega
        · have h1 := List.getElem?_eq_getElem (l := r) (i := 1) (by omega)
          generalize r[1] = y1 at h1
          have hs := h.step 0 e y1 h.top h1
          have e1 := (hm 0 y1 h1).1
          rcases hs.1.2.2 z hz hzs with h2 | ⟨h2, _⟩ <;> omega
  · have hx := List.getElem?_eq_getElem (l := r) (i := j) (by omega)
    have hy := List.getElem?_eq_getElem hj
    have hs := h.step j _ _ hx hy
    obtain ⟨e1, e2⟩ := hm j _ hy
    rw [htop, ← e1]
    refine ⟨hs.1.1, (hF.steps _ hs.1.2.1).dist e2, ?_⟩
    rintro k hk ⟨hk1, hk2⟩
    have hks := hF.all k _ hk2.2.1
    by_cases hke : k = e
    · subst hke
      rcases hs.1.2.2 k hk1 hks with h2 | ⟨h2, h3⟩
      · omega
      · omega
    · have := (hF.steps k hks).unique (hk2.steps hke)
      rcases hs.1.2.2 k hk1 hks with h2 | ⟨h2, h3⟩ <;> omega

/-- A rising list of numbers, each once: those of the first n that are in it. -/
theorem sorted_filter {n : Nat} {r : List Nat} (hs : r.Pairwise (fun a b => a ≤ b)) (hd : r.Nodup) (hlt : ∀ k ∈ r, k < n) (f : Nat → Bool) (hf : ∀ k, k < n → (f k = true ↔ k ∈ r)) : r = (List.range n).filter f := by
  have hp : r.Perm ((List.range n).filter f) := (List.perm_ext_iff_of_nodup hd (List.Pairwise.filter _ List.nodup_range)).2 fun k => by
    rw [List.mem_filter, List.mem_range]
    constructor
    · intro hk
      exact ⟨hlt k hk, (hf k (hlt k hk)).2 hk⟩
    · rintro ⟨h1, h2⟩
      exact (hf k h1).1 h2
  refine List.Perm.eq_of_pairwise (le := fun a b : Nat => a ≤ b) ?_ hs (List.Pairwise.filter _ (List.pairwise_lt_range.imp Nat.le_of_lt)) hp
  intro a b _ _ h1 h2
  exact Nat.le_antisymm h1 h2
end Ru
end Go.Proofs.YtmeplgihnlpjcaaGreatDoor
/- Package graph's Needs: as data. -/
namespace Go.Proofs.YtmeplgihnlpjcaaGreatDoor
open Go.RowKit Go.Shelf Go.Lib

namespace Ru
/-- The makers of the first j outs. -/
structure NeedA (l : List Ru) (outs : List (List UInt8)) (j : Nat) (r : List Nat) : Prop where
  once : r.Nodup
  lt : ∀ k ∈ r, k < l.length
  mem : ∀ k (hk : k < l.length), k ∈ r ↔ l[k].out ∈ outs.take j
  made : ∀ i (hi : i < outs.length), i < j → ∃ x ∈ l, x.out = outs[i]
theorem NeedA.first (l : List Ru) (outs : List (List UInt8)) : NeedA l outs 0 [] := ⟨List.nodup_nil, by simp, by simp, fun _ _ h => absurd h (Nat.not_lt_zero _)⟩
theorem NeedA.more {l : List Ru} (hA : Apart l) {outs : List (List UInt8)} {j k : Nat} {r : List Nat} (h : NeedA l outs j r) (hj : j < outs.length) (hm : mkr l outs[j] = some k) : NeedA l outs (j + 1) (withN r k) := by
  obtain ⟨hk, h1, _⟩ := mkr_some hm
  refine ⟨withN_once h.once k, fun x hx => ?_, fun x hx => ?_, fun i hi hij => ?_⟩
  · rcases (withN_mem r k x).1 hx with h2 | rfl
    · exact h.lt x h2
    · exact hk
  · rw [withN_mem, h.mem x hx, List.take_succ_eq_append_getElem hj, List.mem_append, List.mem_singleton, ← h1]
    constructor
    · rintro (h2 | rfl)
      · exact .inl h2
      · exact .inr rfl
    · rintro (h2 | h2)
      · exact .inl h2
      · exact .inr (hA x k hx hk h2)
  · by_cases e : i = j
    · subst e
      exact ⟨l[k], List.getElem_mem hk, h1⟩
    · exact h.made i hi (by omega)

/-- Those that are needed, as far as they are come to; a: whose own needs are in; m: of the one at a, how many. -/
structure NeedB (l : List Ru) (outs : List (List UInt8)) (r : List Nat) (a m : Nat) : Prop where
  once : r.Nodup
  lt : ∀ k ∈ r, k < l.length
  start : ∀ k, base l outs k = true → k ∈ r
  sound : ∀ P : Nat → Prop, (∀ k, base l outs k = true → P k) → (∀ i k, P i → needs l i k = true → P k) → ∀ k ∈ r, P k
  past : ∀ (p x : Nat) (hx : x < l.length), p < a → r[p]? = some x → ∀ k ∈ needL l l[x].ins, k ∈ r
  now : ∀ (x : Nat) (hx : x < l.length), r[a]? = some x → ∀ k ∈ (needL l l[x].ins).take m, k ∈ r
theorem NeedA.done {l : List Ru} {outs : List (List UInt8)} {r : List Nat} (h : NeedA l outs outs.length r) : NeedB l outs r 0 0 := by
  have hb : ∀ k, base l outs k = true ↔ k ∈ r := fun k => by
    constructor
    · intro hk
      have hkl := base_lt hk
      rw [base_eq hkl] at hk
      rw [h.mem k hkl, List.take_length]
      simpa using hk
    · intro hk
      have hkl := h.lt k hk
      rw [base_eq hkl]
      have := (h.mem k hkl).1 hk
      rw [List.take_length] at this
      simpa using this
  exact ⟨h.once, h.lt, fun k hk => (hb k).1 hk, fun P h1 _ k hk => h1 k ((hb k).2 hk), fun p _ _ hp => absurd hp (Nat.not_lt_zero p), fun _ _ _ k hk => by simp at hk⟩
theorem withN_get {r : List Nat} {k p : Nat} (hp : p < r.length) : (withN r k)[p]? = r[p]? := by
  unfold withN
  split
  · rfl
  · exact List.getElem?_append_left hp
theorem NeedB.more {l : List Ru} (hA : Apart l) {outs : List (List UInt8)} {r : List Nat} {a m x : Nat} (h : NeedB l outs r a m) (hx : r[a]? = some x) (hxl : x < l.length) (hm : m < (needL l l[x].ins).length) : NeedB l outs (withN r (needL l l[x].ins)[m]) a (m + 1) := by
  have hal : a < r.length := (List.getElem?_eq_some_iff.1 hx).1
  have hkm : (needL l l[x].ins)[m] ∈ needL l l[x].ins := List.getElem_mem hm
  have hkn := (needL_mem hA hxl _).1 hkm
  generalize hk : (needL l l[x].ins)[m] = k at *
  refine ⟨withN_once h.once k, fun y hy => ?_, fun y hy => (withN_mem r k y).2 (.inl (h.start y hy)), fun P h1 h2 y hy => ?_, fun p y hyl hp hy z hz => ?_, fun y hyl hy z hz => ?_⟩
  · rcases (withN_mem r k y).1 hy with h2 | rfl
    · exact h.lt y h2
    · exact (needs_lt hkn).2
  · rcases (withN_mem r k y).1 hy with h3 | rfl
    · exact h.sound P h1 h2 y h3
    · exact h2 x y (h.sound P h1 h2 x (List.mem_of_getElem? hx)) hkn
  · rw [withN_get (by omega)] at hy
    exact (withN_mem r k z).2 (.inl (h.past p y hyl hp hy z hz))
  · rw [withN_get hal, hx] at hy
    cases hy
    rw [List.take_succ_eq_append_getElem hm, List.mem_append, List.mem_singleton, hk] at hz
    rcases hz with hz | rfl
    · exact (withN_mem r k z).2 (.inl (h.now x hxl hx z hz))
    · exact (withN_mem r z z).2 (.inr rfl)
theorem NeedB.next {l : List Ru} {outs : List (List UInt8)} {r : List Nat} {a m x : Nat} (h : NeedB l outs r a m) (hx : r[a]? = some x) (hxl : x < l.length) (hm : (needL l l[x].ins).length ≤ m) : NeedB l outs r (a + 1) 0 := by
  refine ⟨h.once, h.lt, h.start, h.sound, fun p y hyl hp hy k hk => ?_, fun _ _ _ k hk => by simp at hk⟩
  by_cases e : p = a
  · subst e
    rw [hx] at hy
    cases hy
    exact h.now x hxl hx k (by rwa [List.take_of_length_le hm])
  · exact h.past p y hyl (by omega) hy k hk
theorem NeedB.done {l : List Ru} (hA : Apart l) {outs : List (List UInt8)} {r : List Nat} {a m : Nat} (h : NeedB l outs r a m) (ha : r.length ≤ a) : Needed l outs (isIn r) := by
  refine ⟨fun k hk => by simpa [isIn] using h.start k hk, fun i k hi hn => ?_, fun P h1 h2 k _ hk => h.sound P h1 h2 k (by simpa [isIn] using hk)⟩
  have hir : i ∈ r := by simpa [isIn] using hi
  obtain ⟨p, hp, e⟩ := List.getElem_of_mem hir
  have hil := h.lt i hir
  have := h.past p i hil (by omega) (by rw [List.getElem?_eq_getElem hp, e]) k ((needL_mem hA hil k).2 hn)
  simpa [isIn] using this
theorem NeedB.len {l : List Ru} {outs : List (List UInt8)} {r : List Nat} {a m : Nat} (h : NeedB l outs r a m) : r.length ≤ l.length := len_le h.once h.lt
theorem NeedA.len {l : List Ru} {outs : List (List UInt8)} {r : List Nat} {j : Nat} (h : NeedA l outs j r) : r.length ≤ l.length := len_le h.once h.lt
end Ru
end Go.Proofs.YtmeplgihnlpjcaaGreatDoor
