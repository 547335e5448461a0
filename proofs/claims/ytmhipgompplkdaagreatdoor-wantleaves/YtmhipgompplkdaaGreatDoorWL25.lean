import Derived.Test.YtmhipgompplkdaaGreatDoorWL20
import Derived.Test.YtmhipgompplkdaaGreatDoorWL23
import Derived.Test.YtmhipgompplkdaaGreatDoorWL24
namespace Go.Proofs.YtmhipgompplkdaaGreatDoor
open Go.RowKit Go.Shelf Go.Lib
namespace Ru
def Steps (l : List Ru) (e i t : Nat) : Prop := Walk l i e t ∧ ∀ s, Walk l i e s → t ≤ s
theorem Walk.same {l : List Ru} {i k : Nat} (h : Walk l i k 0) : i = k := by cases h; rfl
theorem Dist.steps {l : List Ru} {e i t : Nat} (h : Dist l i e t) (hne : i ≠ e) : Steps l e i t := by
  refine ⟨h.2.1, fun s hs => ?_⟩
  cases s with
  | zero => exact absurd hs.same hne
  | succ s => exact h.2.2 _ (by omega) hs
theorem Steps.unique {l : List Ru} {e i s t : Nat} (h : Steps l e i s) (h' : Steps l e i t) : s = t := Nat.le_antisymm (h.2 t h'.1) (h'.2 s h.1)
structure Bfs (l : List Ru) (e : Nat) (d : Nat → Nat) (s : List Nat) (a i : Nat) : Prop where
  top : s[0]? = some e
  lt : ∀ k ∈ s, k < l.length
  once : s.Nodup
  steps : ∀ k ∈ s, Steps l e k (d k)
  rises : ∀ p q x y : Nat, p ≤ q → s[p]? = some x → s[q]? = some y → d x ≤ d y
  near : ∀ x y : Nat, s[a]? = some x → y ∈ s → d y ≤ d x + 1
  past : ∀ p x : Nat, p < a → s[p]? = some x → ∀ k, needs l k x = true → k ∈ s
  now : ∀ x : Nat, s[a]? = some x → ∀ k, k < i → needs l k x = true → k ∈ s
  low : ∀ x : Nat, s[a]? = some x → ∀ k t, Walk l k e t → t < d x → k ∈ s.take a
theorem Bfs.first {l : List Ru} {e : Nat} (he : e < l.length) : Bfs l e (fun _ => 0) [e] 0 0 := by
  refine ⟨rfl, by simpa using he, by simp, ?_, fun _ _ _ _ _ _ _ => Nat.le_refl _, fun _ _ _ _ => Nat.zero_le _, fun p _ h => absurd h (Nat.not_lt_zero p), fun _ _ k h => absurd h (Nat.not_lt_zero k), fun _ _ _ t _ h => absurd h (Nat.not_lt_zero t)⟩
  intro k hk
  rw [List.mem_singleton.1 hk]
  exact ⟨.zero e, fun _ _ => Nat.zero_le _⟩
theorem Bfs.end_mem {l : List Ru} {e : Nat} {d : Nat → Nat} {s : List Nat} {a i : Nat} (h : Bfs l e d s a i) : e ∈ s := List.mem_of_getElem? h.top
theorem Bfs.add {l : List Ru} {e : Nat} {d : Nat → Nat} {s : List Nat} {a i x : Nat} (h : Bfs l e d s a i) (hi : i < l.length) (hx : s[a]? = some x) (his : i ∉ s) (hn : needs l i x = true) : Bfs l e (fun k => if k = i then d x + 1 else d k) (s ++ [i]) a (i + 1) := by
  have hal : a < s.length := (List.getElem?_eq_some_iff.1 hx).1
  have hxs : x ∈ s := List.mem_of_getElem? hx
  have hd : ∀ k, k ∈ s → (if k = i then d x + 1 else d k) = d k := fun k hk => if_neg fun (e : k = i) => his (e ▸ hk)
  have hg : ∀ p, p < s.length → (s ++ [i])[p]? = s[p]? := fun p hp => List.getElem?_append_left hp
  have hgl : ∀ p y, (s ++ [i])[p]? = some y → (p < s.length ∧ s[p]? = some y) ∨ (p = s.length ∧ y = i) := by
    intro p y hp
    rcases Nat.lt_or_ge p s.length with h1 | h1
    · left
      exact ⟨h1, by rw [← hg p h1]; exact hp⟩
    · right
      have h2 := (List.getElem?_eq_some_iff.1 hp).1
      simp at h2
      obtain rfl : p = s.length := by omega
      simp at hp
      exact ⟨rfl, hp.symm⟩
  have hpos : 0 < s.length := by omega
  refine ⟨by rw [hg 0 hpos]; exact h.top, ?_, ?_, ?_, ?_, ?_, ?_, ?_, ?_⟩
  · intro k hk
    rcases List.mem_append.1 hk with h1 | h1
    · exact h.lt k h1
    · rw [List.mem_singleton.1 h1]; exact hi
  · rw [List.nodup_append]
    exact ⟨h.once, by simp, fun a ha b hb => by
      rw [List.mem_singleton.1 hb]
      rintro rfl
      exact his ha⟩
  · intro k hk
    show Steps l e k (if k = i then d x + 1 else d k)
    rcases List.mem_append.1 hk with h1 | h1
    · rw [hd k h1]
      exact h.steps k h1
    · rw [List.mem_singleton.1 h1, if_pos rfl]
      refine ⟨.step hn (h.steps x hxs).1, fun t ht => ?_⟩
      cases t with
      | zero => exact absurd (ht.same ▸ h.end_mem) his
      | succ t =>
        obtain ⟨j, hj, hw⟩ := ht.inv
        refine Nat.le_of_not_lt fun hlt => ?_
        have hjs := h.low x hx j t hw (by omega)
        obtain ⟨p, hp, ep⟩ := List.getElem_of_mem hjs
        rw [List.getElem_take] at ep
        have hpa : p < a ∧ p < s.length := by simp at hp; omega
        exact his (h.past p j hpa.1 (by rw [List.getElem?_eq_getElem hpa.2, ep]) i hj)
  · intro p q y z hpq hy hz
    show (if y = i then d x + 1 else d y) ≤ (if z = i then d x + 1 else d z)
    rcases hgl p y hy with ⟨h1, h2⟩ | ⟨h1, h2⟩
    · rw [hd y (List.mem_of_getElem? h2)]
      rcases hgl q z hz with ⟨h3, h4⟩ | ⟨h3, h4⟩
      · rw [hd z (List.mem_of_getElem? h4)]
        exact h.rises p q y z hpq h2 h4
      · rw [if_pos h4]
        exact h.near x y hx (List.mem_of_getElem? h2)
    · rcases hgl q z hz with ⟨h3, h4⟩ | ⟨h3, h4⟩
      · omega
      · rw [h2, h4]; exact Nat.le_refl _
  · intro y z hy hz
    show (if z = i then d x + 1 else d z) ≤ (if y = i then d x + 1 else d y) + 1
    rw [hg a hal] at hy
    rw [hd y (List.mem_of_getElem? hy)]
    have : y = x := Option.some.inj (hy.symm.trans hx)
    subst this
    rcases List.mem_append.1 hz with h1 | h1
    · rw [hd z h1]
      exact h.near y z hy h1
    · rw [List.mem_singleton.1 h1, if_pos rfl]
      exact Nat.le_refl _
  · intro p y hp hy k hk
    rw [hg p (by omega)] at hy
    exact List.mem_append_left _ (h.past p y hp hy k hk)
  · intro y hy k hk hkn
    rw [hg a hal] at hy
    by_cases e : k = i
    · subst e
      exact List.mem_append_right _ (List.mem_singleton.2 rfl)
    · exact List.mem_append_left _ (h.now y hy k (by omega) hkn)
  · intro y hy k t hw ht
    rw [hg a hal] at hy
    rw [hd y (List.mem_of_getElem? hy)] at ht
    rw [List.take_append_of_le_length (Nat.le_of_lt hal)]
    exact h.low y hy k t hw ht
theorem Bfs.next {l : List Ru} {e : Nat} {d : Nat → Nat} {s : List Nat} {a : Nat} (h : Bfs l e d s a l.length) (ha : a < s.length) : Bfs l e d s (a + 1) 0 := by
  have hx := List.getElem?_eq_getElem ha
  generalize s[a] = x at hx
  have hxs : x ∈ s := List.mem_of_getElem? hx
  refine ⟨h.top, h.lt, h.once, h.steps, h.rises, ?_, ?_, fun _ _ k hk => absurd hk (Nat.not_lt_zero k), ?_⟩
  · intro y z hy hz
    have h1 := h.near x z hx hz
    have h2 := h.rises a (a + 1) x y (by omega) hx hy
    omega
  · intro p y hp hy k hk
    by_cases e : p = a
    · subst e
      exact h.now y hy k (needs_lt hk).1 hk
    · exact h.past p y (by omega) hy k hk
  · intro y hy k t hw ht
    have h1 := h.near x y hx (List.mem_of_getElem? hy)
    by_cases hlt : t < d x
    · exact (List.take_sublist_take_left (Nat.le_succ a)).subset (h.low x hx k t hw hlt)
    · have htx : t = d x := by omega
      cases t with
      | zero =>
        rw [hw.same]
        obtain ⟨h0, e0⟩ := List.getElem?_eq_some_iff.1 h.top
        rw [← e0]
        exact List.mem_take_iff_getElem.2 ⟨0, by omega, rfl⟩
      | succ t =>
        obtain ⟨j, hj, hw'⟩ := hw.inv
        have hjs := h.low x hx j t hw' (by omega)
        obtain ⟨p, hp, ep⟩ := List.getElem_of_mem hjs
        rw [List.getElem_take] at ep
        have hpa : p < a ∧ p < s.length := by simp at hp; omega
        have hks := h.past p j hpa.1 (by rw [List.getElem?_eq_getElem hpa.2, ep]) k hj
        have hdk := (h.steps k hks).2 _ hw
        obtain ⟨q, hq, eq⟩ := List.getElem_of_mem hks
        have hqa : q < a + 1 := by
          refine Nat.lt_of_not_le fun hge => ?_
          have := h.rises (a + 1) q y k hge hy (by rw [List.getElem?_eq_getElem hq, eq])
          omega
        rw [← eq]
        exact List.mem_take_iff_getElem.2 ⟨q, by omega, rfl⟩
structure Leads (l : List Ru) (e : Nat) (s : List Nat) (d : Nat → Nat) : Prop where
  steps : ∀ k ∈ s, Steps l e k (d k)
  all : ∀ k t, Walk l k e t → k ∈ s
  lt : ∀ k ∈ s, k < l.length
theorem Bfs.done {l : List Ru} {e : Nat} {d : Nat → Nat} {s : List Nat} {a i : Nat} (h : Bfs l e d s a i) (ha : s.length ≤ a) : Leads l e s d := by
  refine ⟨h.steps, ?_, h.lt⟩
  intro k t
  induction t generalizing k with
  | zero => intro hw; rw [hw.same]; exact h.end_mem
  | succ t ih =>
    intro hw
    obtain ⟨j, hj, hw'⟩ := hw.inv
    obtain ⟨p, hp, ep⟩ := List.getElem_of_mem (ih j hw')
    exact h.past p j (by omega) (by rw [List.getElem?_eq_getElem hp, ep]) k hj
def Next (l : List Ru) (s : List Nat) (d : Nat → Nat) (x y : Nat) : Prop :=
  needs l x y = true ∧ y ∈ s ∧ ∀ z, needs l x z = true → z ∈ s → d y < d z ∨ (d y = d z ∧ y ≤ z)
theorem Leads.some {l : List Ru} {e : Nat} {s : List Nat} {d : Nat → Nat} (h : Leads l e s d) {x : Nat} (hx : x ∈ s) (hne : x ≠ e) : ∃ z, needs l x z = true ∧ z ∈ s := by
  have hw := (h.steps x hx).1
  generalize d x = t at hw
  cases t with
  | zero => exact absurd hw.same hne
  | succ t =>
    obtain ⟨z, hz, hw'⟩ := hw.inv
    exact ⟨z, hz, h.all z t hw'⟩
theorem Leads.none {l : List Ru} {e : Nat} {s : List Nat} {d : Nat → Nat} (h : Leads l e s d) (hno : ∀ z, needs l e z = true → z ∉ s) (t : Nat) : ¬ Walk l e e (t + 1) := by
  intro hw
  obtain ⟨z, hz, hw'⟩ := hw.inv
  exact hno z hz (h.all z t hw')
structure Trail (l : List Ru) (e : Nat) (s : List Nat) (d : Nat → Nat) (c : List Nat) : Prop where
  top : c[0]? = Option.some e
  step : ∀ j x y : Nat, c[j]? = Option.some x → c[j + 1]? = Option.some y → Next l s d x y ∧ y ≠ e
theorem Trail.first (l : List Ru) (e : Nat) (s : List Nat) (d : Nat → Nat) : Trail l e s d [e] := ⟨rfl, fun j x y _ h => by simp at h⟩
theorem Trail.more {l : List Ru} {e : Nat} {s : List Nat} {d : Nat → Nat} {c : List Nat} {x y : Nat} (h : Trail l e s d (c ++ [x])) (hn : Next l s d x y) (hne : y ≠ e) : Trail l e s d (c ++ [x] ++ [y]) := by
  refine ⟨by rw [List.getElem?_append_left (by simp)]; exact h.top, fun j u v hu hv => ?_⟩
  rcases Nat.lt_or_ge (j + 1) (c ++ [x]).length with h1 | h1
  · rw [List.getElem?_append_left (by omega)] at hu
    rw [List.getElem?_append_left h1] at hv
    exact h.step j u v hu hv
  · have h2 := (List.getElem?_eq_some_iff.1 hv).1
    simp at h1 h2
    obtain rfl : j = c.length := by omega
    rw [List.getElem?_append_left (by simp), List.getElem?_append_right (Nat.le_refl _)] at hu
    rw [List.getElem?_append_right (by simp)] at hv
    simp at hu hv
    subst hu hv
    exact ⟨hn, hne⟩
theorem sorted_filter {n : Nat} {r : List Nat} (hs : r.Pairwise (fun a b => a ≤ b)) (hd : r.Nodup) (hlt : ∀ k ∈ r, k < n) (f : Nat → Bool) (hf : ∀ k, k < n → (f k = true ↔ k ∈ r)) : r = (List.range n).filter f := by
  have hp : r.Perm ((List.range n).filter f) := (List.perm_ext_iff_of_nodup hd (List.Pairwise.filter _ List.nodup_range)).2 fun k => by
    rw [List.mem_filter, List.mem_range]
    constructor
    · intro hk
      exact ⟨hlt k hk, (hf k (hlt k hk)).2 hk⟩
    · rintro ⟨h1, h2⟩
      exact (hf k h1).1 h2
  refine List.Perm.eq_of_pairwise (le := fun a b : Nat => a ≤ b) ?_ hs (List.Pairwise.filter _ (List.pairwise_lt_range.imp Nat.le_of_lt)) hp
  intro a b _ _ h1 h2
  exact Nat.le_antisymm h1 h2
end Ru
end Go.Proofs.YtmhipgompplkdaaGreatDoor
namespace Go.Proofs.YtmhipgompplkdaaGreatDoor
open Go.RowKit Go.Shelf Go.Lib
namespace Ru
structure NeedA (l : List Ru) (outs : List (List UInt8)) (j : Nat) (r : List Nat) : Prop where
  once : r.Nodup
  lt : ∀ k ∈ r, k < l.length
  mem : ∀ k (hk : k < l.length), k ∈ r ↔ l[k].out ∈ outs.take j
  made : ∀ i (hi : i < outs.length), i < j → ∃ x ∈ l, x.out = outs[i]
theorem NeedA.first (l : List Ru) (outs : List (List UInt8)) : NeedA l outs 0 [] := ⟨List.nodup_nil, by simp, by simp, fun _ _ h => absurd h (Nat.not_lt_zero _)⟩
theorem NeedA.more {l : List Ru} (hA : Apart l) {outs : List (List UInt8)} {j k : Nat} {r : List Nat} (h : NeedA l outs j r) (hj : j < outs.length) (hm : mkr l outs[j] = some k) : NeedA l outs (j + 1) (withN r k) := by
  obtain ⟨hk, h1, _⟩ := mkr_some hm
  refine ⟨withN_once h.once k, fun x hx => ?_, fun x hx => ?_, fun i hi hij => ?_⟩
  · rcases (withN_mem r k x).1 hx with h2 | rfl
    · exact h.lt x h2
    · exact hk
  · rw [withN_mem, h.mem x hx, List.take_succ_eq_append_getElem hj, List.mem_append, List.mem_singleton, ← h1]
    constructor
    · rintro (h2 | rfl)
      · exact .inl h2
      · exact .inr rfl
    · rintro (h2 | h2)
      · exact .inl h2
      · exact .inr (hA x k hx hk h2)
  · by_cases e : i = j
    · subst e
      exact ⟨l[k], List.getElem_mem hk, h1⟩
    · exact h.made i hi (by omega)
structure NeedB (l : List Ru) (outs : List (List UInt8)) (r : List Nat) (a m : Nat) : Prop where
  once : r.Nodup
  lt : ∀ k ∈ r, k < l.length
  start : ∀ k, base l outs k = true → k ∈ r
  sound : ∀ P : Nat → Prop, (∀ k, base l outs k = true → P k) → (∀ i k, P i → needs l i k = true → P k) → ∀ k ∈ r, P k
  past : ∀ (p x : Nat) (hx : x < l.length), p < a → r[p]? = some x → ∀ k ∈ needL l l[x].ins, k ∈ r
  now : ∀ (x : Nat) (hx : x < l.length), r[a]? = some x → ∀ k ∈ (needL l l[x].ins).take m, k ∈ r
theorem NeedA.done {l : List Ru} {outs : List (List UInt8)} {r : List Nat} (h : NeedA l outs outs.length r) : NeedB l outs r 0 0 := by
  have hb : ∀ k, base l outs k = true ↔ k ∈ r := fun k => by
    constructor
    · intro hk
      have hkl := base_lt hk
      rw [base_eq hkl] at hk
      rw [h.mem k hkl, List.take_length]
      simpa using hk
    · intro hk
      have hkl := h.lt k hk
      rw [base_eq hkl]
      have := (h.mem k hkl).1 hk
      rw [List.take_length] at this
      simpa using this
  exact ⟨h.once, h.lt, fun k hk => (hb k).1 hk, fun P h1 _ k hk => h1 k ((hb k).2 hk), fun p _ _ hp => absurd hp (Nat.not_lt_zero p), fun _ _ _ k hk => by simp at hk⟩
theorem withN_get {r : List Nat} {k p : Nat} (hp : p < r.length) : (withN r k)[p]? = r[p]? := by
  unfold withN
  split
  · rfl
  · exact List.getElem?_append_left hp
theorem NeedB.more {l : List Ru} (hA : Apart l) {outs : List (List UInt8)} {r : List Nat} {a m x : Nat} (h : NeedB l outs r a m) (hx : r[a]? = some x) (hxl : x < l.length) (hm : m < (needL l l[x].ins).length) : NeedB l outs (withN r (needL l l[x].ins)[m]) a (m + 1) := by
  have hal : a < r.length := (List.getElem?_eq_some_iff.1 hx).1
  have hkm : (needL l l[x].ins)[m] ∈ needL l l[x].ins := List.getElem_mem hm
  have hkn := (needL_mem hA hxl _).1 hkm
  generalize hk : (needL l l[x].ins)[m] = k at *
  refine ⟨withN_once h.once k, fun y hy => ?_, fun y hy => (withN_mem r k y).2 (.inl (h.start y hy)), fun P h1 h2 y hy => ?_, fun p y hyl hp hy z hz => ?_, fun y hyl hy z hz => ?_⟩
  · rcases (withN_mem r k y).1 hy with h2 | rfl
    · exact h.lt y h2
    · exact (needs_lt hkn).2
  · rcases (withN_mem r k y).1 hy with h3 | rfl
    · exact h.sound P h1 h2 y h3
    · exact h2 x y (h.sound P h1 h2 x (List.mem_of_getElem? hx)) hkn
  · rw [withN_get (by omega)] at hy
    exact (withN_mem r k z).2 (.inl (h.past p y hyl hp hy z hz))
  · rw [withN_get hal, hx] at hy
    cases hy
    rw [List.take_succ_eq_append_getElem hm, List.mem_append, List.mem_singleton, hk] at hz
    rcases hz with hz | rfl
    · exact (withN_mem r k z).2 (.inl (h.now x hxl hx z hz))
    · exact (withN_mem r z z).2 (.inr rfl)
theorem NeedB.next {l : List Ru} {outs : List (List UInt8)} {r : List Nat} {a m x : Nat} (h : NeedB l outs r a m) (hx : r[a]? = some x) (hxl : x < l.length) (hm : (needL l l[x].ins).length ≤ m) : NeedB l outs r (a + 1) 0 := by
  refine ⟨h.once, h.lt, h.start, h.sound, fun p y hyl hp hy k hk => ?_, fun _ _ _ k hk => by simp at hk⟩
  by_cases e : p = a
  · subst e
    rw [hx] at hy
    cases hy
    exact h.now x hxl hx k (by rwa [List.take_of_length_le hm])
  · exact h.past p y hyl (by omega) hy k hk
theorem NeedB.done {l : List Ru} (hA : Apart l) {outs : List (List UInt8)} {r : List Nat} {a m : Nat} (h : NeedB l outs r a m) (ha : r.length ≤ a) : Needed l outs (isIn r) := by
  refine ⟨fun k hk => by simpa [isIn] using h.start k hk, fun i k hi hn => ?_, fun P h1 h2 k _ hk => h.sound P h1 h2 k (by simpa [isIn] using hk)⟩
  have hir : i ∈ r := by simpa [isIn] using hi
  obtain ⟨p, hp, e⟩ := List.getElem_of_mem hir
  have hil := h.lt i hir
  have := h.past p i hil (by omega) (by rw [List.getElem?_eq_getElem hp, e]) k ((needL_mem hA hil k).2 hn)
  simpa [isIn] using this
theorem NeedB.len {l : List Ru} {outs : List (List UInt8)} {r : List Nat} {a m : Nat} (h : NeedB l outs r a m) : r.length ≤ l.length := len_le h.once h.lt
theorem NeedA.len {l : List Ru} {outs : List (List UInt8)} {r : List Nat} {j : Nat} (h : NeedA l outs j r) : r.length ≤ l.length := len_le h.once h.lt
end Ru
end Go.Proofs.YtmhipgompplkdaaGreatDoor
namespace Go.Proofs.YtmhipgompplkdaaGreatDoor
open Go.RowKit Go.Shelf Go.Lib
namespace Ru
def left (ch : Nat → Bool) (n : Nat) (o : List Nat) : List Nat := (List.range n).filter fun i => ch i && !isIn o i
theorem left_mem {ch : Nat → Bool} {n : Nat} {o : List Nat} {i : Nat} : i ∈ left ch n o ↔ i < n ∧ ch i = true ∧ i ∉ o := by
  unfold left isIn
  simp
theorem left_once (ch : Nat → Bool) (n : Nat) (o : List Nat) : (left ch n o).Nodup := List.Pairwise.filter _ List.nodup_range
theorem left_len (ch : Nat → Bool) (n : Nat) (o : List Nat) : (left ch n o).length ≤ n := by
  have := List.length_filter_le (fun i => ch i && !isIn o i) (List.range n)
  simpa [left] using this
theorem left_nil (ch : Nat → Bool) (n : Nat) : left ch n [] = (List.range n).filter ch := by
  unfold left
  congr 1
  funext i
  simp [isIn]
theorem leftTo_eq (ch : Nat → Bool) (n : Nat) (o : List Nat) : leftTo ch (isIn o) n = true ↔ left ch n o ≠ [] := by
  unfold leftTo left
  rw [List.any_eq_true, ne_eq, List.filter_eq_nil_iff]
  constructor
  · rintro ⟨i, hi, h⟩ hno
    exact hno i hi h
  · intro h
    simp only [Classical.not_forall] at h
    obtain ⟨i, hi, h⟩ := h
    exact ⟨i, hi, by simpa using h⟩
theorem nextTo_eq (ch : Nat → Bool) (l : List Ru) (n : Nat) (o : List Nat) : nextTo l ch (isIn o) n = (left ch n o).find? fun i => freeTo l (isIn o) i l.length := by
  unfold nextTo left
  rw [List.find?_filter]
  congr 1
  funext i
  unfold may
  cases ch i <;> cases isIn o i <;> cases freeTo l (isIn o) i l.length <;> rfl
theorem left_none {ch : Nat → Bool} {l : List Ru} {o : List Nat} {b : Nat → Bool} (hb : ∀ x ∈ left ch l.length o, b x = freeTo l (isIn o) x l.length) (h : ∀ x ∈ left ch l.length o, b x = false) : nextTo l ch (isIn o) l.length = none := by
  rw [nextTo_eq, List.find?_eq_none]
  intro x hx
  rw [← hb x hx, h x hx]
  simp
theorem left_some {ch : Nat → Bool} {l : List Ru} {o : List Nat} {b : Nat → Bool} (hb : ∀ x ∈ left ch l.length o, b x = freeTo l (isIn o) x l.length) {k : Nat} (hk : k < (left ch l.length o).length) (h1 : b (left ch l.length o)[k] = true) (h2 : ∀ x ∈ (left ch l.length o).take k, b x = false) : nextTo l ch (isIn o) l.length = some (left ch l.length o)[k] := by
  rw [nextTo_eq]
  generalize left ch l.length o = r at *
  have e : r = r.take k ++ r[k] :: r.drop (k + 1) := by
    rw [← List.drop_eq_getElem_cons hk, List.take_append_drop]
  have hn : (r.take k).find? (fun i => freeTo l (isIn o) i l.length) = none := by
    rw [List.find?_eq_none]
    intro x hx
    rw [← hb x (List.mem_of_mem_take hx), h2 x hx]
    simp
  have hm : freeTo l (isIn o) r[k] l.length = true := by rw [← hb _ (List.getElem_mem hk)]; exact h1
  generalize r[k] = y at *
  rw [e, List.find?_append, hn, List.find?_cons_of_pos (by simpa using hm)]
  rfl
theorem left_del {ch : Nat → Bool} {n : Nat} {o : List Nat} {k : Nat} (hk : k < (left ch n o).length) : (left ch n o).take k ++ (left ch n o).drop (k + 1) = left ch n (o ++ [(left ch n o)[k]]) := by
  have hd := left_once ch n o
  have e : left ch n (o ++ [(left ch n o)[k]]) = (left ch n o).filter fun i => !(i == (left ch n o)[k]) := by
    generalize (left ch n o)[k] = y
    unfold left
    rw [List.filter_filter]
    apply List.filter_congr
    intro i _
    unfold isIn
    by_cases h : i = y
    · subst h; simp
    · simp [h]
  rw [e]
  generalize left ch n o = r at *
  have er : r = r.take k ++ r[k] :: r.drop (k + 1) := by
    rw [← List.drop_eq_getElem_cons hk, List.take_append_drop]
  generalize r[k] = y at *
  rw [er] at hd
  rw [List.nodup_append] at hd
  obtain ⟨h1, h2, h3⟩ := hd
  have h4 := (List.nodup_cons.1 h2).1
  conv => rhs; rw [er]
  rw [List.filter_append, List.filter_cons_of_neg (by simp)]
  congr 1
  · symm
    rw [List.filter_eq_self]
    intro a ha
    have := h3 a ha y (by simp)
    simpa using this
  · symm
    rw [List.filter_eq_self]
    intro a ha
    have : a ≠ y := fun e => h4 (e ▸ ha)
    simpa using this
theorem free_eq {ch : Nat → Bool} {l : List Ru} (hA : Apart l) {o : List Nat} {i : Nat} (hi : i < l.length) (hcl : ∀ k, needs l i k = true → ch k = true) : (!((needL l l[i].ins).any fun y => decide (y ∈ left ch l.length o))) = freeTo l (isIn o) i l.length := by
  rw [Bool.eq_iff_iff]
  unfold freeTo
  simp only [Bool.not_eq_true', List.any_eq_false, decide_eq_true_eq, List.all_eq_true, List.mem_range, Bool.or_eq_true, Bool.not_eq_true']
  constructor
  · intro h k hk
    by_cases hn : needs l i k = true
    · left
      have := h k ((needL_mem hA hi k).2 hn)
      rw [left_mem] at this
      simpa [isIn, hk, hcl k hn] using this
    · right
      simpa using hn
  · intro h k hk hl
    rw [left_mem] at hl
    rcases h k hl.1 with h1 | h1
    · exact hl.2.2 (by simpa [isIn] using h1)
    · rw [(needL_mem hA hi k).1 hk] at h1
      cases h1
theorem ord_step (ch : Nat → Bool) (l : List Ru) {o : List Nat} (hlen : o.length ≤ l.length) : orderF l ch (l.length + 1 - o.length) o = if leftTo ch (isIn o) l.length = true then (match nextTo l ch (isIn o) l.length with | none => none | some i => orderF l ch (l.length - o.length) (o ++ [i])) else some o := by
  rw [show l.length + 1 - o.length = (l.length - o.length) + 1 by omega]
  rfl
theorem ord_done {ch : Nat → Bool} {l : List Ru} {o : List Nat} (h : orderF l ch (l.length + 1 - o.length) o = order l ch) (hlen : o.length ≤ l.length) (hl : left ch l.length o = []) : order l ch = some o := by
  rw [← h, ord_step ch l hlen, if_neg]
  rw [leftTo_eq]
  simpa using hl
theorem ord_none {ch : Nat → Bool} {l : List Ru} {o : List Nat} (h : orderF l ch (l.length + 1 - o.length) o = order l ch) (hlen : o.length ≤ l.length) (hl : left ch l.length o ≠ []) (hn : nextTo l ch (isIn o) l.length = none) : order l ch = none := by
  rw [← h, ord_step ch l hlen, if_pos ((leftTo_eq _ _ _).2 hl), hn]
theorem ord_more {ch : Nat → Bool} {l : List Ru} {o : List Nat} {j : Nat} (h : orderF l ch (l.length + 1 - o.length) o = order l ch) (hlen : o.length ≤ l.length) (hl : left ch l.length o ≠ []) (hn : nextTo l ch (isIn o) l.length = some j) : orderF l ch (l.length + 1 - (o ++ [j]).length) (o ++ [j]) = order l ch := by
  rw [← h, ord_step ch l hlen, if_pos ((leftTo_eq _ _ _).2 hl), hn, List.length_append, List.length_singleton]
  rw [show l.length + 1 - (o.length + 1) = l.length - o.length by omega]
structure Ord (ch : Nat → Bool) (l : List Ru) (o : List Nat) : Prop where
  once : o.Nodup
  lt : ∀ i ∈ o, i < l.length
  ord : orderF l ch (l.length + 1 - o.length) o = order l ch
theorem Ord.first (ch : Nat → Bool) (l : List Ru) : Ord ch l [] := ⟨List.nodup_nil, by simp, rfl⟩
theorem Ord.len {ch : Nat → Bool} {l : List Ru} {o : List Nat} (h : Ord ch l o) : o.length ≤ l.length := len_le h.once h.lt
theorem Ord.more {ch : Nat → Bool} {l : List Ru} {o : List Nat} {b : Nat → Bool} (h : Ord ch l o) (hb : ∀ x ∈ left ch l.length o, b x = freeTo l (isIn o) x l.length) {k : Nat} (hk : k < (left ch l.length o).length) (h1 : b (left ch l.length o)[k] = true) (h2 : ∀ x ∈ (left ch l.length o).take k, b x = false) : Ord ch l (o ++ [(left ch l.length o)[k]]) := by
  have hj := left_mem.1 (List.getElem_mem hk)
  refine ⟨?_, ?_, ord_more h.ord h.len (fun e => by rw [e] at hk; simp at hk) (left_some hb hk h1 h2)⟩
  · rw [List.nodup_append]
    exact ⟨h.once, by simp, fun a ha b hb => by
      rw [List.mem_singleton.1 hb]
      rintro rfl
      exact hj.2.2 ha⟩
  · intro i hi
    rcases List.mem_append.1 hi with h1 | h1
    · exact h.lt i h1
    · rw [List.mem_singleton.1 h1]; exact hj.1
end Ru
end Go.Proofs.YtmhipgompplkdaaGreatDoor
