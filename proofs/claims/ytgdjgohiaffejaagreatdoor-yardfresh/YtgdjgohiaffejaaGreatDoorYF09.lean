import Derived.Test.YtgdjgohiaffejaaGreatDoorYF06
import Derived.Test.YtgdjgohiaffejaaGreatDoorYF08
import Derived.Test.YtgdjgohiaffejaaGreatDoorYF03
import Derived.Lib.SlicesCompact
import Derived.WalkSmall
import Derived.Test.YtgdjgohiaffejaaGreatDoorYF05
namespace Go.Proofs.YtgdjgohiaffejaaGreatDoor
open Go.RowKit Go.Shelf Go.Lib
namespace Ru
inductive Walk (l : List Ru) : Nat → Nat → Nat → Prop
  | zero (i : Nat) : Walk l i i 0
  | step {i j k t : Nat} : needs l i j = true → Walk l j k t → Walk l i k (t + 1)
theorem Walk.trans {l : List Ru} {i j k s t : Nat} (h : Walk l i j s) (h' : Walk l j k t) : Walk l i k (s + t) := by
  induction h with
  | zero i => rw [Nat.zero_add]; exact h'
  | step hn _ ih => rw [Nat.add_right_comm]; exact .step hn (ih h')
theorem Walk.one {l : List Ru} {i k : Nat} (h : needs l i k = true) : Walk l i k 1 := .step h (.zero k)
theorem Walk.inv {l : List Ru} {i k t : Nat} (h : Walk l i k (t + 1)) : ∃ j, needs l i j = true ∧ Walk l j k t := by
  cases h with
  | step hn hw => exact ⟨_, hn, hw⟩
theorem Walk.last {l : List Ru} {i k t : Nat} (h : Walk l i k (t + 1)) : ∃ j, Walk l i j t ∧ needs l j k = true := by
  induction t generalizing i with
  | zero =>
    obtain ⟨j, hn, hw⟩ := h.inv
    cases hw
    exact ⟨i, .zero i, hn⟩
  | succ t ih =>
    obtain ⟨j, hn, hw⟩ := h.inv
    obtain ⟨m, h1, h2⟩ := ih hw
    exact ⟨m, .step hn h1, h2⟩
theorem Walk.lt {l : List Ru} {i k t : Nat} (h : Walk l i k (t + 1)) : i < l.length ∧ k < l.length := by
  obtain ⟨j, hn, _⟩ := h.inv
  obtain ⟨m, _, hm⟩ := h.last
  exact ⟨(needs_lt hn).1, (needs_lt hm).2⟩
def Dist (l : List Ru) (i k t : Nat) : Prop := 1 ≤ t ∧ Walk l i k t ∧ ∀ s, 1 ≤ s → Walk l i k s → t ≤ s
theorem Dist.unique {l : List Ru} {i k s t : Nat} (h : Dist l i k s) (h' : Dist l i k t) : s = t :=
  Nat.le_antisymm (h.2.2 t h'.1 h'.2.1) (h'.2.2 s h.1 h.2.1)
theorem pigeon {n : Nat} {g : Nat → Nat} (h : ∀ t, t ≤ n → g t < n) : ∃ a b, a < b ∧ b ≤ n ∧ g a = g b := by
  refine Classical.byContradiction fun hno => ?_
  have hd : ((List.range (n + 1)).map g).Nodup := by
    rw [List.nodup_iff_pairwise_ne, List.pairwise_map]
    refine List.Pairwise.imp_of_mem ?_ List.pairwise_lt_range
    intro a b _ hb hab e
    exact hno ⟨a, b, hab, by have := List.mem_range.1 hb; omega, e⟩
  have := len_le (n := n) hd (fun i hi => by
    obtain ⟨t, ht, rfl⟩ := List.mem_map.1 hi
    exact h t (by have := List.mem_range.1 ht; omega))
  simp at this
  omega
theorem Dist.first {l : List Ru} {i k t : Nat} (h : Dist l i k (t + 2)) : ∃ j, needs l i j = true ∧ Dist l j k (t + 1) := by
  obtain ⟨j, hn, hw⟩ := h.2.1.inv
  refine ⟨j, hn, by omega, hw, fun s hs hws => ?_⟩
  have := h.2.2 (s + 1) (by omega) (.step hn hws)
  omega
structure IsCycle (l : List Ru) (c : List Nat) : Prop where
  none : c = [] → ∀ i t, ¬ Walk l i i (t + 1)
  first : ∀ (h : 0 < c.length), (∀ j t, j < c[0] → ¬ Walk l j j (t + 1)) ∧ Dist l c[0] c[0] c.length
  next : ∀ j (h : j + 1 < c.length), needs l c[j] c[j + 1] = true ∧ Dist l c[j + 1] c[0] (c.length - 1 - j) ∧ ∀ k, k < c[j + 1] → ¬ (needs l c[j] k = true ∧ Dist l k c[0] (c.length - 1 - j))
theorem IsCycle.lt {l : List Ru} {c : List Nat} (h : IsCycle l c) (j : Nat) (hj : j < c.length) : c[j] < l.length := by
  cases j with
  | zero =>
    have := (h.first hj).2
    obtain ⟨t, ht⟩ : ∃ t, c.length = t + 1 := ⟨c.length - 1, by omega⟩
    have hw := this.2.1
    rw [ht] at hw
    exact hw.lt.1
  | succ j => exact (needs_lt (h.next j hj).1).2
theorem IsCycle.round {l : List Ru} {c : List Nat} (h : IsCycle l c) (j : Nat) (hj : j < c.length) : needs l c[j] (c[(j + 1) % c.length]'(Nat.mod_lt _ (by omega))) = true := by
  by_cases hlt : j + 1 < c.length
  · simp only [Nat.mod_eq_of_lt hlt]
    exact (h.next j hlt).1
  · have e : j + 1 = c.length := by omega
    simp only [e, Nat.mod_self]
    have hd : Dist l c[j] (c[0]'(by omega)) 1 := by
      cases j with
      | zero =>
        have := (h.first hj).2
        rw [← e] at this
        exact this
      | succ i =>
        have := (h.next i hj).2.1
        rw [show c.length - 1 - i = 1 by omega] at this
        exact this
    obtain ⟨m, hn, hw⟩ := Walk.inv hd.2.1
    cases hw
    exact hn
theorem IsCycle.unique {l : List Ru} {c c' : List Nat} (h : IsCycle l c) (h' : IsCycle l c') : c = c' := by
  by_cases e : c = []
  · subst e
    by_cases e' : c' = []
    · exact e'.symm
    · have hp : 0 < c'.length := List.length_pos_iff.2 e'
      have hd := (h'.first hp).2
      obtain ⟨t, ht⟩ : ∃ t, c'.length = t + 1 := ⟨c'.length - 1, by omega⟩
      have hw := hd.2.1
      rw [ht] at hw
      exact absurd hw (h.none rfl _ _)
  · have hp : 0 < c.length := List.length_pos_iff.2 e
    have hd := (h.first hp).2
    by_cases e' : c' = []
    · obtain ⟨t, ht⟩ : ∃ t, c.length = t + 1 := ⟨c.length - 1, by omega⟩
      have hw := hd.2.1
      rw [ht] at hw
      exact absurd hw (h'.none e' _ _)
    · have hp' : 0 < c'.length := List.length_pos_iff.2 e'
      have hd' := (h'.first hp').2
      have h0 : c[0] = c'[0] := by
        rcases Nat.lt_trichotomy c[0] c'[0] with h1 | h1 | h1
        · obtain ⟨t, ht⟩ : ∃ t, c.length = t + 1 := ⟨c.length - 1, by omega⟩
          have hw := hd.2.1
          rw [ht] at hw
          exact absurd hw ((h'.first hp').1 _ t h1)
        · exact h1
        · obtain ⟨t, ht⟩ : ∃ t, c'.length = t + 1 := ⟨c'.length - 1, by omega⟩
          have hw := hd'.2.1
          rw [ht] at hw
          exact absurd hw ((h.first hp).1 _ t h1)
      have hlen : c.length = c'.length := by
        rw [h0] at hd
        exact hd.unique hd'
      have all : ∀ j (hj : j < c.length), c[j] = c'[j]'(by omega) := by
        intro j
        induction j with
        | zero => intro _; exact h0
        | succ j ih =>
          intro hj
          have hj' : j + 1 < c'.length := by omega
          have e1 := ih (by omega)
          obtain ⟨a1, a2, a3⟩ := h.next j hj
          obtain ⟨b1, b2, b3⟩ := h'.next j hj'
          rw [e1] at a1 a3
          rw [h0, hlen] at a2
          rw [h0] at a3
          rcases Nat.lt_trichotomy c[j + 1] c'[j + 1] with h1 | h1 | h1
          · exact absurd ⟨a1, a2⟩ (b3 _ h1)
          · exact h1
          · exact absurd ⟨b1, by rw [show c.length - 1 - j = c'.length - 1 - j by rw [hlen]]; exact b2⟩ (a3 _ h1)
      exact List.ext_getElem hlen fun j h1 _ => all j h1
def Topo (l : List Ru) (o : List Nat) : Prop := ∀ j (hj : j < o.length) k, needs l o[j] k = true → k ∈ o.take j
theorem orderF_some {l : List Ru} {some : Nat → Bool} : ∀ {f : Nat} {o r : List Nat}, orderF l some f o = Option.some r → Topo l o → Topo l r ∧ ∀ i, i < l.length → some i = true → i ∈ r
  | 0, _, _, h, _ => by cases h
  | f + 1, o, r, h, ht => by
    unfold orderF at h
    split at h
    · split at h
      · cases h
      · rename_i i hi
        refine orderF_some h ?_
        have hm := (nextTo_some hi).2
        simp only [may, Bool.and_eq_true, freeTo, List.all_eq_true, Bool.or_eq_true, Bool.not_eq_true'] at hm
        intro j hj k hn
        rw [List.length_append, List.length_singleton] at hj
        by_cases e : j < o.length
        · rw [List.getElem_append_left e] at hn
          rw [List.take_append_of_le_length (by omega)]
          exact ht j e k hn
        · obtain rfl : j = o.length := by omega
          rw [List.getElem_append_right (Nat.le_refl _)] at hn
          simp only [Nat.sub_self, List.getElem_cons_zero] at hn
          rw [List.take_append_of_le_length (Nat.le_refl _), List.take_length]
          rcases hm.2 k (List.mem_range.2 (needs_lt hn).2) with h1 | h1
          · simpa [isIn] using h1
          · rw [hn] at h1
            cases h1
    · rename_i hl
      cases h
      refine ⟨ht, fun i hi hs => ?_⟩
      simp only [leftTo, List.any_eq_true, Bool.and_eq_true, Bool.not_eq_true'] at hl
      refine Classical.byContradiction fun hno => hl ⟨i, List.mem_range.2 hi, hs, ?_⟩
      simpa [isIn] using hno
theorem order_some {l : List Ru} {some : Nat → Bool} {o : List Nat} (h : order l some = Option.some o) : Topo l o ∧ ∀ i, i < l.length → some i = true → i ∈ o :=
  orderF_some h fun j hj => by simp at hj
theorem orderF_nodup {l : List Ru} {some : Nat → Bool} : ∀ {f : Nat} {o r : List Nat}, orderF l some f o = Option.some r → o.Nodup → (∀ i ∈ o, i < l.length) → r.Nodup ∧ ∀ i ∈ r, i < l.length
  | 0, _, _, h, _, _ => by cases h
  | f + 1, o, r, h, hd, hb => by
    unfold orderF at h
    split at h
    · split at h
      · cases h
      · rename_i i hi
        obtain ⟨hil, hm⟩ := nextTo_some hi
        have hio : i ∉ o := by
          simp only [may, Bool.and_eq_true, Bool.not_eq_true', isIn, decide_eq_false_iff_not] at hm
          exact hm.1.2
        refine orderF_nodup h ?_ ?_
        · rw [List.nodup_append]
          exact ⟨hd, by simp, fun a ha b hb => by
            rw [List.mem_singleton.1 hb]
            rintro rfl
            exact hio ha⟩
        · intro j hj
          rcases List.mem_append.1 hj with h1 | h1
          · exact hb j h1
          · rw [List.mem_singleton.1 h1]; exact hil
    · cases h
      exact ⟨hd, hb⟩
theorem order_nodup {l : List Ru} {some : Nat → Bool} {o : List Nat} (h : order l some = Option.some o) : o.Nodup ∧ ∀ i ∈ o, i < l.length :=
  orderF_nodup h List.nodup_nil (by simp)
theorem nodup_sub {α : Type} [DecidableEq α] {a : List α} : ∀ {b : List α}, a.Nodup → a ⊆ b → a.length ≤ b.length := by
  induction a with
  | nil => intro b _ _; simp
  | cons x r ih =>
    intro b hd hs
    obtain ⟨hx, hr⟩ := List.nodup_cons.1 hd
    have hxb : x ∈ b := hs (by simp)
    have := ih (b := b.erase x) hr fun y hy => by
      have hne : y ≠ x := fun e => hx (e ▸ hy)
      exact (List.mem_erase_of_ne hne).2 (hs (List.mem_cons_of_mem _ hy))
    rw [List.length_erase_of_mem hxb] at this
    have hp := List.length_pos_of_mem hxb
    simp
    omega
theorem order_len {l : List Ru} {o : List Nat} (h : order l (fun _ => true) = Option.some o) : o.length = l.length := by
  obtain ⟨h1, h2⟩ := order_nodup h
  refine Nat.le_antisymm (len_le h1 h2) ?_
  have := nodup_sub (a := List.range l.length) (b := o) List.nodup_range fun i hi => (order_some h).2 i (List.mem_range.1 hi) rfl
  simpa using this
theorem Topo.none {l : List Ru} {o : List Nat} (h : Topo l o) (i t : Nat) (hi : i ∈ o) : ¬ Walk l i i (t + 1) := by
  have key : ∀ t i j (hj : j < o.length), o[j] = i → ∀ k, Walk l i k (t + 1) → k ∈ o.take j := by
    intro t
    induction t with
    | zero =>
      rintro i j hj rfl k hw
      obtain ⟨m, hn, hw'⟩ := hw.inv
      cases hw'
      exact h j hj _ hn
    | succ t ih =>
      rintro i j hj rfl k hw
      obtain ⟨m, hn, hw'⟩ := hw.inv
      have hm := h j hj m hn
      obtain ⟨q, hq, e⟩ := List.getElem_of_mem hm
      rw [List.getElem_take] at e
      have hqj : q < j := by simp at hq; omega
      exact (List.take_sublist_take_left (Nat.le_of_lt hqj)).subset (ih m q (by omega) e k hw')
  -- the first place of i
  intro hw
  have : ∀ m j (hj : j < o.length), j ≤ m → o[j] = i → False := by
    intro m
    induction m with
    | zero =>
      intro j hj hm e
      obtain rfl : j = 0 := by omega
      have := key t i 0 hj e i hw
      simp at this
    | succ m ih =>
      intro j hj hm e
      have h1 := key t i j hj e i hw
      obtain ⟨q, hq, e'⟩ := List.getElem_of_mem h1
      rw [List.getElem_take] at e'
      exact ih q (by simp at hq; omega) (by simp at hq; omega) e'
  obtain ⟨j, hj, e⟩ := List.getElem_of_mem hi
  exact this j j hj (Nat.le_refl _) e
end Ru
end Go.Proofs.YtgdjgohiaffejaaGreatDoor
namespace Go.Proofs.YtgdjgohiaffejaaGreatDoor
namespace Bf
def inO (o : List Nat) : Nat → Prop := fun i => i ∈ o
theorem rank_of {l : List Ru} {o : List Nat} (h : Ru.Topo l o) {i k : Nat} (hi : i ∈ o) (hn : Ru.needs l i k = true) : k ∈ o ∧ o.idxOf k < o.idxOf i := by
  have hj : o.idxOf i < o.length := List.idxOf_lt_length_of_mem hi
  have hg : o[o.idxOf i] = i := List.getElem_idxOf hj
  have hk := h (o.idxOf i) hj k (by rw [hg]; exact hn)
  refine ⟨List.mem_of_mem_take hk, ?_⟩
  obtain ⟨q, hq, e⟩ := List.getElem_of_mem hk
  rw [List.length_take] at hq
  rw [List.getElem_take] at e
  have : o.idxOf k ≤ q := by
    refine Nat.le_of_not_lt fun hlt => ?_
    have := List.not_of_lt_findIdx (p := fun y => y == k) (xs := o) hlt
    rw [e] at this
    simp at this
  omega
end Bf
end Go.Proofs.YtgdjgohiaffejaaGreatDoor
namespace Go.Proofs.YtgdjgohiaffejaaGreatDoor
open Go.RowKit Go.Shelf Go.Lib
namespace Af
def lines : List UInt8 → List (List UInt8)
  | [] => []
  | c :: r => if c = 10 then [] :: lines r else match lines r with
    | [] => [[c]]
    | p :: ps => (c :: p) :: ps
def told (l : List (List UInt8)) : List UInt8 := l.flatMap fun x => x ++ [10]
def all (l : List (List UInt8)) : List (List UInt8) := l.flatMap lines
def srt (l : List (List UInt8)) : List (List UInt8) := l.mergeSort fun x y => decide (x ≤ y)
theorem cut_lines (s : List UInt8) : cutB 10 s = (if s = [] then [[]] else if s.getLast? = some 10 then lines s ++ [[]] else lines s) := by
  induction s with
  | nil => rfl
  | cons c r ih =>
    rw [if_neg (List.cons_ne_nil c r)]
    by_cases hr : r = []
    · subst hr
      by_cases hc : c = 10 <;> simp [hc, cutB, lines]
    · rw [if_neg hr] at ih
      have hg : (c :: r).getLast? = r.getLast? := by
        cases r with
        | nil => exact absurd rfl hr
        | cons x y => exact List.getLast?_cons_cons
      rw [hg]
      have hl : lines r ≠ [] := by
        cases r with
        | nil => exact absurd rfl hr
        | cons x y =>
          unfold lines
          split
          · simp
          · split <;> simp
      by_cases hc : c = 10
      · simp only [cutB, lines, if_pos hc, ih]
        split <;> simp
      · simp only [cutB, lines, if_neg hc]
        by_cases h10 : r.getLast? = some 10
        · rw [if_pos h10] at ih
          simp only [ih, if_pos h10]
          cases hL : lines r with
          | nil => exact absurd hL hl
          | cons p ps => simp
        · rw [if_neg h10] at ih
          simp only [ih, if_neg h10]
          cases lines r <;> rfl
theorem lines_ne {s : List UInt8} (h : s ≠ []) : lines s ≠ [] := by
  cases s with
  | nil => exact absurd rfl h
  | cons x y =>
    unfold lines
    split
    · simp
    · split <;> simp
theorem lines_last : ∀ {s : List UInt8}, s ≠ [] → s.getLast? ≠ some 10 → ∃ o l, lines s = o ++ [l] ∧ l ≠ []
  | [], h, _ => absurd rfl h
  | [c], _, h1 => by
    have hc : c ≠ 10 := by simpa using h1
    exact ⟨[], [c], by simp [lines, hc], by simp⟩
  | c :: x :: r, _, h1 => by
    obtain ⟨o, l, e, hl⟩ := lines_last (s := x :: r) (by simp) (by simpa using h1)
    unfold lines
    rw [e]
    by_cases hc : c = 10
    · exact ⟨[] :: o, l, by simp [hc], hl⟩
    · cases o with
      | nil => exact ⟨[], c :: l, by simp [hc], by simp⟩
      | cons p ps => exact ⟨(c :: p) :: ps, l, by simp [hc], hl⟩
theorem lines_of_cut (s : List UInt8) : ∃ o l, cutB 10 s = o ++ [l] ∧ lines s = (if l = [] then o else o ++ [l]) := by
  by_cases hs : s = []
  · subst hs
    exact ⟨[], [], rfl, rfl⟩
  · by_cases h1 : s.getLast? = some 10
    · exact ⟨lines s, [], by rw [cut_lines, if_neg hs, if_pos h1], by simp⟩
    · obtain ⟨o, l, e, hl⟩ := lines_last hs h1
      exact ⟨o, l, by rw [cut_lines, if_neg hs, if_neg h1, e], by rw [if_neg hl, e]⟩
theorem told_len : ∀ (l : List (List UInt8)), (told l).length = (l.map fun x => x.length + 1).sum
  | [] => rfl
  | x :: r => by
    have e : told (x :: r) = x ++ 10 :: told r := by simp [told]
    rw [e, List.length_append, List.length_cons, told_len r, List.map_cons, List.sum_cons]
    omega
theorem told_lines : ∀ (s : List UInt8), told (lines s) = s ∨ told (lines s) = s ++ [10]
  | [] => .inl rfl
  | c :: r => by
    have ih := told_lines r
    unfold lines
    by_cases hc : c = 10
    · rw [if_pos hc]
      have e : told ([] :: lines r) = 10 :: told (lines r) := by simp [told]
      rw [e, hc]
      rcases ih with ih | ih <;> rw [ih] <;> simp
    · rw [if_neg hc]
      cases hL : lines r with
      | nil =>
        have hr : r = [] := Classical.byContradiction fun h => lines_ne h hL
        subst hr
        right
        simp [told]
      | cons p ps =>
        rw [hL] at ih
        have e : told ((c :: p) :: ps) = c :: told (p :: ps) := by simp [told]
        simp only [e]
        rcases ih with ih | ih <;> rw [ih] <;> simp
theorem told_lines_len (s : List UInt8) : s.length ≤ (told (lines s)).length ∧ (told (lines s)).length ≤ s.length + 1 := by
  rcases told_lines s with h | h <;> rw [h] <;> simp
theorem lines_len (s : List UInt8) : (lines s).length ≤ s.length := by
  induction s with
  | nil => simp [lines]
  | cons c r ih =>
    unfold lines
    split
    · simp; omega
    · split
      · simp
      · next h => rw [h] at ih; simp at ih ⊢; omega
theorem mem_le_sum : ∀ {l : List Nat} {n : Nat}, n ∈ l → n ≤ l.sum
  | [], _, h => by simp at h
  | x :: r, n, h => by
    rw [List.sum_cons]
    rcases List.mem_cons.1 h with rfl | h
    · omega
    · have := mem_le_sum h
      omega
theorem line_len {s x : List UInt8} (h : x ∈ lines s) : x.length ≤ s.length := by
  have h1 := told_lines s
  have h2 : x.length + 1 ≤ (told (lines s)).length := by
    rw [told_len]
    have : x.length + 1 ∈ (lines s).map fun x => x.length + 1 := List.mem_map.2 ⟨x, h, rfl⟩
    exact mem_le_sum this
  have := told_lines_len s
  omega
theorem srt_perm (l : List (List UInt8)) : (srt l).Perm l := List.mergeSort_perm _ _
theorem srt_sorted (l : List (List UInt8)) : (srt l).Pairwise (fun x y => x ≤ y) := by
  have := List.pairwise_mergeSort (le := fun (x y : List UInt8) => decide (x ≤ y)) (by intro a b c h1 h2; simp at *; exact List.le_trans h1 h2) (by intro a b; simp; exact List.le_total a b) l
  exact this.imp (by intro a b h; simpa using h)
theorem srt_len (l : List (List UInt8)) : (srt l).length = l.length := (srt_perm l).length_eq
theorem told_perm {l l' : List (List UInt8)} (h : l.Perm l') : (told l).length = (told l').length := by
  rw [told_len, told_len]
  exact (h.map _).sum_nat
theorem told_append (a b : List (List UInt8)) : told (a ++ b) = told a ++ told b := by simp [told]
theorem told_all_len : ∀ (l : List (List UInt8)), (told (all l)).length ≤ (l.map fun x => x.length + 1).sum
  | [] => by simp [all, told]
  | x :: r => by
    have h1 := told_all_len r
    have h2 := (told_lines_len x).2
    have e : all (x :: r) = lines x ++ all r := by simp [all]
    rw [e, told_append]
    simp
    omega
theorem compact_succ (zs : List (List UInt8)) (m : Nat) : compactUpTo zs.toArray (m + 1) = compactUpTo zs.toArray m ++ (if keeps zs.toArray m then [zs.toArray[m]!] else []) := compactUpTo_succ _ m
theorem compact_told_len (zs : List (List UInt8)) : ∀ m, m ≤ zs.length → (told (compactUpTo zs.toArray m)).length ≤ (told (zs.take m)).length
  | 0, _ => by simp [compactUpTo, told]
  | m + 1, h => by
    have ih := compact_told_len zs m (by omega)
    have hm : m < zs.length := by omega
    rw [compact_succ, told_append, List.take_succ_eq_append_getElem hm, told_append]
    simp only [List.length_append]
    split
    · have e : zs.toArray[m]! = zs[m] := by simp [hm]
      rw [e]
      omega
    · simp [told] at ih ⊢
      omega
end Af
end Go.Proofs.YtgdjgohiaffejaaGreatDoor
namespace Go.Proofs.YtgdjgohiaffejaaGreatDoor
open Go.RowKit Go.Shelf Go.Lib
def byteOk (stars : Bool) (c : Nat) : Bool := letter c || (stars && c == 42)
def nameR (stars : Bool) (s : List UInt8) : Bool := !(decide (s = [])) && decide (s.length ≤ 12) && !(decide (s = [46])) && !(decide (s = [46, 46])) && s.all (fun b => byteOk stars b.toNat)
end Go.Proofs.YtgdjgohiaffejaaGreatDoor
namespace Go.Proofs.YtgdjgohiaffejaaGreatDoor
open Go.RowKit Go.Shelf Go.Lib
theorem decode_high (s : ByteArray) (i : Nat) (h : 128 ≤ (s.get! i).toNat) : 128 ≤ (Utf8.decode s i).1 := by
  unfold Utf8.decode
  simp only [Nat.add_zero]
  rw [if_neg (by omega)]
  have hr : 128 ≤ Utf8.runeError := by decide
  split
  · split
    · simpa using ‹_›
    · exact hr
  · split
    · split
      · rename_i h2
        simp at h2
        simp only
        omega
      · exact hr
    · split
      · split
        · rename_i h2
          simp at h2
          simp only
          omega
        · exact hr
      · exact hr
theorem decode_low (s : ByteArray) (i : Nat) (h : (s.get! i).toNat < 128) : Utf8.decode s i = ((s.get! i).toNat, 1) := by
  unfold Utf8.decode
  simp only [Nat.add_zero]
  rw [if_pos (by omega)]
theorem idx_bytes (p : Nat → Bool) (hp : ∀ x, 128 ≤ x → p x = false) (l : List UInt8) : ∀ (f pos : Nat), l.length ≤ pos + f →
    (decide (0 ≤ Lib.idxFuncFrom (fun x => !p x) true (ba l) f pos) = !((l.drop pos).all (fun b => p b.toNat)))
  | 0, pos, h => by
    simp [Lib.idxFuncFrom, List.drop_of_length_le (show l.length ≤ pos by omega)]
  | f + 1, pos, h => by
    unfold Lib.idxFuncFrom
    have hz := ba_size l
    by_cases hlt : pos < l.length
    · rw [if_pos (by rw [hz]; exact hlt)]
      have hget : ((ba l).get! pos) = l[pos] := by
        show (l.toArray)[pos]! = _
        rw [getElem!_pos _ _ (by simpa using hlt)]
        simp
      rw [List.drop_eq_getElem_cons hlt, List.all_cons]
      by_cases hc : l[pos].toNat < 128
      · rw [decode_low _ _ (by rw [hget]; exact hc), hget]
        simp only
        cases hpc : p l[pos].toNat with
        | true =>
          simp only [Bool.not_true, Bool.false_eq_true, if_false, Bool.true_and]
          exact idx_bytes p hp l f (pos + 1) (by omega)
        | false => simp
      · have h1 := decode_high (ba l) pos (by rw [hget]; omega)
        rw [hp _ h1, hp l[pos].toNat (by omega)]
        simp
    · rw [if_neg (by rw [hz]; exact hlt), List.drop_of_length_le (by omega)]
      simp
theorem letter_high (x : Nat) (h : 128 ≤ x) : letter x = false := by simp [letter]; omega
end Go.Proofs.YtgdjgohiaffejaaGreatDoor
namespace Go.Proofs.YtgdjgohiaffejaaGreatDoor
open Go.RowKit Go.Shelf Go.Lib
theorem nameK_R (l : List UInt8) : nameK letter (ba l) = nameR false l := by
  have h := idx_bytes letter letter_high l (ba l).size 0 (by rw [ba_size]; omega)
  unfold nameK nameR Lib.idxFunc
  rw [h, ba_toList, ba_size]
  simp [byteOk]
def okR (stars : Bool) (s : List UInt8) : Bool := decide ((Kf.parts s).length ≤ 5) && (Kf.parts s).all (fun p => nameR stars p)
theorem pathB_R (s : List UInt8) : pathB s = okR false s := by
  unfold pathB allB okR
  congr 1
  exact List.all_congr rfl (fun p => nameK_R p)
theorem part_len {s p : List UInt8} (h : p ∈ Kf.parts s) : p.length ≤ s.length := by
  have h1 := Kf.tot_parts s
  obtain ⟨a, b, e⟩ := List.append_of_mem h
  rw [e] at h1
  simp [Kf.tot] at h1
  omega
end Go.Proofs.YtgdjgohiaffejaaGreatDoor
namespace Go.Proofs.YtgdjgohiaffejaaGreatDoor
open Go.RowKit Go.Shelf Go.Lib
theorem row_cells (W : World) (l : List (List UInt8)) (j : Nat) (hj : j < l.length) : (W.alloc (.cells ((l.map ba).map Value.string).toArray 9)).cell? ⟨W.heap.size, j, none⟩ = some (.string (ba l[j])) := by
  rw [World.cell?_alloc_at _ _ _ _ rfl, List.getElem?_toArray, List.getElem?_map, List.getElem?_map, List.getElem?_eq_getElem hj]
  rfl
theorem cutB_len (c : UInt8) (s : List UInt8) : (cutB c s).length ≤ s.length + 1 := by
  induction s with
  | nil => simp [cutB]
  | cons x r ih =>
    unfold cutB
    split
    · simp; omega
    · split
      · simp
      · next h => rw [h] at ih; simp at ih ⊢; omega
theorem strCutG (s sep : List UInt8) (m : Int) (w : World) (hs : s.length ≤ 1000000) (hm : w.cell? ⟨14, 0, none⟩ = some (.int .i64 m)) :
    Calls Tryz.prog 204 #[.string (ba s), .string (ba sep)] w fun e w' => e = .returned (.tuple #[.string (ba (Lib.cut s sep).1), .string (ba (Lib.cut s sep).2.1), .bool (Lib.cut s sep).2.2]) ∧ ∃ n, w' = w.drewN n :=
  Tryz.strings_Cut (ba s) (ba sep) m w (by rw [ba_size]; omega) hm
end Go.Proofs.YtgdjgohiaffejaaGreatDoor
namespace Go.Proofs.YtgdjgohiaffejaaGreatDoor
open Go.RowKit Go.Shelf Go.Lib
open Go.Sort (grow)
theorem empty_not {l : List UInt8} (h : l ≠ []) : l.isEmpty = false := by
  cases l with
  | nil => exact absurd rfl h
  | cons c r => rfl
def LRow (B : Nat) (w : World) (v : Value) (l : List (List UInt8)) : Prop :=
  ∃ g cap cur, v = .slice (some ⟨g, 0, none⟩) l.length cap ∧ B ≤ g ∧ l.length ≤ cap ∧ w.heap[g]? = some (.cells cur 9 (0, 0)) ∧ ∀ j (hj : j < l.length), cur[j]? = some (.string (ba l[j]))
theorem LRow.row {B : Nat} {w : World} {v : Value} {l : List (List UInt8)} (h : LRow B w v l) : TRow w v l := by
  obtain ⟨g, cap, cur, rfl, _, h1, h2, h3⟩ := h
  exact ⟨_, cap, rfl, h1, fun _ => ⟨g, cur, rfl, h2, h3⟩⟩
def CRow (w : World) (v : Value) (l : List (List UInt8)) : Prop :=
  ∃ p cap, v = .slice p l.length cap ∧ ∀ k (hk : k < l.length), ∃ g, p = some ⟨g, 0, none⟩ ∧ g < w.heap.size ∧ w.cell? ⟨g, k, none⟩ = some (.string (ba l[k]))
theorem TRow.cells {w : World} {v : Value} {l : List (List UInt8)} (h : TRow w v l) : CRow w v l := by
  obtain ⟨p, cap, rfl, _, hin⟩ := h
  refine ⟨p, cap, rfl, fun k hk => ?_⟩
  obtain ⟨g, cur, rfl, hg, hcur⟩ := hin (by intro e; rw [e] at hk; simp at hk)
  exact ⟨g, rfl, (Array.getElem?_eq_some_iff.1 hg).1, cell_of_row hg (hcur k hk)⟩
set_option maxRecDepth 100000 in
set_option maxHeartbeats 4000000 in
theorem linesOf_calls (s : List UInt8) (hs : s.length ≤ 1000000) (m : Int) (w : World) (hm : w.cell? ⟨14, 0, none⟩ = some (.int .i64 m)) :
    Calls Tryz.prog 299 #[.string (ba s)] w fun e w' => ∃ v, e = .returned v ∧ LRow w.heap.size w' v (Af.lines s) ∧ Below w.heap.size w w' := by
  obtain ⟨o, l, hc, hl⟩ := Af.lines_of_cut s
  have HS : Hid (Calls Tryz.prog 292 #[.string (ba s), .string ⟨#[10]⟩] w fun e w' => e = .returned (.slice (some ⟨w.heap.size, 0, none⟩) (o.length + 1) (o.length + 1)) ∧ w' = w.alloc (.cells (((o ++ [l]).map ba).map Value.string).toArray 9)) := by
    have := Tryz.strings_Split (ba s) (ba [10]) m w (by rw [ba_size]; omega) hm (by rw [ba_size]; simp)
    rw [splitB_cut, count_cut, hc] at this
    exact hid1 (by simpa using this)
  have hol : o.length ≤ 1000000 := by
    have := cutB_len 10 s
    rw [hc] at this
    simp at this
    omega
  have HL : Hid (Af.lines s = (if l = [] then o else o ++ [l])) := hl
  clear hl hc
  generalize Af.lines s = L at *
  have hB3 : Below w.heap.size w (w.alloc (.cells (((o ++ [l]).map ba).map Value.string).toArray 9)) := (Below.refl _ w).alloc (Nat.le_refl _) _
  have hblk : (w.alloc (.cells (((o ++ [l]).map ba).map Value.string).toArray 9)).heap[w.heap.size]? = some (.cells (((o ++ [l]).map ba).map Value.string).toArray 9 (0, 0)) := by
    show (w.heap.push _)[w.heap.size]? = _
    simp
  have hcz : (w.alloc (.cells (((o ++ [l]).map ba).map Value.string).toArray 9)).cell? ⟨w.heap.size, o.length, none⟩ = some (.string (ba l)) := by
    have := row_cells w (o ++ [l]) o.length (by simp)
    rw [List.getElem_append_right (by omega)] at this
    simp only [Nat.sub_self, List.getElem_cons_zero] at this
    exact this
  go_enter Tryz.func299, Tryz.ntmps299
  go_wp2_with fail
  refine HS.out.mono ?_
  rintro e w3 ⟨rfl, hw3⟩
  rw [← hw3] at hB3 hblk hcz
  clear hw3 HS hm
  have z1 : (o.length : Int) ≤ 1000000 := by omega
  have hcur : ∀ (l' : List (List UInt8)), (∃ t, l' ++ t = o ++ [l]) → ∀ j (hj : j < l'.length), (((o ++ [l]).map ba).map Value.string).toArray[j]? = some (.string (ba l'[j])) := by
    rintro l' ⟨t, ht⟩ j hj
    rw [← ht]
    simp only [List.map_map, List.map_append, List.getElem?_toArray]
    rw [List.getElem?_append_left (by simpa using hj)]
    simp [hj]
  by_cases he : l = []
  · subst he
    have d1 : (ba ([] : List UInt8) == ⟨#[]⟩) = true := by rfl
    have hL : L = o := by rw [HL.out, if_pos rfl]
    subst hL
    go_wp2
    go_ret
    exact ⟨_, rfl, ⟨_, _, _, rfl, Nat.le_refl _, by omega, hblk, hcur L ⟨_, rfl⟩⟩, hB3⟩
  · have d1 : l.isEmpty = false := empty_not he
    have hL : L = o ++ [l] := by rw [HL.out, if_neg he]
    subst hL
    go_wp2
    go_ret
    exact ⟨_, rfl, ⟨w.heap.size, o.length + 1, _, by simp, Nat.le_refl _, by simp, hblk, hcur _ ⟨[], by simp⟩⟩, hB3⟩
theorem owns_stays {w w' : World} {B n : Nat} {v : Value} {xs : List Value} (h : w.ownsRow B 9 1 v n xs) (hb : Below w.heap.size w w') : w'.ownsRow B 9 1 v n xs :=
  h.kept (row := none) ⟨hb.os, hb.tape, hb.output, hb.size, fun k hk _ => hb.block k hk⟩ (by cases v.ownBlock <;> simp)
theorem all_take {ls : List (List UInt8)} {k : Nat} (hk : k < ls.length) : Af.all (ls.take (k + 1)) = Af.all (ls.take k) ++ Af.lines ls[k] := by
  unfold Af.all
  rw [List.take_succ_eq_append_getElem hk, List.flatMap_append, List.flatMap_cons, List.flatMap_nil, List.append_nil]
theorem all_len {ls : List (List UInt8)} (h : ∀ x ∈ ls, x.length ≤ 100000) : ∀ k, k ≤ ls.length → (Af.all (ls.take k)).length ≤ k * 100000
  | 0, _ => by simp [Af.all]
  | k + 1, hk => by
    have ih := all_len h k (by omega)
    rw [all_take (by omega), List.length_append]
    have h1 := Af.lines_len ls[k]
    have h2 := h _ (List.getElem_mem (show k < ls.length by omega))
    omega
set_option maxRecDepth 100000 in
set_option maxHeartbeats 4000000 in
theorem allLines_calls (v : Value) (ls : List (List UInt8)) (hn : ls.length ≤ 1000) (hx : ∀ x ∈ ls, x.length ≤ 100000) (m : Int) (w : World) (hrow : TRow w v ls) (hm : w.cell? ⟨14, 0, none⟩ = some (.int .i64 m)) :
    Calls Tryz.prog 302 #[v] w fun e w' => ∃ v', e = .returned v' ∧ w'.ownsRow w.heap.size 9 1 v' (Af.all ls).length ((Af.all ls).map sv) ∧ Below w.heap.size w w' := by
  obtain ⟨i0, hi, hz0, hz1, hz2⟩ := info_parts Tryz.infoStr
  obtain ⟨pa, cap, rfl, hcap, hin⟩ := hrow
  have hR : Hid (∀ W, Below w.heap.size w W → ∀ k (hk : k < ls.length), ∃ g, pa = some ⟨g, 0, none⟩ ∧ W.cell? ⟨g, k, none⟩ = some (.string (ba ls[k]))) := fun W hW k hk => by
    obtain ⟨g, cur, rfl, hg, hcur⟩ := hin (by intro e; rw [e] at hk; simp at hk)
    exact ⟨g, rfl, cell_of_row ((hW.block g (Array.getElem?_eq_some_iff.1 hg).1).trans hg) (hcur k hk)⟩
  have hM : Hid (∀ W, Below w.heap.size w W → W.cell? ⟨14, 0, none⟩ = some (.int .i64 m)) := fun W hW => cell_below' hm hW
  have hA := all_len hx
  have hzn : (ls.length : Int) ≤ 1000 := by omega
  clear hin hm
  go_enter Tryz.func302, Tryz.ntmps302
  go_wp2
  go_loopw [3, 8] (fun out i wr => ∃ k : Nat, k ≤ ls.length ∧ i = .int .i64 k ∧ wr.ownsRow w.heap.size 9 1 out (Af.all (ls.take k)).length ((Af.all (ls.take k)).map sv) ∧ Below w.heap.size w wr) (fun _ i _ => ls.length - (intOf i).toNat)
  case atStart => exact ⟨0, Nat.zero_le _, rfl, World.ownsRow_nil _ _ _ _, Below.refl _ _⟩
  case round =>
    obtain ⟨k, hk, rfl, hown, hB⟩ := hrel
    by_cases hlt : k < ls.length
    · have c1 : (k : Int) < (ls.length : Int) := by omega
      have c0 : (0 : Int) ≤ (k : Int) := by omega
      obtain ⟨g, rfl, hcell⟩ := hR.out wr hB k hlt
      have HA : Hid (Af.all (ls.take (k + 1)) = Af.all (ls.take k) ++ Af.lines ls[k]) := all_take hlt
      have hA1 := hA (k + 1) (by omega)
      rw [HA.out, List.length_append] at hA1
      have HC := hid1 (linesOf_calls ls[k] (by have := hx _ (List.getElem_mem hlt); omega) m wr (hM.out wr hB))
      generalize Af.lines ls[k] = L at *
      generalize ls[k] = x at *
      generalize Af.all (ls.take k) = A at *
      go_wp2_with fail
      refine Calls.mono HC.out ?_
      rintro e w2 ⟨v2, rfl, ⟨g2, cap2, cur2, rfl, hg2, hc2, hblk2, hcur2⟩, hb2⟩
      have hown2 := owns_stays hown hb2
      have hB2 : Below w.heap.size w w2 := hB.trans (hb2.mono hB.size)
      have hsrc : ∀ j u, (L.map sv)[j]? = some u → w2.cell? ((⟨g2, 0, none⟩ : Addr).add j) = some u := fun j u hj => by
        have hjl : j < L.length := by simpa using (List.getElem?_eq_some_iff.1 hj).1
        have := cell_of_row hblk2 (hcur2 j hjl)
        rw [List.getElem?_map, List.getElem?_eq_getElem hjl] at hj
        simp at hj
        rw [← hj, add_at]
        exact this
      clear HC hcell
      go_wp2_with (at_builtin; refine wpList_append_own _ rfl _ _ 45 rfl w.heap.size 9 i0 (.string ⟨#[]⟩) 1 16 Tryz.underlying45 hi hz0 hz1 hz2 rfl (by decide) _ _ _ rfl hown2 ⟨g2, 0, none⟩ L.length cap2 (L.map sv) rfl (by simp) hsrc (by simp [Value.oneCell']) (by unfold maxLen; omega) (by omega) hB2.size ?_; intro v' w1 hown' hgrow _)
      go_roundw
      case rel => exact ⟨k + 1, by omega, by go_num, by rw [HA.out, List.length_append, List.map_append]; exact hown', below_more hB2 hB2.size hown2 hgrow⟩
      case measure => simp [intOf]; omega
    · have c1 : (ls.length : Int) ≤ (k : Int) := by omega
      obtain rfl : k = ls.length := by omega
      rw [List.take_length] at hown
      go_wp2
      go_ret
      exact ⟨_, rfl, hown, hB⟩
theorem told_take {l : List (List UInt8)} {k : Nat} (hk : k < l.length) : Af.told (l.take (k + 1)) = Af.told (l.take k) ++ l[k] ++ [10] := by
  unfold Af.told
  rw [List.take_succ_eq_append_getElem hk, List.flatMap_append, List.flatMap_cons, List.flatMap_nil, List.append_nil, List.append_assoc]
theorem told_take_len {l : List (List UInt8)} (k : Nat) : (Af.told (l.take k)).length ≤ (Af.told l).length := by
  conv => rhs; rw [← List.take_append_drop k l, Af.told_append, List.length_append]
  omega
set_option maxRecDepth 100000 in
set_option maxHeartbeats 4000000 in
theorem told_calls (v : Value) (l : List (List UInt8)) (w : World) (hrow : CRow w v l) (hlen : (Af.told l).length ≤ 100000000) :
    Calls Tryz.prog 297 #[v] w fun e w' => e = .returned (.string (ba (Af.told l))) ∧ Below w.heap.size w w' := by
  have g0 : Below w.heap.size w (w.alloc (.cells #[.pointer none, .slice none 0 0] 159)) := (Below.refl _ w).alloc (Nat.le_refl _) _
  have b0 : Lib.IsBuilderF 159 5 w.heap.size w.heap.size [] (w.alloc (.cells #[.pointer none, .slice none 0 0] 159)) := Lib.IsBuilderF.of (Lib.fresh_isBuilder 159 5 w)
  obtain ⟨pa, cap, rfl, hin⟩ := hrow
  have hln : l.length ≤ (Af.told l).length := by
    have : ∀ l : List (List UInt8), l.length ≤ (Af.told l).length := fun l => by
      induction l with
      | nil => simp
      | cons x r ih => simp [Af.told] at ih ⊢; omega
    exact this l
  have hR : Hid (∀ W, Below w.heap.size w W → ∀ k (hk : k < l.length), ∃ g, pa = some ⟨g, 0, none⟩ ∧ W.cell? ⟨g, k, none⟩ = some (.string (ba l[k]))) := fun W hW k hk => by
    obtain ⟨g, rfl, hg, hcur⟩ := hin k hk
    exact ⟨g, rfl, (World.cell?_of_block (hW.block g hg)).trans hcur⟩
  have HW : Hid (∀ (bs : List UInt8) (s : List UInt8) W, bs.length + s.length ≤ 100000000 → w.heap.size ≤ W.heap.size → Lib.IsBuilderF 159 5 w.heap.size w.heap.size (Lib.byteCells bs) W → Calls Tryz.prog 95 #[.pointer (some ⟨w.heap.size, 0, none⟩), .string (ba s)] W fun e w' =>
      e = .returned (.tuple #[.int .i64 s.length, .nilIface]) ∧ Lib.IsBuilderF 159 5 w.heap.size w.heap.size (Lib.byteCells (bs ++ s)) w' ∧ Below w.heap.size W w') := fun bs s W hl hW hb => by
    refine (Any.Builder_WriteString_k Tryz.lays166 Tryz.Builder_Extra_166 w.heap.size w.heap.size (Lib.byteCells bs) (ba s) W hb (by rw [Lib.byteCells_length, ba_size]; omega) hW).mono ?_
    rintro e w' ⟨rfl, h1, h2, h3⟩
    refine ⟨by rw [ba_size], .inr ?_, h2⟩
    rw [Lib.byteCells_append]
    exact h1
  have HS : Hid (∀ W, w.heap.size ≤ W.heap.size → Lib.IsBuilderF 159 5 w.heap.size w.heap.size (Lib.byteCells (Af.told l)) W → Calls Tryz.prog 97 #[.pointer (some ⟨w.heap.size, 0, none⟩)] W fun e w' => e = .returned (.string (ba (Af.told l))) ∧ Below w.heap.size W w') := fun W hW hb => by
    refine (Any.Builder_String_any_k Tryz.lays169 Tryz.Builder_Extra_169 w.heap.size w.heap.size (Af.told l) W hb hW).mono ?_
    rintro e w' ⟨rfl, _, h2, _⟩
    exact ⟨rfl, h2⟩
  have hT := told_take_len (l := l)
  have hzn : (l.length : Int) ≤ 100000000 := by omega
  clear hin
  go_enter Tryz.func297, Tryz.ntmps297
  go_wp2
  go_loopw [8] (fun i wr => ∃ k : Nat, k ≤ l.length ∧ i = .int .i64 k ∧ Lib.IsBuilderF 159 5 w.heap.size w.heap.size (Lib.byteCells (Af.told (l.take k))) wr ∧ Below w.heap.size w wr) (fun i _ => l.length - (intOf i).toNat)
  case atStart => exact ⟨0, Nat.zero_le _, rfl, by simpa [Af.told, Lib.byteCells] using b0, g0⟩
  case round =>
    obtain ⟨k, hk, rfl, hbld, hB⟩ := hrel
    by_cases hlt : k < l.length
    · have c1 : (k : Int) < (l.length : Int) := by omega
      have c0 : (0 : Int) ≤ (k : Int) := by omega
      obtain ⟨g, rfl, hcell⟩ := hR.out wr hB k hlt
      have HA : Hid (Af.told (l.take (k + 1)) = Af.told (l.take k) ++ l[k] ++ [10]) := told_take hlt
      have hA1 := hT (k + 1)
      rw [HA.out] at hA1
      simp only [List.length_append, List.length_cons, List.length_nil] at hA1
      generalize l[k] = x at *
      generalize Af.told (l.take k) = A at *
      go_wp2_with fail
      refine (HW.out A x wr (by omega) hB.size hbld).mono ?_
      rintro e w2 ⟨rfl, B2, h2⟩
      have G2 := hB.trans h2
      have HW2 := HW.out (A ++ x) [10] w2 (by simp; omega) G2.size B2
      go_wp2_with fail
      refine HW2.mono ?_
      rintro e w3 ⟨rfl, B3, h3⟩
      go_wp2
      go_roundw
      case rel => exact ⟨k + 1, by omega, by go_num, by rw [HA.out]; exact B3, G2.trans h3⟩
      case measure => simp [intOf]; omega
    · have c1 : (l.length : Int) ≤ (k : Int) := by omega
      obtain rfl : k = l.length := by omega
      rw [List.take_length] at hbld
      have HS' := HS.out wr hB.size hbld
      go_wp2_with fail
      refine HS'.mono ?_
      rintro e w5 ⟨rfl, g5⟩
      go_wp2
      go_ret
      exact ⟨rfl, hB.trans g5⟩
end Go.Proofs.YtgdjgohiaffejaaGreatDoor
