import Derived.Test.YtbgkfmodbofalaaGreatDoorPS07
import Derived.Test.YtbgkfmodbofalaaGreatDoorPS09
import Derived.Test.YtbgkfmodbofalaaGreatDoorPS04
import Derived.Lib.SlicesCompact
import Derived.Test.YtbgkfmodbofalaaGreatDoorPS03
namespace Go.Proofs.YtbgkfmodbofalaaGreatDoor
open Go.RowKit Go.Shelf Go.Lib
namespace Ru
inductive Walk (l : List Ru) : Nat → Nat → Nat → Prop
  | zero (i : Nat) : Walk l i i 0
  | step {i j k t : Nat} : needs l i j = true → Walk l j k t → Walk l i k (t + 1)
theorem Walk.trans {l : List Ru} {i j k s t : Nat} (h : Walk l i j s) (h' : Walk l j k t) : Walk l i k (s + t) := by
  induction h with
  | zero i => rw [Nat.zero_add]; exact h'
  | step hn _ ih => rw [Nat.add_right_comm]; exact .step hn (ih h')
theorem Walk.one {l : List Ru} {i k : Nat} (h : needs l i k = true) : Walk l i k 1 := .step h (.zero k)
theorem Walk.inv {l : List Ru} {i k t : Nat} (h : Walk l i k (t + 1)) : ∃ j, needs l i j = true ∧ Walk l j k t := by
  cases h with
  | step hn hw => exact ⟨_, hn, hw⟩
theorem Walk.last {l : List Ru} {i k t : Nat} (h : Walk l i k (t + 1)) : ∃ j, Walk l i j t ∧ needs l j k = true := by
  induction t generalizing i with
  | zero =>
    obtain ⟨j, hn, hw⟩ := h.inv
    cases hw
    exact ⟨i, .zero i, hn⟩
  | succ t ih =>
    obtain ⟨j, hn, hw⟩ := h.inv
    obtain ⟨m, h1, h2⟩ := ih hw
    exact ⟨m, .step hn h1, h2⟩
theorem Walk.lt {l : List Ru} {i k t : Nat} (h : Walk l i k (t + 1)) : i < l.length ∧ k < l.length := by
  obtain ⟨j, hn, _⟩ := h.inv
  obtain ⟨m, _, hm⟩ := h.last
  exact ⟨(needs_lt hn).1, (needs_lt hm).2⟩
def Dist (l : List Ru) (i k t : Nat) : Prop := 1 ≤ t ∧ Walk l i k t ∧ ∀ s, 1 ≤ s → Walk l i k s → t ≤ s
theorem Dist.unique {l : List Ru} {i k s t : Nat} (h : Dist l i k s) (h' : Dist l i k t) : s = t :=
  Nat.le_antisymm (h.2.2 t h'.1 h'.2.1) (h'.2.2 s h.1 h.2.1)
theorem pigeon {n : Nat} {g : Nat → Nat} (h : ∀ t, t ≤ n → g t < n) : ∃ a b, a < b ∧ b ≤ n ∧ g a = g b := by
  refine Classical.byContradiction fun hno => ?_
  have hd : ((List.range (n + 1)).map g).Nodup := by
    rw [List.nodup_iff_pairwise_ne, List.pairwise_map]
    refine List.Pairwise.imp_of_mem ?_ List.pairwise_lt_range
    intro a b _ hb hab e
    exact hno ⟨a, b, hab, by have := List.mem_range.1 hb; omega, e⟩
  have := len_le (n := n) hd (fun i hi => by
    obtain ⟨t, ht, rfl⟩ := List.mem_map.1 hi
    exact h t (by have := List.mem_range.1 ht; omega))
  simp at this
  omega
theorem Dist.first {l : List Ru} {i k t : Nat} (h : Dist l i k (t + 2)) : ∃ j, needs l i j = true ∧ Dist l j k (t + 1) := by
  obtain ⟨j, hn, hw⟩ := h.2.1.inv
  refine ⟨j, hn, by omega, hw, fun s hs hws => ?_⟩
  have := h.2.2 (s + 1) (by omega) (.step hn hws)
  omega
structure IsCycle (l : List Ru) (c : List Nat) : Prop where
  none : c = [] → ∀ i t, ¬ Walk l i i (t + 1)
  first : ∀ (h : 0 < c.length), (∀ j t, j < c[0] → ¬ Walk l j j (t + 1)) ∧ Dist l c[0] c[0] c.length
  next : ∀ j (h : j + 1 < c.length), needs l c[j] c[j + 1] = true ∧ Dist l c[j + 1] c[0] (c.length - 1 - j) ∧ ∀ k, k < c[j + 1] → ¬ (needs l c[j] k = true ∧ Dist l k c[0] (c.length - 1 - j))
theorem IsCycle.lt {l : List Ru} {c : List Nat} (h : IsCycle l c) (j : Nat) (hj : j < c.length) : c[j] < l.length := by
  cases j with
  | zero =>
    have := (h.first hj).2
    obtain ⟨t, ht⟩ : ∃ t, c.length = t + 1 := ⟨c.length - 1, by omega⟩
    have hw := this.2.1
    rw [ht] at hw
    exact hw.lt.1
  | succ j => exact (needs_lt (h.next j hj).1).2
theorem IsCycle.round {l : List Ru} {c : List Nat} (h : IsCycle l c) (j : Nat) (hj : j < c.length) : needs l c[j] (c[(j + 1) % c.length]'(Nat.mod_lt _ (by omega))) = true := by
  by_cases hlt : j + 1 < c.length
  · simp only [Nat.mod_eq_of_lt hlt]
    exact (h.next j hlt).1
  · have e : j + 1 = c.length := by omega
    simp only [e, Nat.mod_self]
    have hd : Dist l c[j] (c[0]'(by omega)) 1 := by
      cases j with
      | zero =>
        have := (h.first hj).2
        rw [← e] at this
        exact this
      | succ i =>
        have := (h.next i hj).2.1
        rw [show c.length - 1 - i = 1 by omega] at this
        exact this
    obtain ⟨m, hn, hw⟩ := Walk.inv hd.2.1
    cases hw
    exact hn
theorem IsCycle.unique {l : List Ru} {c c' : List Nat} (h : IsCycle l c) (h' : IsCycle l c') : c = c' := by
  by_cases e : c = []
  · subst e
    by_cases e' : c' = []
    · exact e'.symm
    · have hp : 0 < c'.length := List.length_pos_iff.2 e'
      have hd := (h'.first hp).2
      obtain ⟨t, ht⟩ : ∃ t, c'.length = t + 1 := ⟨c'.length - 1, by omega⟩
      have hw := hd.2.1
      rw [ht] at hw
      exact absurd hw (h.none rfl _ _)
  · have hp : 0 < c.length := List.length_pos_iff.2 e
    have hd := (h.first hp).2
    by_cases e' : c' = []
    · obtain ⟨t, ht⟩ : ∃ t, c.length = t + 1 := ⟨c.length - 1, by omega⟩
      have hw := hd.2.1
      rw [ht] at hw
      exact absurd hw (h'.none e' _ _)
    · have hp' : 0 < c'.length := List.length_pos_iff.2 e'
      have hd' := (h'.first hp').2
      have h0 : c[0] = c'[0] := by
        rcases Nat.lt_trichotomy c[0] c'[0] with h1 | h1 | h1
        · obtain ⟨t, ht⟩ : ∃ t, c.length = t + 1 := ⟨c.length - 1, by omega⟩
          have hw := hd.2.1
          rw [ht] at hw
          exact absurd hw ((h'.first hp').1 _ t h1)
        · exact h1
        · obtain ⟨t, ht⟩ : ∃ t, c'.length = t + 1 := ⟨c'.length - 1, by omega⟩
          have hw := hd'.2.1
          rw [ht] at hw
          exact absurd hw ((h.first hp).1 _ t h1)
      have hlen : c.length = c'.length := by
        rw [h0] at hd
        exact hd.unique hd'
      have all : ∀ j (hj : j < c.length), c[j] = c'[j]'(by omega) := by
        intro j
        induction j with
        | zero => intro _; exact h0
        | succ j ih =>
          intro hj
          have hj' : j + 1 < c'.length := by omega
          have e1 := ih (by omega)
          obtain ⟨a1, a2, a3⟩ := h.next j hj
          obtain ⟨b1, b2, b3⟩ := h'.next j hj'
          rw [e1] at a1 a3
          rw [h0, hlen] at a2
          rw [h0] at a3
          rcases Nat.lt_trichotomy c[j + 1] c'[j + 1] with h1 | h1 | h1
          · exact absurd ⟨a1, a2⟩ (b3 _ h1)
          · exact h1
          · exact absurd ⟨b1, by rw [show c.length - 1 - j = c'.length - 1 - j by rw [hlen]]; exact b2⟩ (a3 _ h1)
      exact List.ext_getElem hlen fun j h1 _ => all j h1
def Topo (l : List Ru) (o : List Nat) : Prop := ∀ j (hj : j < o.length) k, needs l o[j] k = true → k ∈ o.take j
theorem orderF_some {l : List Ru} {some : Nat → Bool} : ∀ {f : Nat} {o r : List Nat}, orderF l some f o = Option.some r → Topo l o → Topo l r ∧ ∀ i, i < l.length → some i = true → i ∈ r
  | 0, _, _, h, _ => by cases h
  | f + 1, o, r, h, ht => by
    unfold orderF at h
    split at h
    · split at h
      · cases h
      · rename_i i hi
        refine orderF_some h ?_
        have hm := (nextTo_some hi).2
        simp only [may, Bool.and_eq_true, freeTo, List.all_eq_true, Bool.or_eq_true, Bool.not_eq_true'] at hm
        intro j hj k hn
        rw [List.length_append, List.length_singleton] at hj
        by_cases e : j < o.length
        · rw [List.getElem_append_left e] at hn
          rw [List.take_append_of_le_length (by omega)]
          exact ht j e k hn
        · obtain rfl : j = o.length := by omega
          rw [List.getElem_append_right (Nat.le_refl _)] at hn
          simp only [Nat.sub_self, List.getElem_cons_zero] at hn
          rw [List.take_append_of_le_length (Nat.le_refl _), List.take_length]
          rcases hm.2 k (List.mem_range.2 (needs_lt hn).2) with h1 | h1
          · simpa [isIn] using h1
          · rw [hn] at h1
            cases h1
    · rename_i hl
      cases h
      refine ⟨ht, fun i hi hs => ?_⟩
      simp only [leftTo, List.any_eq_true, Bool.and_eq_true, Bool.not_eq_true'] at hl
      refine Classical.byContradiction fun hno => hl ⟨i, List.mem_range.2 hi, hs, ?_⟩
      simpa [isIn] using hno
theorem order_some {l : List Ru} {some : Nat → Bool} {o : List Nat} (h : order l some = Option.some o) : Topo l o ∧ ∀ i, i < l.length → some i = true → i ∈ o :=
  orderF_some h fun j hj => by simp at hj
theorem orderF_nodup {l : List Ru} {some : Nat → Bool} : ∀ {f : Nat} {o r : List Nat}, orderF l some f o = Option.some r → o.Nodup → (∀ i ∈ o, i < l.length) → r.Nodup ∧ ∀ i ∈ r, i < l.length
  | 0, _, _, h, _, _ => by cases h
  | f + 1, o, r, h, hd, hb => by
    unfold orderF at h
    split at h
    · split at h
      · cases h
      · rename_i i hi
        obtain ⟨hil, hm⟩ := nextTo_some hi
        have hio : i ∉ o := by
          simp only [may, Bool.and_eq_true, Bool.not_eq_true', isIn, decide_eq_false_iff_not] at hm
          exact hm.1.2
        refine orderF_nodup h ?_ ?_
        · rw [List.nodup_append]
          exact ⟨hd, by simp, fun a ha b hb => by
            rw [List.mem_singleton.1 hb]
            rintro rfl
            exact hio ha⟩
        · intro j hj
          rcases List.mem_append.1 hj with h1 | h1
          · exact hb j h1
          · rw [List.mem_singleton.1 h1]; exact hil
    · cases h
      exact ⟨hd, hb⟩
theorem order_nodup {l : List Ru} {some : Nat → Bool} {o : List Nat} (h : order l some = Option.some o) : o.Nodup ∧ ∀ i ∈ o, i < l.length :=
  orderF_nodup h List.nodup_nil (by simp)
theorem nodup_sub {α : Type} [DecidableEq α] {a : List α} : ∀ {b : List α}, a.Nodup → a ⊆ b → a.length ≤ b.length := by
  induction a with
  | nil => intro b _ _; simp
  | cons x r ih =>
    intro b hd hs
    obtain ⟨hx, hr⟩ := List.nodup_cons.1 hd
    have hxb : x ∈ b := hs (by simp)
    have := ih (b := b.erase x) hr fun y hy => by
      have hne : y ≠ x := fun e => hx (e ▸ hy)
      exact (List.mem_erase_of_ne hne).2 (hs (List.mem_cons_of_mem _ hy))
    rw [List.length_erase_of_mem hxb] at this
    have hp := List.length_pos_of_mem hxb
    simp
    omega
theorem order_len {l : List Ru} {o : List Nat} (h : order l (fun _ => true) = Option.some o) : o.length = l.length := by
  obtain ⟨h1, h2⟩ := order_nodup h
  refine Nat.le_antisymm (len_le h1 h2) ?_
  have := nodup_sub (a := List.range l.length) (b := o) List.nodup_range fun i hi => (order_some h).2 i (List.mem_range.1 hi) rfl
  simpa using this
theorem Topo.none {l : List Ru} {o : List Nat} (h : Topo l o) (i t : Nat) (hi : i ∈ o) : ¬ Walk l i i (t + 1) := by
  have key : ∀ t i j (hj : j < o.length), o[j] = i → ∀ k, Walk l i k (t + 1) → k ∈ o.take j := by
    intro t
    induction t with
    | zero =>
      rintro i j hj rfl k hw
      obtain ⟨m, hn, hw'⟩ := hw.inv
      cases hw'
      exact h j hj _ hn
    | succ t ih =>
      rintro i j hj rfl k hw
      obtain ⟨m, hn, hw'⟩ := hw.inv
      have hm := h j hj m hn
      obtain ⟨q, hq, e⟩ := List.getElem_of_mem hm
      rw [List.getElem_take] at e
      have hqj : q < j := by simp at hq; omega
      exact (List.take_sublist_take_left (Nat.le_of_lt hqj)).subset (ih m q (by omega) e k hw')
  -- the first place of i
  intro hw
  have : ∀ m j (hj : j < o.length), j ≤ m → o[j] = i → False := by
    intro m
    induction m with
    | zero =>
      intro j hj hm e
      obtain rfl : j = 0 := by omega
      have := key t i 0 hj e i hw
      simp at this
    | succ m ih =>
      intro j hj hm e
      have h1 := key t i j hj e i hw
      obtain ⟨q, hq, e'⟩ := List.getElem_of_mem h1
      rw [List.getElem_take] at e'
      exact ih q (by simp at hq; omega) (by simp at hq; omega) e'
  obtain ⟨j, hj, e⟩ := List.getElem_of_mem hi
  exact this j j hj (Nat.le_refl _) e
end Ru
end Go.Proofs.YtbgkfmodbofalaaGreatDoor
namespace Go.Proofs.YtbgkfmodbofalaaGreatDoor
namespace Bf
def inO (o : List Nat) : Nat → Prop := fun i => i ∈ o
theorem rank_of {l : List Ru} {o : List Nat} (h : Ru.Topo l o) {i k : Nat} (hi : i ∈ o) (hn : Ru.needs l i k = true) : k ∈ o ∧ o.idxOf k < o.idxOf i := by
  have hj : o.idxOf i < o.length := List.idxOf_lt_length_of_mem hi
  have hg : o[o.idxOf i] = i := List.getElem_idxOf hj
  have hk := h (o.idxOf i) hj k (by rw [hg]; exact hn)
  refine ⟨List.mem_of_mem_take hk, ?_⟩
  obtain ⟨q, hq, e⟩ := List.getElem_of_mem hk
  rw [List.length_take] at hq
  rw [List.getElem_take] at e
  have : o.idxOf k ≤ q := by
    refine Nat.le_of_not_lt fun hlt => ?_
    have := List.not_of_lt_findIdx (p := fun y => y == k) (xs := o) hlt
    rw [e] at this
    simp at this
  omega
end Bf
end Go.Proofs.YtbgkfmodbofalaaGreatDoor
namespace Go.Proofs.YtbgkfmodbofalaaGreatDoor
open Go.RowKit Go.Shelf Go.Lib
namespace Af
def lines : List UInt8 → List (List UInt8)
  | [] => []
  | c :: r => if c = 10 then [] :: lines r else match lines r with
    | [] => [[c]]
    | p :: ps => (c :: p) :: ps
def told (l : List (List UInt8)) : List UInt8 := l.flatMap fun x => x ++ [10]
def all (l : List (List UInt8)) : List (List UInt8) := l.flatMap lines
def srt (l : List (List UInt8)) : List (List UInt8) := l.mergeSort fun x y => decide (x ≤ y)
theorem cut_lines (s : List UInt8) : cutB 10 s = (if s = [] then [[]] else if s.getLast? = some 10 then lines s ++ [[]] else lines s) := by
  induction s with
  | nil => rfl
  | cons c r ih =>
    rw [if_neg (List.cons_ne_nil c r)]
    by_cases hr : r = []
    · subst hr
      by_cases hc : c = 10 <;> simp [hc, cutB, lines]
    · rw [if_neg hr] at ih
      have hg : (c :: r).getLast? = r.getLast? := by
        cases r with
        | nil => exact absurd rfl hr
        | cons x y => exact List.getLast?_cons_cons
      rw [hg]
      have hl : lines r ≠ [] := by
        cases r with
        | nil => exact absurd rfl hr
        | cons x y =>
          unfold lines
          split
          · simp
          · split <;> simp
      by_cases hc : c = 10
      · simp only [cutB, lines, if_pos hc, ih]
        split <;> simp
      · simp only [cutB, lines, if_neg hc]
        by_cases h10 : r.getLast? = some 10
        · rw [if_pos h10] at ih
          simp only [ih, if_pos h10]
          cases hL : lines r with
          | nil => exact absurd hL hl
          | cons p ps => simp
        · rw [if_neg h10] at ih
          simp only [ih, if_neg h10]
          cases lines r <;> rfl
theorem lines_ne {s : List UInt8} (h : s ≠ []) : lines s ≠ [] := by
  cases s with
  | nil => exact absurd rfl h
  | cons x y =>
    unfold lines
    split
    · simp
    · split <;> simp
theorem lines_last : ∀ {s : List UInt8}, s ≠ [] → s.getLast? ≠ some 10 → ∃ o l, lines s = o ++ [l] ∧ l ≠ []
  | [], h, _ => absurd rfl h
  | [c], _, h1 => by
    have hc : c ≠ 10 := by simpa using h1
    exact ⟨[], [c], by simp [lines, hc], by simp⟩
  | c :: x :: r, _, h1 => by
    obtain ⟨o, l, e, hl⟩ := lines_last (s := x :: r) (by simp) (by simpa using h1)
    unfold lines
    rw [e]
    by_cases hc : c = 10
    · exact ⟨[] :: o, l, by simp [hc], hl⟩
    · cases o with
      | nil => exact ⟨[], c :: l, by simp [hc], by simp⟩
      | cons p ps => exact ⟨(c :: p) :: ps, l, by simp [hc], hl⟩
theorem lines_of_cut (s : List UInt8) : ∃ o l, cutB 10 s = o ++ [l] ∧ lines s = (if l = [] then o else o ++ [l]) := by
  by_cases hs : s = []
  · subst hs
    exact ⟨[], [], rfl, rfl⟩
  · by_cases h1 : s.getLast? = some 10
    · exact ⟨lines s, [], by rw [cut_lines, if_neg hs, if_pos h1], by simp⟩
    · obtain ⟨o, l, e, hl⟩ := lines_last hs h1
      exact ⟨o, l, by rw [cut_lines, if_neg hs, if_neg h1, e], by rw [if_neg hl, e]⟩
theorem told_len : ∀ (l : List (List UInt8)), (told l).length = (l.map fun x => x.length + 1).sum
  | [] => rfl
  | x :: r => by
    have e : told (x :: r) = x ++ 10 :: told r := by simp [told]
    rw [e, List.length_append, List.length_cons, told_len r, List.map_cons, List.sum_cons]
    omega
theorem told_lines : ∀ (s : List UInt8), told (lines s) = s ∨ told (lines s) = s ++ [10]
  | [] => .inl rfl
  | c :: r => by
    have ih := told_lines r
    unfold lines
    by_cases hc : c = 10
    · rw [if_pos hc]
      have e : told ([] :: lines r) = 10 :: told (lines r) := by simp [told]
      rw [e, hc]
      rcases ih with ih | ih <;> rw [ih] <;> simp
    · rw [if_neg hc]
      cases hL : lines r with
      | nil =>
        have hr : r = [] := Classical.byContradiction fun h => lines_ne h hL
        subst hr
        right
        simp [told]
      | cons p ps =>
        rw [hL] at ih
        have e : told ((c :: p) :: ps) = c :: told (p :: ps) := by simp [told]
        simp only [e]
        rcases ih with ih | ih <;> rw [ih] <;> simp
theorem told_lines_len (s : List UInt8) : s.length ≤ (told (lines s)).length ∧ (told (lines s)).length ≤ s.length + 1 := by
  rcases told_lines s with h | h <;> rw [h] <;> simp
theorem lines_len (s : List UInt8) : (lines s).length ≤ s.length := by
  induction s with
  | nil => simp [lines]
  | cons c r ih =>
    unfold lines
    split
    · simp; omega
    · split
      · simp
      · next h => rw [h] at ih; simp at ih ⊢; omega
theorem mem_le_sum : ∀ {l : List Nat} {n : Nat}, n ∈ l → n ≤ l.sum
  | [], _, h => by simp at h
  | x :: r, n, h => by
    rw [List.sum_cons]
    rcases List.mem_cons.1 h with rfl | h
    · omega
    · have := mem_le_sum h
      omega
theorem line_len {s x : List UInt8} (h : x ∈ lines s) : x.length ≤ s.length := by
  have h1 := told_lines s
  have h2 : x.length + 1 ≤ (told (lines s)).length := by
    rw [told_len]
    have : x.length + 1 ∈ (lines s).map fun x => x.length + 1 := List.mem_map.2 ⟨x, h, rfl⟩
    exact mem_le_sum this
  have := told_lines_len s
  omega
theorem srt_perm (l : List (List UInt8)) : (srt l).Perm l := List.mergeSort_perm _ _
theorem srt_sorted (l : List (List UInt8)) : (srt l).Pairwise (fun x y => x ≤ y) := by
  have := List.pairwise_mergeSort (le := fun (x y : List UInt8) => decide (x ≤ y)) (by intro a b c h1 h2; simp at *; exact List.le_trans h1 h2) (by intro a b; simp; exact List.le_total a b) l
  exact this.imp (by intro a b h; simpa using h)
theorem srt_len (l : List (List UInt8)) : (srt l).length = l.length := (srt_perm l).length_eq
theorem told_perm {l l' : List (List UInt8)} (h : l.Perm l') : (told l).length = (told l').length := by
  rw [told_len, told_len]
  exact (h.map _).sum_nat
theorem told_append (a b : List (List UInt8)) : told (a ++ b) = told a ++ told b := by simp [told]
theorem told_all_len : ∀ (l : List (List UInt8)), (told (all l)).length ≤ (l.map fun x => x.length + 1).sum
  | [] => by simp [all, told]
  | x :: r => by
    have h1 := told_all_len r
    have h2 := (told_lines_len x).2
    have e : all (x :: r) = lines x ++ all r := by simp [all]
    rw [e, told_append]
    simp
    omega
theorem compact_succ (zs : List (List UInt8)) (m : Nat) : compactUpTo zs.toArray (m + 1) = compactUpTo zs.toArray m ++ (if keeps zs.toArray m then [zs.toArray[m]!] else []) := compactUpTo_succ _ m
theorem compact_told_len (zs : List (List UInt8)) : ∀ m, m ≤ zs.length → (told (compactUpTo zs.toArray m)).length ≤ (told (zs.take m)).length
  | 0, _ => by simp [compactUpTo, told]
  | m + 1, h => by
    have ih := compact_told_len zs m (by omega)
    have hm : m < zs.length := by omega
    rw [compact_succ, told_append, List.take_succ_eq_append_getElem hm, told_append]
    simp only [List.length_append]
    split
    · have e : zs.toArray[m]! = zs[m] := by simp [hm]
      rw [e]
      omega
    · simp [told] at ih ⊢
      omega
end Af
end Go.Proofs.YtbgkfmodbofalaaGreatDoor
namespace Go.Proofs.YtbgkfmodbofalaaGreatDoor
open Go.RowKit Go.Shelf Go.Lib
def byteOk (stars : Bool) (c : Nat) : Bool := letter c || (stars && c == 42)
def nameR (stars : Bool) (s : List UInt8) : Bool := !(decide (s = [])) && decide (s.length ≤ 12) && !(decide (s = [46])) && !(decide (s = [46, 46])) && s.all (fun b => byteOk stars b.toNat)
set_option maxRecDepth 100000 in
set_option maxHeartbeats 4000000 in
theorem rname_round (stars : Bool) (bs : ByteArray) (s : List UInt8) (T : Txt bs s) (hs : s.length ≤ 12) (h1 : ¬ s = []) (h3 : ¬ s = [46]) (h4 : ¬ s = [46, 46]) (w : World) :
    Calls Tryz.prog 162 #[.string bs, .bool stars] w fun e w' => e = .returned (.bool (s.all (fun b => byteOk stars b.toNat))) ∧ ∃ q, w' = w.drewN q := by
  have hz := T.size
  have hpos : 0 < s.length := List.length_pos_iff.2 h1
  have c0 : ¬ (bs.size : Int) < 1 := by omega
  have c1 : (bs.size : Int) ≤ 12 := by omega
  have e1 : bs.toList = s := by rw [T.eq, ba_toList]
  have c3 : (bs.toList == [46]) = false := by rw [e1]; simpa using h3
  have c4 : (bs.toList == [46, 46]) = false := by rw [e1]; simpa using h4
  have c0' : (1 : Int) ≤ (bs.size : Int) := by omega
  clear e1 h1 h3 h4
  go_enter Tryz.func162, Tryz.ntmps162
  go_wp2
  go_loopw [5] (fun i wr => ∃ k : Nat, k ≤ s.length ∧ i = .int .i64 k ∧ (s.take k).all (fun b => byteOk stars b.toNat) = true ∧ ∃ q, wr = w.drewN q) (fun i _ => s.length - (intOf i).toNat)
  case atStart => exact ⟨0, by omega, rfl, by simp, 0, rfl⟩
  case round =>
    obtain ⟨k, hk, rfl, hall, q, rfl⟩ := hrel
    have HA : Hid ((s.take k).all (fun b => byteOk stars b.toNat) = true) := hall
    clear hall
    by_cases hlt : k < s.length
    · have hlt2 : k < bs.size := by omega
      obtain ⟨c, hc⟩ : ∃ c : Nat, bs[k].toNat = c := ⟨_, rfl⟩
      have hsk : s[k].toNat = c := by rw [← hc, T.get k hlt hlt2]
      have hok : byteOk stars c = true → (s.take (k + 1)).all (fun b => byteOk stars b.toNat) = true := fun h => by
        rw [List.take_succ_eq_append_getElem hlt, List.all_append, HA.out]; simp [hsk, h]
      have hno : byteOk stars c = false → s.all (fun b => byteOk stars b.toNat) = false := fun h => by
        rw [List.all_eq_false]; exact ⟨s[k], List.getElem_mem hlt, by rw [hsk, h]; simp⟩
      have HOK : Hid (byteOk stars c = true → (s.take (k + 1)).all (fun b => byteOk stars b.toNat) = true) := hok
      have HNO : Hid (byteOk stars c = false → s.all (fun b => byteOk stars b.toNat) = false) := hno
      clear hok hno hsk HA
      by_cases hA : 97 ≤ c ∧ c ≤ 122
      · have a1 : (97 : Int) ≤ (c : Int) := by omega
        have a2 : (c : Int) ≤ 122 := by omega
        have hl : byteOk stars c = true := by simp [byteOk, letter]; omega
        have HK : Hid ((s.take (k + 1)).all (fun b => byteOk stars b.toNat) = true) := HOK.out hl
        clear hl HOK HNO hA
        go_wp2
        exact ⟨⟨k + 1, by omega, by go_num, HK.out, q, rfl⟩, by simp [intOf]; omega⟩
      by_cases hB : 48 ≤ c ∧ c ≤ 57
      · have a0 : ¬ (97 : Int) ≤ (c : Int) := by omega
        have a1 : (48 : Int) ≤ (c : Int) := by omega
        have a2 : (c : Int) ≤ 57 := by omega
        have hl : byteOk stars c = true := by simp [byteOk, letter]; omega
        have HK : Hid ((s.take (k + 1)).all (fun b => byteOk stars b.toNat) = true) := HOK.out hl
        clear hl HOK HNO hA hB
        go_wp2
        exact ⟨⟨k + 1, by omega, by go_num, HK.out, q, rfl⟩, by simp [intOf]; omega⟩
      by_cases h45 : c = 45
      · subst h45
        have HK : Hid ((s.take (k + 1)).all (fun b => byteOk stars b.toNat) = true) := HOK.out (by simp [byteOk, letter])
        clear HOK HNO hA hB
        go_wp2
        exact ⟨⟨k + 1, by omega, by go_num, HK.out, q, rfl⟩, by simp [intOf]; omega⟩
      by_cases h46 : c = 46
      · subst h46
        have HK : Hid ((s.take (k + 1)).all (fun b => byteOk stars b.toNat) = true) := HOK.out (by simp [byteOk, letter])
        clear HOK HNO hA hB
        go_wp2
        exact ⟨⟨k + 1, by omega, by go_num, HK.out, q, rfl⟩, by simp [intOf]; omega⟩
      by_cases h95 : c = 95
      · subst h95
        have HK : Hid ((s.take (k + 1)).all (fun b => byteOk stars b.toNat) = true) := HOK.out (by simp [byteOk, letter])
        clear HOK HNO hA hB
        go_wp2
        exact ⟨⟨k + 1, by omega, by go_num, HK.out, q, rfl⟩, by simp [intOf]; omega⟩
      have b45 : ((c : Int) == 45) = false := by simp; omega
      have b46 : ((c : Int) == 46) = false := by simp; omega
      have b95 : ((c : Int) == 95) = false := by simp; omega
      have hll : letter c = false := by simp [letter]; omega
      cases stars with
      | true =>
        by_cases h42 : c = 42
        · subst h42
          have HK : Hid ((s.take (k + 1)).all (fun b => byteOk true b.toNat) = true) := HOK.out (by simp [byteOk])
          clear HOK HNO hA hB b45 b46 b95 hll h45 h46 h95
          go_wp2
          exact ⟨⟨k + 1, by omega, by go_num, HK.out, q, rfl⟩, by simp [intOf]; omega⟩
        · have b42 : ((c : Int) == 42) = false := by simp; omega
          have HK : Hid (s.all (fun b => byteOk true b.toNat) = false) := HNO.out (by simp [byteOk, hll, h42])
          have hr : (97 ≤ c ∧ 122 < c) ∨ (c < 97 ∧ 48 ≤ c ∧ 57 < c) ∨ c < 48 := by omega
          clear HOK HNO hA hB hll h45 h46 h95 h42
          rcases hr with ⟨r1, r2⟩ | ⟨r1, r2, r3⟩ | r1
          · have d1 : (97 : Int) ≤ (c : Int) := by omega
            have d2 : decide ((c : Int) ≤ 122) = false := by simp; omega
            have d3 : (48 : Int) ≤ (c : Int) := by omega
            have d4 : decide ((c : Int) ≤ 57) = false := by simp; omega
            go_wp2
            go_ret
            exact ⟨ret_bool HK.out.symm, q, rfl⟩
          · have d1 : decide ((97 : Int) ≤ (c : Int)) = false := by simp; omega
            have d3 : (48 : Int) ≤ (c : Int) := by omega
            have d4 : decide ((c : Int) ≤ 57) = false := by simp; omega
            go_wp2
            go_ret
            exact ⟨ret_bool HK.out.symm, q, rfl⟩
          · have d1 : decide ((97 : Int) ≤ (c : Int)) = false := by simp; omega
            have d3 : decide ((48 : Int) ≤ (c : Int)) = false := by simp; omega
            go_wp2
            go_ret
            exact ⟨ret_bool HK.out.symm, q, rfl⟩
      | false =>
        have HK : Hid (s.all (fun b => byteOk false b.toNat) = false) := HNO.out (by simp [byteOk, hll])
        have hr : (97 ≤ c ∧ 122 < c) ∨ (c < 97 ∧ 48 ≤ c ∧ 57 < c) ∨ c < 48 := by omega
        clear HOK HNO hA hB hll h45 h46 h95
        rcases hr with ⟨r1, r2⟩ | ⟨r1, r2, r3⟩ | r1
        · have d1 : (97 : Int) ≤ (c : Int) := by omega
          have d2 : decide ((c : Int) ≤ 122) = false := by simp; omega
          have d3 : (48 : Int) ≤ (c : Int) := by omega
          have d4 : decide ((c : Int) ≤ 57) = false := by simp; omega
          go_wp2
          go_ret
          exact ⟨ret_bool HK.out.symm, q, rfl⟩
        · have d1 : decide ((97 : Int) ≤ (c : Int)) = false := by simp; omega
          have d3 : (48 : Int) ≤ (c : Int) := by omega
          have d4 : decide ((c : Int) ≤ 57) = false := by simp; omega
          go_wp2
          go_ret
          exact ⟨ret_bool HK.out.symm, q, rfl⟩
        · have d1 : decide ((97 : Int) ≤ (c : Int)) = false := by simp; omega
          have d3 : decide ((48 : Int) ≤ (c : Int)) = false := by simp; omega
          go_wp2
          go_ret
          exact ⟨ret_bool HK.out.symm, q, rfl⟩
    · have hge : (bs.size : Int) ≤ (k : Int) := by omega
      have HK : Hid (s.all (fun b => byteOk stars b.toNat) = true) := by
        have := HA.out
        rw [List.take_of_length_le (by omega)] at this
        exact this
      clear HA
      go_wp2
      go_ret
      exact ⟨ret_bool HK.out.symm, q, rfl⟩
end Go.Proofs.YtbgkfmodbofalaaGreatDoor
namespace Go.Proofs.YtbgkfmodbofalaaGreatDoor
open Go.RowKit Go.Shelf Go.Lib
theorem decode_high (s : ByteArray) (i : Nat) (h : 128 ≤ (s.get! i).toNat) : 128 ≤ (Utf8.decode s i).1 := by
  unfold Utf8.decode
  simp only [Nat.add_zero]
  rw [if_neg (by omega)]
  have hr : 128 ≤ Utf8.runeError := by decide
  split
  · split
    · simpa using ‹_›
    · exact hr
  · split
    · split
      · rename_i h2
        simp at h2
        simp only
        omega
      · exact hr
    · split
      · split
        · rename_i h2
          simp at h2
          simp only
          omega
        · exact hr
      · exact hr
theorem decode_low (s : ByteArray) (i : Nat) (h : (s.get! i).toNat < 128) : Utf8.decode s i = ((s.get! i).toNat, 1) := by
  unfold Utf8.decode
  simp only [Nat.add_zero]
  rw [if_pos (by omega)]
theorem idx_bytes (p : Nat → Bool) (hp : ∀ x, 128 ≤ x → p x = false) (l : List UInt8) : ∀ (f pos : Nat), l.length ≤ pos + f →
    (decide (0 ≤ Lib.idxFuncFrom (fun x => !p x) true (ba l) f pos) = !((l.drop pos).all (fun b => p b.toNat)))
  | 0, pos, h => by
    simp [Lib.idxFuncFrom, List.drop_of_length_le (show l.length ≤ pos by omega)]
  | f + 1, pos, h => by
    unfold Lib.idxFuncFrom
    have hz := ba_size l
    by_cases hlt : pos < l.length
    · rw [if_pos (by rw [hz]; exact hlt)]
      have hget : ((ba l).get! pos) = l[pos] := by
        show (l.toArray)[pos]! = _
        rw [getElem!_pos _ _ (by simpa using hlt)]
        simp
      rw [List.drop_eq_getElem_cons hlt, List.all_cons]
      by_cases hc : l[pos].toNat < 128
      · rw [decode_low _ _ (by rw [hget]; exact hc), hget]
        simp only
        cases hpc : p l[pos].toNat with
        | true =>
          simp only [Bool.not_true, Bool.false_eq_true, if_false, Bool.true_and]
          exact idx_bytes p hp l f (pos + 1) (by omega)
        | false => simp
      · have h1 := decode_high (ba l) pos (by rw [hget]; omega)
        rw [hp _ h1, hp l[pos].toNat (by omega)]
        simp
    · rw [if_neg (by rw [hz]; exact hlt), List.drop_of_length_le (by omega)]
      simp
theorem letter_high (x : Nat) (h : 128 ≤ x) : letter x = false := by simp [letter]; omega
end Go.Proofs.YtbgkfmodbofalaaGreatDoor
