import Derived.Test.YtmhipgompplkdaaGreatDoorWL07
import Derived.Test.YtmhipgompplkdaaGreatDoorWL19
import Derived.Laws.AppendOwnNone
import Derived.Test.YtmhipgompplkdaaGreatDoorWL10
import Derived.Test.YtmhipgompplkdaaGreatDoorWL08
namespace Go.Proofs.YtmhipgompplkdaaGreatDoor
open Go.RowKit Go.Shelf Go.Lib
namespace Ru
inductive Walk (l : List Ru) : Nat → Nat → Nat → Prop
  | zero (i : Nat) : Walk l i i 0
  | step {i j k t : Nat} : needs l i j = true → Walk l j k t → Walk l i k (t + 1)
theorem Walk.trans {l : List Ru} {i j k s t : Nat} (h : Walk l i j s) (h' : Walk l j k t) : Walk l i k (s + t) := by
  induction h with
  | zero i => rw [Nat.zero_add]; exact h'
  | step hn _ ih => rw [Nat.add_right_comm]; exact .step hn (ih h')
theorem Walk.one {l : List Ru} {i k : Nat} (h : needs l i k = true) : Walk l i k 1 := .step h (.zero k)
theorem Walk.inv {l : List Ru} {i k t : Nat} (h : Walk l i k (t + 1)) : ∃ j, needs l i j = true ∧ Walk l j k t := by
  cases h with
  | step hn hw => exact ⟨_, hn, hw⟩
theorem Walk.last {l : List Ru} {i k t : Nat} (h : Walk l i k (t + 1)) : ∃ j, Walk l i j t ∧ needs l j k = true := by
  induction t generalizing i with
  | zero =>
    obtain ⟨j, hn, hw⟩ := h.inv
    cases hw
    exact ⟨i, .zero i, hn⟩
  | succ t ih =>
    obtain ⟨j, hn, hw⟩ := h.inv
    obtain ⟨m, h1, h2⟩ := ih hw
    exact ⟨m, .step hn h1, h2⟩
theorem Walk.lt {l : List Ru} {i k t : Nat} (h : Walk l i k (t + 1)) : i < l.length ∧ k < l.length := by
  obtain ⟨j, hn, _⟩ := h.inv
  obtain ⟨m, _, hm⟩ := h.last
  exact ⟨(needs_lt hn).1, (needs_lt hm).2⟩
def Dist (l : List Ru) (i k t : Nat) : Prop := 1 ≤ t ∧ Walk l i k t ∧ ∀ s, 1 ≤ s → Walk l i k s → t ≤ s
theorem Dist.unique {l : List Ru} {i k s t : Nat} (h : Dist l i k s) (h' : Dist l i k t) : s = t :=
  Nat.le_antisymm (h.2.2 t h'.1 h'.2.1) (h'.2.2 s h.1 h.2.1)
theorem pigeon {n : Nat} {g : Nat → Nat} (h : ∀ t, t ≤ n → g t < n) : ∃ a b, a < b ∧ b ≤ n ∧ g a = g b := by
  refine Classical.byContradiction fun hno => ?_
  have hd : ((List.range (n + 1)).map g).Nodup := by
    rw [List.nodup_iff_pairwise_ne, List.pairwise_map]
    refine List.Pairwise.imp_of_mem ?_ List.pairwise_lt_range
    intro a b _ hb hab e
    exact hno ⟨a, b, hab, by have := List.mem_range.1 hb; omega, e⟩
  have := len_le (n := n) hd (fun i hi => by
    obtain ⟨t, ht, rfl⟩ := List.mem_map.1 hi
    exact h t (by have := List.mem_range.1 ht; omega))
  simp at this
  omega
theorem Dist.first {l : List Ru} {i k t : Nat} (h : Dist l i k (t + 2)) : ∃ j, needs l i j = true ∧ Dist l j k (t + 1) := by
  obtain ⟨j, hn, hw⟩ := h.2.1.inv
  refine ⟨j, hn, by omega, hw, fun s hs hws => ?_⟩
  have := h.2.2 (s + 1) (by omega) (.step hn hws)
  omega
structure IsCycle (l : List Ru) (c : List Nat) : Prop where
  none : c = [] → ∀ i t, ¬ Walk l i i (t + 1)
  first : ∀ (h : 0 < c.length), (∀ j t, j < c[0] → ¬ Walk l j j (t + 1)) ∧ Dist l c[0] c[0] c.length
  next : ∀ j (h : j + 1 < c.length), needs l c[j] c[j + 1] = true ∧ Dist l c[j + 1] c[0] (c.length - 1 - j) ∧ ∀ k, k < c[j + 1] → ¬ (needs l c[j] k = true ∧ Dist l k c[0] (c.length - 1 - j))
theorem IsCycle.lt {l : List Ru} {c : List Nat} (h : IsCycle l c) (j : Nat) (hj : j < c.length) : c[j] < l.length := by
  cases j with
  | zero =>
    have := (h.first hj).2
    obtain ⟨t, ht⟩ : ∃ t, c.length = t + 1 := ⟨c.length - 1, by omega⟩
    have hw := this.2.1
    rw [ht] at hw
    exact hw.lt.1
  | succ j => exact (needs_lt (h.next j hj).1).2
theorem IsCycle.round {l : List Ru} {c : List Nat} (h : IsCycle l c) (j : Nat) (hj : j < c.length) : needs l c[j] (c[(j + 1) % c.length]'(Nat.mod_lt _ (by omega))) = true := by
  by_cases hlt : j + 1 < c.length
  · simp only [Nat.mod_eq_of_lt hlt]
    exact (h.next j hlt).1
  · have e : j + 1 = c.length := by omega
    simp only [e, Nat.mod_self]
    have hd : Dist l c[j] (c[0]'(by omega)) 1 := by
      cases j with
      | zero =>
        have := (h.first hj).2
        rw [← e] at this
        exact this
      | succ i =>
        have := (h.next i hj).2.1
        rw [show c.length - 1 - i = 1 by omega] at this
        exact this
    obtain ⟨m, hn, hw⟩ := Walk.inv hd.2.1
    cases hw
    exact hn
theorem IsCycle.unique {l : List Ru} {c c' : List Nat} (h : IsCycle l c) (h' : IsCycle l c') : c = c' := by
  by_cases e : c = []
  · subst e
    by_cases e' : c' = []
    · exact e'.symm
    · have hp : 0 < c'.length := List.length_pos_iff.2 e'
      have hd := (h'.first hp).2
      obtain ⟨t, ht⟩ : ∃ t, c'.length = t + 1 := ⟨c'.length - 1, by omega⟩
      have hw := hd.2.1
      rw [ht] at hw
      exact absurd hw (h.none rfl _ _)
  · have hp : 0 < c.length := List.length_pos_iff.2 e
    have hd := (h.first hp).2
    by_cases e' : c' = []
    · obtain ⟨t, ht⟩ : ∃ t, c.length = t + 1 := ⟨c.length - 1, by omega⟩
      have hw := hd.2.1
      rw [ht] at hw
      exact absurd hw (h'.none e' _ _)
    · have hp' : 0 < c'.length := List.length_pos_iff.2 e'
      have hd' := (h'.first hp').2
      have h0 : c[0] = c'[0] := by
        rcases Nat.lt_trichotomy c[0] c'[0] with h1 | h1 | h1
        · obtain ⟨t, ht⟩ : ∃ t, c.length = t + 1 := ⟨c.length - 1, by omega⟩
          have hw := hd.2.1
          rw [ht] at hw
          exact absurd hw ((h'.first hp').1 _ t h1)
        · exact h1
        · obtain ⟨t, ht⟩ : ∃ t, c'.length = t + 1 := ⟨c'.length - 1, by omega⟩
          have hw := hd'.2.1
          rw [ht] at hw
          exact absurd hw ((h.first hp).1 _ t h1)
      have hlen : c.length = c'.length := by
        rw [h0] at hd
        exact hd.unique hd'
      have all : ∀ j (hj : j < c.length), c[j] = c'[j]'(by omega) := by
        intro j
        induction j with
        | zero => intro _; exact h0
        | succ j ih =>
          intro hj
          have hj' : j + 1 < c'.length := by omega
          have e1 := ih (by omega)
          obtain ⟨a1, a2, a3⟩ := h.next j hj
          obtain ⟨b1, b2, b3⟩ := h'.next j hj'
          rw [e1] at a1 a3
          rw [h0, hlen] at a2
          rw [h0] at a3
          rcases Nat.lt_trichotomy c[j + 1] c'[j + 1] with h1 | h1 | h1
          · exact absurd ⟨a1, a2⟩ (b3 _ h1)
          · exact h1
          · exact absurd ⟨b1, by rw [show c.length - 1 - j = c'.length - 1 - j by rw [hlen]]; exact b2⟩ (a3 _ h1)
      exact List.ext_getElem hlen fun j h1 _ => all j h1
def Topo (l : List Ru) (o : List Nat) : Prop := ∀ j (hj : j < o.length) k, needs l o[j] k = true → k ∈ o.take j
theorem orderF_some {l : List Ru} {some : Nat → Bool} : ∀ {f : Nat} {o r : List Nat}, orderF l some f o = Option.some r → Topo l o → Topo l r ∧ ∀ i, i < l.length → some i = true → i ∈ r
  | 0, _, _, h, _ => by cases h
  | f + 1, o, r, h, ht => by
    unfold orderF at h
    split at h
    · split at h
      · cases h
      · rename_i i hi
        refine orderF_some h ?_
        have hm := (nextTo_some hi).2
        simp only [may, Bool.and_eq_true, freeTo, List.all_eq_true, Bool.or_eq_true, Bool.not_eq_true'] at hm
        intro j hj k hn
        rw [List.length_append, List.length_singleton] at hj
        by_cases e : j < o.length
        · rw [List.getElem_append_left e] at hn
          rw [List.take_append_of_le_length (by omega)]
          exact ht j e k hn
        · obtain rfl : j = o.length := by omega
          rw [List.getElem_append_right (Nat.le_refl _)] at hn
          simp only [Nat.sub_self, List.getElem_cons_zero] at hn
          rw [List.take_append_of_le_length (Nat.le_refl _), List.take_length]
          rcases hm.2 k (List.mem_range.2 (needs_lt hn).2) with h1 | h1
          · simpa [isIn] using h1
          · rw [hn] at h1
            cases h1
    · rename_i hl
      cases h
      refine ⟨ht, fun i hi hs => ?_⟩
      simp only [leftTo, List.any_eq_true, Bool.and_eq_true, Bool.not_eq_true'] at hl
      refine Classical.byContradiction fun hno => hl ⟨i, List.mem_range.2 hi, hs, ?_⟩
      simpa [isIn] using hno
theorem order_some {l : List Ru} {some : Nat → Bool} {o : List Nat} (h : order l some = Option.some o) : Topo l o ∧ ∀ i, i < l.length → some i = true → i ∈ o :=
  orderF_some h fun j hj => by simp at hj
theorem orderF_nodup {l : List Ru} {some : Nat → Bool} : ∀ {f : Nat} {o r : List Nat}, orderF l some f o = Option.some r → o.Nodup → (∀ i ∈ o, i < l.length) → r.Nodup ∧ ∀ i ∈ r, i < l.length
  | 0, _, _, h, _, _ => by cases h
  | f + 1, o, r, h, hd, hb => by
    unfold orderF at h
    split at h
    · split at h
      · cases h
      · rename_i i hi
        obtain ⟨hil, hm⟩ := nextTo_some hi
        have hio : i ∉ o := by
          simp only [may, Bool.and_eq_true, Bool.not_eq_true', isIn, decide_eq_false_iff_not] at hm
          exact hm.1.2
        refine orderF_nodup h ?_ ?_
        · rw [List.nodup_append]
          exact ⟨hd, by simp, fun a ha b hb => by
            rw [List.mem_singleton.1 hb]
            rintro rfl
            exact hio ha⟩
        · intro j hj
          rcases List.mem_append.1 hj with h1 | h1
          · exact hb j h1
          · rw [List.mem_singleton.1 h1]; exact hil
    · cases h
      exact ⟨hd, hb⟩
theorem order_nodup {l : List Ru} {some : Nat → Bool} {o : List Nat} (h : order l some = Option.some o) : o.Nodup ∧ ∀ i ∈ o, i < l.length :=
  orderF_nodup h List.nodup_nil (by simp)
theorem nodup_sub {α : Type} [DecidableEq α] {a : List α} : ∀ {b : List α}, a.Nodup → a ⊆ b → a.length ≤ b.length := by
  induction a with
  | nil => intro b _ _; simp
  | cons x r ih =>
    intro b hd hs
    obtain ⟨hx, hr⟩ := List.nodup_cons.1 hd
    have hxb : x ∈ b := hs (by simp)
    have := ih (b := b.erase x) hr fun y hy => by
      have hne : y ≠ x := fun e => hx (e ▸ hy)
      exact (List.mem_erase_of_ne hne).2 (hs (List.mem_cons_of_mem _ hy))
    rw [List.length_erase_of_mem hxb] at this
    have hp := List.length_pos_of_mem hxb
    simp
    omega
theorem order_len {l : List Ru} {o : List Nat} (h : order l (fun _ => true) = Option.some o) : o.length = l.length := by
  obtain ⟨h1, h2⟩ := order_nodup h
  refine Nat.le_antisymm (len_le h1 h2) ?_
  have := nodup_sub (a := List.range l.length) (b := o) List.nodup_range fun i hi => (order_some h).2 i (List.mem_range.1 hi) rfl
  simpa using this
theorem Topo.none {l : List Ru} {o : List Nat} (h : Topo l o) (i t : Nat) (hi : i ∈ o) : ¬ Walk l i i (t + 1) := by
  have key : ∀ t i j (hj : j < o.length), o[j] = i → ∀ k, Walk l i k (t + 1) → k ∈ o.take j := by
    intro t
    induction t with
    | zero =>
      rintro i j hj rfl k hw
      obtain ⟨m, hn, hw'⟩ := hw.inv
      cases hw'
      exact h j hj _ hn
    | succ t ih =>
      rintro i j hj rfl k hw
      obtain ⟨m, hn, hw'⟩ := hw.inv
      have hm := h j hj m hn
      obtain ⟨q, hq, e⟩ := List.getElem_of_mem hm
      rw [List.getElem_take] at e
      have hqj : q < j := by simp at hq; omega
      exact (List.take_sublist_take_left (Nat.le_of_lt hqj)).subset (ih m q (by omega) e k hw')
  -- the first place of i
  intro hw
  have : ∀ m j (hj : j < o.length), j ≤ m → o[j] = i → False := by
    intro m
    induction m with
    | zero =>
      intro j hj hm e
      obtain rfl : j = 0 := by omega
      have := key t i 0 hj e i hw
      simp at this
    | succ m ih =>
      intro j hj hm e
      have h1 := key t i j hj e i hw
      obtain ⟨q, hq, e'⟩ := List.getElem_of_mem h1
      rw [List.getElem_take] at e'
      exact ih q (by simp at hq; omega) (by simp at hq; omega) e'
  obtain ⟨j, hj, e⟩ := List.getElem_of_mem hi
  exact this j j hj (Nat.le_refl _) e
end Ru
end Go.Proofs.YtmhipgompplkdaaGreatDoor
namespace Go.Proofs.YtmhipgompplkdaaGreatDoor
open Go.RowKit Go.Shelf Go.Lib
def Af.gtB (y x : List UInt8) : Bool := !Op.bytesLess y x && !(y == x)
def Af.Laid (l : List (List UInt8)) (x : List UInt8) (r : List (List UInt8)) : Prop :=
  ∃ k, k ≤ l.length ∧ r = l.take k ++ x :: l.drop k ∧ (∀ j (hj : j < l.length), k ≤ j → Af.gtB l[j] x = true) ∧ (∀ hk : k - 1 < l.length, 0 < k → Af.gtB l[k - 1] x = false)
end Go.Proofs.YtmhipgompplkdaaGreatDoor
namespace Go.Proofs.YtmhipgompplkdaaGreatDoor
open Go.RowKit Go.Shelf Go.Lib
theorem gtB_le {x y : List UInt8} (h : Af.gtB y x = true) : x ≤ y := by
  unfold Af.gtB at h
  simp only [Bool.and_eq_true, Bool.not_eq_true'] at h
  have h1 := h.1
  rw [Tf.less_before] at h1
  refine List.not_lt.1 fun e => ?_
  rw [(Tf.before_lt y x).2 e] at h1
  cases h1
theorem gtB_ge {x y : List UInt8} (h : Af.gtB y x = false) : y ≤ x := by
  unfold Af.gtB at h
  simp only [Bool.and_eq_false_iff, Bool.not_eq_false'] at h
  rcases h with h | h
  · rw [Tf.less_before] at h
    exact List.le_of_lt ((Tf.before_lt y x).1 h)
  · rw [beq_iff_eq.1 h]
    exact List.le_refl _
theorem laid_sorted {l r : List (List UInt8)} {x : List UInt8} (hl : l.Pairwise (fun x y => x ≤ y)) (h : Af.Laid l x r) : r.Pairwise (fun x y => x ≤ y) ∧ r.Perm (l ++ [x]) := by
  obtain ⟨k, hk, rfl, hhi, hlo⟩ := h
  have hd : ∀ b ∈ l.drop k, x ≤ b := by
    intro b hb
    obtain ⟨j, hj, rfl⟩ := List.getElem_of_mem hb
    rw [List.getElem_drop]
    exact gtB_le (hhi (k + j) (by simp at hj; omega) (by omega))
  have ht : ∀ a ∈ l.take k, a ≤ x := by
    intro a ha
    obtain ⟨j, hj, rfl⟩ := List.getElem_of_mem ha
    rw [List.getElem_take]
    have hj' : j < k := by simp at hj; omega
    have h1 := gtB_ge (hlo (by omega) (by omega))
    by_cases e : j = k - 1
    · subst e; exact h1
    · exact List.le_trans (List.pairwise_iff_getElem.1 hl j (k - 1) (by omega) (by omega) (by omega)) h1
  constructor
  · rw [List.pairwise_append, List.pairwise_cons]
    refine ⟨hl.sublist (List.take_sublist k l), ⟨hd, hl.sublist (List.drop_sublist k l)⟩, ?_⟩
    intro a ha b hb
    rcases List.mem_cons.1 hb with rfl | hb
    · exact ht a ha
    · exact List.le_trans (ht a ha) (hd b hb)
  · have : (l.take k ++ x :: l.drop k).Perm (x :: (l.take k ++ l.drop k)) := List.perm_middle
    rw [List.take_append_drop] at this
    exact this.trans (List.perm_append_comm (l₁ := [x]) (l₂ := l))
end Go.Proofs.YtmhipgompplkdaaGreatDoor
namespace Go.Proofs.YtmhipgompplkdaaGreatDoor
open Go.RowKit Go.Shelf Go.Lib
namespace Ru
def Leaf (l : List Ru) (x : List UInt8) : Prop := (∃ y ∈ l, x ∈ y.ins) ∧ ∀ z ∈ l, z.out ≠ x
structure Leaves (l : List Ru) (r : List (List UInt8)) : Prop where
  rises : r.Pairwise (fun x y => x ≤ y)
  once : r.Nodup
  mem : ∀ x, x ∈ r ↔ Leaf l x
theorem Leaves.unique {l : List Ru} {r r' : List (List UInt8)} (h : Leaves l r) (h' : Leaves l r') : r = r' := by
  have hp : r.Perm r' := (List.perm_ext_iff_of_nodup h.once h'.once).2 fun x => (h.mem x).trans (h'.mem x).symm
  refine List.Perm.eq_of_pairwise (le := fun x y : List UInt8 => x ≤ y) ?_ h.rises h'.rises hp
  intro a b _ _ h1 h2
  exact List.le_antisymm h1 h2
end Ru
theorem TRow.irow {w : World} {v : Value} {l : List (List UInt8)} (h : TRow w v l) : IRow w v l := by
  obtain ⟨p, cap, e, _, h1⟩ := h
  refine ⟨p, cap, e, fun hl => ?_⟩
  obtain ⟨g, cur, e, hg, hc⟩ := h1 hl
  exact ⟨g, 0, e, (Array.getElem?_eq_some_iff.1 hg).1, fun j hj => by rw [Nat.zero_add]; exact cell_of_row hg (hc j hj)⟩
theorem leaf_laid_ne {l r : List (List UInt8)} {x : List UInt8} (h : Af.Laid l x r) : r ≠ [] ∧ r.length = l.length + 1 := by
  obtain ⟨k, hk, rfl, _⟩ := h
  constructor
  · simp
  · simp; omega
structure LeafSt (l : List Ru) (i k : Nat) (r : List (List UInt8)) : Prop where
  rises : r.Pairwise (fun x y => x ≤ y)
  once : r.Nodup
  mem : ∀ x, x ∈ r ↔ ((∃ y ∈ l.take i, x ∈ y.ins) ∨ ∃ y, l[i]? = some y ∧ x ∈ y.ins.take k) ∧ ∀ z ∈ l, z.out ≠ x
  few : r.length ≤ i * 12 + k
theorem LeafSt.first (l : List Ru) : LeafSt l 0 0 [] := ⟨List.Pairwise.nil, List.nodup_nil, fun x => by simp, by simp⟩
theorem LeafSt.nextRule {l : List Ru} {i : Nat} {r : List (List UInt8)} (hi : i < l.length) (h12 : l[i].ins.length ≤ 12) (h : LeafSt l i l[i].ins.length r) : LeafSt l (i + 1) 0 r := by
  refine ⟨h.rises, h.once, fun x => ?_, by have := h.few; omega⟩
  rw [h.mem, List.getElem?_eq_getElem hi, List.take_succ_eq_append_getElem hi]
  simp only [Option.some.injEq, List.mem_append, List.mem_singleton, List.take_zero, List.not_mem_nil, and_false, exists_false, or_false]
  constructor
  · rintro ⟨h1, h2⟩
    refine ⟨?_, h2⟩
    rcases h1 with ⟨y, hy, hx⟩ | ⟨y, rfl, hx⟩
    · exact ⟨y, .inl hy, hx⟩
    · exact ⟨_, .inr rfl, List.mem_of_mem_take hx⟩
  · rintro ⟨⟨y, hy, hx⟩, h2⟩
    refine ⟨?_, h2⟩
    rcases hy with hy | rfl
    · exact .inl ⟨y, hy, hx⟩
    · exact .inr ⟨_, rfl, by rwa [List.take_length]⟩
theorem LeafSt.same {l : List Ru} {i k : Nat} {r : List (List UInt8)} (hi : i < l.length) (hk : k < l[i].ins.length) (h : LeafSt l i k r) (hs : l[i].ins[k] ∈ r ∨ ∃ z ∈ l, z.out = l[i].ins[k]) : LeafSt l i (k + 1) r := by
  refine ⟨h.rises, h.once, fun x => ?_, by have := h.few; omega⟩
  rw [h.mem, List.getElem?_eq_getElem hi]
  simp only [Option.some.injEq]
  constructor
  · rintro ⟨h1, h2⟩
    refine ⟨?_, h2⟩
    rcases h1 with h1 | ⟨y, rfl, hx⟩
    · exact .inl h1
    · exact .inr ⟨_, rfl, (List.take_sublist_take_left (Nat.le_succ k)).subset hx⟩
  · rintro ⟨h1, h2⟩
    rcases h1 with h1 | ⟨y, rfl, hx⟩
    · exact ⟨.inl h1, h2⟩
    · rw [List.take_succ_eq_append_getElem hk, List.mem_append, List.mem_singleton] at hx
      rcases hx with hx | rfl
      · exact ⟨.inr ⟨_, rfl, hx⟩, h2⟩
      · rcases hs with hs | ⟨z, hz, e⟩
        · have := (h.mem _).1 hs
          rw [List.getElem?_eq_getElem hi] at this
          simpa only [Option.some.injEq] using this
        · exact absurd e (h2 z hz)
theorem LeafSt.laid {l : List Ru} {i k : Nat} {r r' : List (List UInt8)} (hi : i < l.length) (hk : k < l[i].ins.length) (h : LeafSt l i k r) (hn : l[i].ins[k] ∉ r) (hm : ∀ z ∈ l, z.out ≠ l[i].ins[k]) (hL : Af.Laid r l[i].ins[k] r') : LeafSt l i (k + 1) r' := by
  obtain ⟨h1, h2⟩ := laid_sorted h.rises hL
  refine ⟨h1, ?_, fun x => ?_, by rw [(leaf_laid_ne hL).2]; have := h.few; omega⟩
  · rw [h2.nodup_iff, List.nodup_append]
    exact ⟨h.once, by simp, fun a ha b hb => by
      rw [List.mem_singleton.1 hb]
      rintro rfl
      exact hn ha⟩
  · rw [h2.mem_iff, List.mem_append, List.mem_singleton, h.mem, List.getElem?_eq_getElem hi]
    simp only [Option.some.injEq]
    constructor
    · rintro (⟨h1, h2⟩ | rfl)
      · refine ⟨?_, h2⟩
        rcases h1 with h1 | ⟨y, rfl, hx⟩
        · exact .inl h1
        · exact .inr ⟨_, rfl, (List.take_sublist_take_left (Nat.le_succ k)).subset hx⟩
      · exact ⟨.inr ⟨_, rfl, by rw [List.take_succ_eq_append_getElem hk]; exact List.mem_append_right _ (List.mem_singleton.2 rfl)⟩, hm⟩
    · rintro ⟨h1, h2⟩
      rcases h1 with h1 | ⟨y, rfl, hx⟩
      · exact .inl ⟨.inl h1, h2⟩
      · rw [List.take_succ_eq_append_getElem hk, List.mem_append, List.mem_singleton] at hx
        rcases hx with hx | rfl
        · exact .inl ⟨.inr ⟨_, rfl, hx⟩, h2⟩
        · exact .inr rfl
theorem LeafSt.done {l : List Ru} {r : List (List UInt8)} (h : LeafSt l l.length 0 r) : Ru.Leaves l r :=
  ⟨h.rises, h.once, fun x => by
    rw [h.mem, List.take_length]
    unfold Ru.Leaf
    simp⟩
end Go.Proofs.YtmhipgompplkdaaGreatDoor
namespace Go.Proofs.YtmhipgompplkdaaGreatDoor
open Go.RowKit Go.Shelf Go.Lib
def NIRow (w : World) (v : Value) (l : List Nat) : Prop :=
  ∃ p cap, v = .slice p l.length cap ∧ (l ≠ [] → ∃ g o, p = some ⟨g, o, none⟩ ∧ g < w.heap.size ∧ ∀ j (hj : j < l.length), w.cell? ⟨g, o + j, none⟩ = some (nv l[j]))
theorem NIRow.below {w w' : World} {v : Value} {l : List Nat} (h : NIRow w v l) (hb : Below w.heap.size w w') : NIRow w' v l := by
  obtain ⟨p, cap, e, h1⟩ := h
  refine ⟨p, cap, e, fun hl => ?_⟩
  obtain ⟨g, o, e, hg, hc⟩ := h1 hl
  exact ⟨g, o, e, Nat.lt_of_lt_of_le hg hb.size, fun j hj => (hb.cell (p := ⟨g, o + j, none⟩) hg).trans (hc j hj)⟩
theorem NRow.ni {w : World} {v : Value} {l : List Nat} (h : NRow w v l) : NIRow w v l := by
  obtain ⟨p, cap, e, _, h1⟩ := h
  refine ⟨p, cap, e, fun hl => ?_⟩
  obtain ⟨g, cur, e, hg, hc⟩ := h1 hl
  exact ⟨g, 0, e, (Array.getElem?_eq_some_iff.1 hg).1, fun j hj => by rw [Nat.zero_add]; exact cell_of_row hg (hc j hj)⟩
end Go.Proofs.YtmhipgompplkdaaGreatDoor
namespace Go.Proofs.YtmhipgompplkdaaGreatDoor
open Go.RowKit Go.Shelf Go.Lib
def NoRow (v : Value) : Prop := ∃ p cap, v = .slice p 0 cap
def NeedsTells (es : Nat → Addr) (l : List Ru) (outs : List (List UInt8)) (w : World) (u ev : Value) : Prop :=
  ((Ru.fault l).1 ≠ 0 ∧ ErrV w es ev (Ru.fault l) ∧ NoRow u) ∨
  ((Ru.fault l).1 = 0 ∧ ∃ k, ∃ hk : k < outs.length, (∀ x ∈ l, x.out ≠ outs[k]) ∧ (∀ j (hj : j < outs.length), j < k → ∃ x ∈ l, x.out = outs[j]) ∧ ErrV w es ev (6, (k : Int)) ∧ NoRow u) ∨
  ((Ru.fault l).1 = 0 ∧ (∀ j (hj : j < outs.length), ∃ x ∈ l, x.out = outs[j]) ∧ ev = .nilIface ∧ ∃ f, Ru.Needed l outs f ∧ NIRow w u ((List.range l.length).filter f))
def LeavesTells (es : Nat → Addr) (l : List Ru) (w : World) (u ev : Value) : Prop :=
  ((Ru.fault l).1 ≠ 0 ∧ ErrV w es ev (Ru.fault l) ∧ NoRow u) ∨
  ((Ru.fault l).1 = 0 ∧ ev = .nilIface ∧ ∃ r, Ru.Leaves l r ∧ IRow w u r)
structure GraphW (w : World) (es : Nat → Addr) : Prop where
  s : SheetW w es
  cyc : w.cell? ⟨11, 0, none⟩ = some (erOf es 9)
theorem GraphW.below {w w' : World} {es : Nat → Addr} (h : GraphW w es) (hb : Below w.heap.size w w') : GraphW w' es := ⟨h.s.below hb, cell_below' h.cyc hb⟩
theorem ErrV.some {w : World} {es : Nat → Addr} {v : Value} {f : Nat × Int} (h : ErrV w es v f) (hf : f.1 ≠ 0) : ∃ t u, v = .iface t u := by
  rcases h with ⟨_, rfl, _⟩ | ⟨pb, m, rfl, _⟩
  · obtain ⟨c, n⟩ := f
    cases c with
    | zero => exact absurd rfl hf
    | succ k => exact ⟨_, _, rfl⟩
  · exact ⟨_, _, rfl⟩
end Go.Proofs.YtmhipgompplkdaaGreatDoor
