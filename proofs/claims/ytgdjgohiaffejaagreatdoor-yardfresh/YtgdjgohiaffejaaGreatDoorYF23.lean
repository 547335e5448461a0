import Derived.Test.YtgdjgohiaffejaaGreatDoorYF22
namespace Go.Proofs.YtgdjgohiaffejaaGreatDoor
open Go.RowKit Go.Shelf Go.Lib
namespace Ru
def left (ch : Nat → Bool) (n : Nat) (o : List Nat) : List Nat := (List.range n).filter fun i => ch i && !isIn o i
theorem left_mem {ch : Nat → Bool} {n : Nat} {o : List Nat} {i : Nat} : i ∈ left ch n o ↔ i < n ∧ ch i = true ∧ i ∉ o := by
  unfold left isIn
  simp
theorem left_once (ch : Nat → Bool) (n : Nat) (o : List Nat) : (left ch n o).Nodup := List.Pairwise.filter _ List.nodup_range
theorem left_len (ch : Nat → Bool) (n : Nat) (o : List Nat) : (left ch n o).length ≤ n := by
  have := List.length_filter_le (fun i => ch i && !isIn o i) (List.range n)
  simpa [left] using this
theorem left_nil (ch : Nat → Bool) (n : Nat) : left ch n [] = (List.range n).filter ch := by
  unfold left
  congr 1
  funext i
  simp [isIn]
theorem leftTo_eq (ch : Nat → Bool) (n : Nat) (o : List Nat) : leftTo ch (isIn o) n = true ↔ left ch n o ≠ [] := by
  unfold leftTo left
  rw [List.any_eq_true, ne_eq, List.filter_eq_nil_iff]
  constructor
  · rintro ⟨i, hi, h⟩ hno
    exact hno i hi h
  · intro h
    simp only [Classical.not_forall] at h
    obtain ⟨i, hi, h⟩ := h
    exact ⟨i, hi, by simpa using h⟩
theorem nextTo_eq (ch : Nat → Bool) (l : List Ru) (n : Nat) (o : List Nat) : nextTo l ch (isIn o) n = (left ch n o).find? fun i => freeTo l (isIn o) i l.length := by
  unfold nextTo left
  rw [List.find?_filter]
  congr 1
  funext i
  unfold may
  cases ch i <;> cases isIn o i <;> cases freeTo l (isIn o) i l.length <;> rfl
theorem left_none {ch : Nat → Bool} {l : List Ru} {o : List Nat} {b : Nat → Bool} (hb : ∀ x ∈ left ch l.length o, b x = freeTo l (isIn o) x l.length) (h : ∀ x ∈ left ch l.length o, b x = false) : nextTo l ch (isIn o) l.length = none := by
  rw [nextTo_eq, List.find?_eq_none]
  intro x hx
  rw [← hb x hx, h x hx]
  simp
theorem left_some {ch : Nat → Bool} {l : List Ru} {o : List Nat} {b : Nat → Bool} (hb : ∀ x ∈ left ch l.length o, b x = freeTo l (isIn o) x l.length) {k : Nat} (hk : k < (left ch l.length o).length) (h1 : b (left ch l.length o)[k] = true) (h2 : ∀ x ∈ (left ch l.length o).take k, b x = false) : nextTo l ch (isIn o) l.length = some (left ch l.length o)[k] := by
  rw [nextTo_eq]
  generalize left ch l.length o = r at *
  have e : r = r.take k ++ r[k] :: r.drop (k + 1) := by
    rw [← List.drop_eq_getElem_cons hk, List.take_append_drop]
  have hn : (r.take k).find? (fun i => freeTo l (isIn o) i l.length) = none := by
    rw [List.find?_eq_none]
    intro x hx
    rw [← hb x (List.mem_of_mem_take hx), h2 x hx]
    simp
  have hm : freeTo l (isIn o) r[k] l.length = true := by rw [← hb _ (List.getElem_mem hk)]; exact h1
  generalize r[k] = y at *
  rw [e, List.find?_append, hn, List.find?_cons_of_pos (by simpa using hm)]
  rfl
theorem left_del {ch : Nat → Bool} {n : Nat} {o : List Nat} {k : Nat} (hk : k < (left ch n o).length) : (left ch n o).take k ++ (left ch n o).drop (k + 1) = left ch n (o ++ [(left ch n o)[k]]) := by
  have hd := left_once ch n o
  have e : left ch n (o ++ [(left ch n o)[k]]) = (left ch n o).filter fun i => !(i == (left ch n o)[k]) := by
    generalize (left ch n o)[k] = y
    unfold left
    rw [List.filter_filter]
    apply List.filter_congr
    intro i _
    unfold isIn
    by_cases h : i = y
    · subst h; simp
    · simp [h]
  rw [e]
  generalize left ch n o = r at *
  have er : r = r.take k ++ r[k] :: r.drop (k + 1) := by
    rw [← List.drop_eq_getElem_cons hk, List.take_append_drop]
  generalize r[k] = y at *
  rw [er] at hd
  rw [List.nodup_append] at hd
  obtain ⟨h1, h2, h3⟩ := hd
  have h4 := (List.nodup_cons.1 h2).1
  conv => rhs; rw [er]
  rw [List.filter_append, List.filter_cons_of_neg (by simp)]
  congr 1
  · symm
    rw [List.filter_eq_self]
    intro a ha
    have := h3 a ha y (by simp)
    simpa using this
  · symm
    rw [List.filter_eq_self]
    intro a ha
    have : a ≠ y := fun e => h4 (e ▸ ha)
    simpa using this
theorem free_eq {ch : Nat → Bool} {l : List Ru} (hA : Apart l) {o : List Nat} {i : Nat} (hi : i < l.length) (hcl : ∀ k, needs l i k = true → ch k = true) : (!((needL l l[i].ins).any fun y => decide (y ∈ left ch l.length o))) = freeTo l (isIn o) i l.length := by
  rw [Bool.eq_iff_iff]
  unfold freeTo
  simp only [Bool.not_eq_true', List.any_eq_false, decide_eq_true_eq, List.all_eq_true, List.mem_range, Bool.or_eq_true, Bool.not_eq_true']
  constructor
  · intro h k hk
    by_cases hn : needs l i k = true
    · left
      have := h k ((needL_mem hA hi k).2 hn)
      rw [left_mem] at this
      simpa [isIn, hk, hcl k hn] using this
    · right
      simpa using hn
  · intro h k hk hl
    rw [left_mem] at hl
    rcases h k hl.1 with h1 | h1
    · exact hl.2.2 (by simpa [isIn] using h1)
    · rw [(needL_mem hA hi k).1 hk] at h1
      cases h1
theorem ord_step (ch : Nat → Bool) (l : List Ru) {o : List Nat} (hlen : o.length ≤ l.length) : orderF l ch (l.length + 1 - o.length) o = if leftTo ch (isIn o) l.length = true then (match nextTo l ch (isIn o) l.length with | none => none | some i => orderF l ch (l.length - o.length) (o ++ [i])) else some o := by
  rw [show l.length + 1 - o.length = (l.length - o.length) + 1 by omega]
  rfl
theorem ord_done {ch : Nat → Bool} {l : List Ru} {o : List Nat} (h : orderF l ch (l.length + 1 - o.length) o = order l ch) (hlen : o.length ≤ l.length) (hl : left ch l.length o = []) : order l ch = some o := by
  rw [← h, ord_step ch l hlen, if_neg]
  rw [leftTo_eq]
  simpa using hl
theorem ord_none {ch : Nat → Bool} {l : List Ru} {o : List Nat} (h : orderF l ch (l.length + 1 - o.length) o = order l ch) (hlen : o.length ≤ l.length) (hl : left ch l.length o ≠ []) (hn : nextTo l ch (isIn o) l.length = none) : order l ch = none := by
  rw [← h, ord_step ch l hlen, if_pos ((leftTo_eq _ _ _).2 hl), hn]
theorem ord_more {ch : Nat → Bool} {l : List Ru} {o : List Nat} {j : Nat} (h : orderF l ch (l.length + 1 - o.length) o = order l ch) (hlen : o.length ≤ l.length) (hl : left ch l.length o ≠ []) (hn : nextTo l ch (isIn o) l.length = some j) : orderF l ch (l.length + 1 - (o ++ [j]).length) (o ++ [j]) = order l ch := by
  rw [← h, ord_step ch l hlen, if_pos ((leftTo_eq _ _ _).2 hl), hn, List.length_append, List.length_singleton]
  rw [show l.length + 1 - (o.length + 1) = l.length - o.length by omega]
structure Ord (ch : Nat → Bool) (l : List Ru) (o : List Nat) : Prop where
  once : o.Nodup
  lt : ∀ i ∈ o, i < l.length
  ord : orderF l ch (l.length + 1 - o.length) o = order l ch
theorem Ord.first (ch : Nat → Bool) (l : List Ru) : Ord ch l [] := ⟨List.nodup_nil, by simp, rfl⟩
theorem Ord.len {ch : Nat → Bool} {l : List Ru} {o : List Nat} (h : Ord ch l o) : o.length ≤ l.length := len_le h.once h.lt
theorem Ord.more {ch : Nat → Bool} {l : List Ru} {o : List Nat} {b : Nat → Bool} (h : Ord ch l o) (hb : ∀ x ∈ left ch l.length o, b x = freeTo l (isIn o) x l.length) {k : Nat} (hk : k < (left ch l.length o).length) (h1 : b (left ch l.length o)[k] = true) (h2 : ∀ x ∈ (left ch l.length o).take k, b x = false) : Ord ch l (o ++ [(left ch l.length o)[k]]) := by
  have hj := left_mem.1 (List.getElem_mem hk)
  refine ⟨?_, ?_, ord_more h.ord h.len (fun e => by rw [e] at hk; simp at hk) (left_some hb hk h1 h2)⟩
  · rw [List.nodup_append]
    exact ⟨h.once, by simp, fun a ha b hb => by
      rw [List.mem_singleton.1 hb]
      rintro rfl
      exact hj.2.2 ha⟩
  · intro i hi
    rcases List.mem_append.1 hi with h1 | h1
    · exact h.lt i h1
    · rw [List.mem_singleton.1 h1]; exact hj.1
end Ru
end Go.Proofs.YtgdjgohiaffejaaGreatDoor
