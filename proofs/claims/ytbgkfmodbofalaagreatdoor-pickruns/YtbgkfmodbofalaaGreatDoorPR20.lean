import Derived.Test.YtbgkfmodbofalaaGreatDoorPR18
import Derived.Test.YtbgkfmodbofalaaGreatDoorPR19
namespace Go.Proofs.YtbgkfmodbofalaaGreatDoor
section
open Go.RowKit Go.Shelf Go.Lib
namespace Ru
structure NeedA (l : List Ru) (outs : List (List UInt8)) (j : Nat) (r : List Nat) : Prop where
 once : r.Nodup
 lt : ∀ k ∈ r,k < l.length
 mem : ∀ k (hk : k < l.length),k ∈ r ↔ l[k].out ∈ outs.take j
 made : ∀ i (hi : i < outs.length),i < j -> ∃ x ∈ l,x.out = outs[i]
theorem NeedA.first (l : List Ru) (outs : List (List UInt8)) : NeedA l outs 0 [] := ⟨List.nodup_nil,by simp,by simp,fun _ _ h => absurd h (Nat.not_lt_zero _)⟩
theorem NeedA.more {l : List Ru} (hA : Apart l) {outs : List (List UInt8)} {j k : Nat} {r : List Nat} (h : NeedA l outs j r) (hj : j < outs.length) (hm : mkr l outs[j] = some k) : NeedA l outs (j + 1) (withN r k) := by
 obtain ⟨hk,h1,_⟩ := mkr_some hm;refine ⟨Zjg h.once k,fun x hx => ?_,fun x hx => ?_,fun i hi hij => ?_⟩
 ·rcases (Zbm r k x).1 hx with h2 | rfl
  ·exact h.lt x h2
  ·exact hk
 ·rw [Zbm,h.mem x hx,List.take_succ_eq_append_getElem hj,List.mem_append,List.mem_singleton,<- h1];constructor
  ·rintro (h2 | rfl)
   ·exact .inl h2
   ·exact .inr rfl
  ·rintro (h2 | h2)
   ·exact .inl h2
   ·exact .inr (hA x k hx hk h2)
 ·by_cases e : i = j
  ·subst e;exact ⟨l[k],List.getElem_mem hk,h1⟩
  ·exact h.made i hi (by omega)
structure NeedB (l : List Ru) (outs : List (List UInt8)) (r : List Nat) (a m : Nat) : Prop where
 once : r.Nodup
 lt : ∀ k ∈ r,k < l.length
 start : ∀ k,base l outs k = true -> k ∈ r
 sound : ∀ P : Nat -> Prop,(∀ k,base l outs k = true -> P k) -> (∀ i k,P i -> needs l i k = true -> P k) -> ∀ k ∈ r,P k
 past : ∀ (p x : Nat) (hx : x < l.length),p < a -> r[p]? = some x -> ∀ k ∈ needL l l[x].ins,k ∈ r
 now : ∀ (x : Nat) (hx : x < l.length),r[a]? = some x -> ∀ k ∈ (needL l l[x].ins).take m,k ∈ r
theorem NeedA.done {l : List Ru} {outs : List (List UInt8)} {r : List Nat} (h : NeedA l outs outs.length r) : NeedB l outs r 0 0 := by
 have hb : ∀ k,base l outs k = true ↔ k ∈ r := fun k => by
  constructor
  ·intro hk
   have hkl := Zqh hk;rw [base_eq hkl] at hk;rw [h.mem k hkl,List.take_length];simpa using hk
  ·intro hk
   have hkl := h.lt k hk;rw [base_eq hkl];have := (h.mem k hkl).1 hk;rw [List.take_length] at this;simpa using this
 exact ⟨h.once,h.lt,fun k hk => (hb k).1 hk,fun P h1 _ k hk => h1 k ((hb k).2 hk),fun p _ _ hp => absurd hp (Nat.not_lt_zero p),fun _ _ _ k hk => by simp at hk⟩
theorem withN_get {r : List Nat} {k p : Nat} (hp : p < r.length) : (withN r k)[p]? = r[p]? := by
 unfold withN;split
 ·rfl
 ·exact List.getElem?_append_left hp
theorem NeedB.more {l : List Ru} (hA : Apart l) {outs : List (List UInt8)} {r : List Nat} {a m x : Nat} (h : NeedB l outs r a m) (hx : r[a]? = some x) (hxl : x < l.length) (hm : m < (needL l l[x].ins).length) : NeedB l outs (withN r (needL l l[x].ins)[m]) a (m + 1) := by
 have hal : a < r.length := (List.getElem?_eq_some_iff.1 hx).1;have hkm : (needL l l[x].ins)[m] ∈ needL l l[x].ins := List.getElem_mem hm;have hkn := (Zce hA hxl _).1 hkm;generalize hk : (needL l l[x].ins)[m] = k at *;refine ⟨Zjg h.once k,fun y hy => ?_,fun y hy => (Zbm r k y).2 (.inl (h.start y hy)),fun P h1 h2 y hy => ?_,fun p y hyl hp hy z hz => ?_,fun y hyl hy z hz => ?_⟩
 ·rcases (Zbm r k y).1 hy with h2 | rfl
  ·exact h.lt y h2
  ·exact (needs_lt hkn).2
 ·rcases (Zbm r k y).1 hy with h3 | rfl
  ·exact h.sound P h1 h2 y h3
  ·exact h2 x y (h.sound P h1 h2 x (List.mem_of_getElem? hx)) hkn
 ·rw [withN_get (by omega)] at hy
  exact (Zbm r k z).2 (.inl (h.past p y hyl hp hy z hz))
 ·rw [withN_get hal,hx] at hy;cases hy
  rw [List.take_succ_eq_append_getElem hm,List.mem_append,List.mem_singleton,hk] at hz;rcases hz with hz | rfl
  ·exact (Zbm r k z).2 (.inl (h.now x hxl hx z hz))
  ·exact (Zbm r z z).2 (.inr rfl)
theorem NeedB.next {l : List Ru} {outs : List (List UInt8)} {r : List Nat} {a m x : Nat} (h : NeedB l outs r a m) (hx : r[a]? = some x) (hxl : x < l.length) (hm : (needL l l[x].ins).length <= m) : NeedB l outs r (a + 1) 0 := by
 refine ⟨h.once,h.lt,h.start,h.sound,fun p y hyl hp hy k hk => ?_,fun _ _ _ k hk => by simp at hk⟩
 by_cases e : p = a
 ·subst e;rw [hx] at hy;cases hy
  exact h.now x hxl hx k (by rwa [List.take_of_length_le hm])
 ·exact h.past p y hyl (by omega) hy k hk
theorem NeedB.done {l : List Ru} (hA : Apart l) {outs : List (List UInt8)} {r : List Nat} {a m : Nat} (h : NeedB l outs r a m) (ha : r.length <= a) : Needed l outs (isIn r) := by
 refine ⟨fun k hk => by simpa [isIn] using h.start k hk,fun i k hi hn => ?_,fun P h1 h2 k _ hk => h.sound P h1 h2 k (by simpa [isIn] using hk)⟩
 have hir : i ∈ r := by simpa [isIn] using hi
 obtain ⟨p,hp,e⟩ := List.getElem_of_mem hir;have hil := h.lt i hir;have := h.past p i hil (by omega) (by rw [List.getElem?_eq_getElem hp,e]) k ((Zce hA hil k).2 hn)
 simpa [isIn] using this
theorem NeedB.len {l : List Ru} {outs : List (List UInt8)} {r : List Nat} {a m : Nat} (h : NeedB l outs r a m) : r.length <= l.length := len_le h.once h.lt
theorem NeedA.len {l : List Ru} {outs : List (List UInt8)} {r : List Nat} {j : Nat} (h : NeedA l outs j r) : r.length <= l.length := len_le h.once h.lt
end Ru
end
section
open Go.RowKit Go.Shelf Go.Lib
namespace Ru
def left (ch : Nat -> Bool) (n : Nat) (o : List Nat) : List Nat := (List.range n).filter fun i => ch i && !isIn o i
theorem left_mem {ch : Nat -> Bool} {n : Nat} {o : List Nat} {i : Nat} : i ∈ left ch n o ↔ i < n /\ ch i = true /\ i ∉ o := by
 unfold left isIn;simp
theorem Zvz (ch : Nat -> Bool) (n : Nat) (o : List Nat) : (left ch n o).Nodup := List.Pairwise.filter _ List.nodup_range
theorem left_len (ch : Nat -> Bool) (n : Nat) (o : List Nat) : (left ch n o).length <= n := by
 have := List.length_filter_le (fun i => ch i && !isIn o i) (List.range n)
 simpa [left] using this
theorem left_nil (ch : Nat -> Bool) (n : Nat) : left ch n [] = (List.range n).filter ch := by
 unfold left;congr 1
 funext i
 simp [isIn]
theorem Zhi (ch : Nat -> Bool) (n : Nat) (o : List Nat) : leftTo ch (isIn o) n = true ↔ left ch n o ≠ [] := by
 unfold leftTo left;rw [List.any_eq_true,ne_eq,List.filter_eq_nil_iff];constructor
 ·rintro ⟨i,hi,h⟩ hno;exact hno i hi h
 ·intro h
  simp only [Classical.not_forall] at h;obtain ⟨i,hi,h⟩ := h;exact ⟨i,hi,by simpa using h⟩
theorem Zmt (ch : Nat -> Bool) (l : List Ru) (n : Nat) (o : List Nat) : nextTo l ch (isIn o) n = (left ch n o).find? fun i => freeTo l (isIn o) i l.length := by
 unfold nextTo left;rw [List.find?_filter];congr 1
 funext i
 unfold may;cases ch i <;> cases isIn o i <;> cases freeTo l (isIn o) i l.length <;> rfl
theorem left_none {ch : Nat -> Bool} {l : List Ru} {o : List Nat} {b : Nat -> Bool} (hb : ∀ x ∈ left ch l.length o,b x = freeTo l (isIn o) x l.length) (h : ∀ x ∈ left ch l.length o,b x = false) : nextTo l ch (isIn o) l.length = none := by
 rw [Zmt,List.find?_eq_none];intro x hx
 rw [<- hb x hx,h x hx];simp
theorem Zvy {ch : Nat -> Bool} {l : List Ru} {o : List Nat} {b : Nat -> Bool} (hb : ∀ x ∈ left ch l.length o,b x = freeTo l (isIn o) x l.length) {k : Nat} (hk : k < (left ch l.length o).length) (h1 : b (left ch l.length o)[k] = true) (h2 : ∀ x ∈ (left ch l.length o).take k,b x = false) : nextTo l ch (isIn o) l.length = some (left ch l.length o)[k] := by
 rw [Zmt];generalize left ch l.length o = r at *;have e : r = r.take k ++ r[k] :: r.drop (k + 1) := by
  rw [<- List.drop_eq_getElem_cons hk,List.take_append_drop]
 have hn : (r.take k).find? (fun i => freeTo l (isIn o) i l.length) = none := by
  rw [List.find?_eq_none];intro x hx
  rw [<- hb x (List.mem_of_mem_take hx),h2 x hx];simp
 have hm : freeTo l (isIn o) r[k] l.length = true := by rw [<- hb _ (List.getElem_mem hk)];exact h1
 generalize r[k] = y at *;rw [e,List.find?_append,hn,List.find?_cons_of_pos (by simpa using hm)]
 rfl
theorem left_del {ch : Nat -> Bool} {n : Nat} {o : List Nat} {k : Nat} (hk : k < (left ch n o).length) : (left ch n o).take k ++ (left ch n o).drop (k + 1) = left ch n (o ++ [(left ch n o)[k]]) := by
 have hd := Zvz ch n o;have e : left ch n (o ++ [(left ch n o)[k]]) = (left ch n o).filter fun i => !(i == (left ch n o)[k]) := by
  generalize (left ch n o)[k] = y;unfold left;rw [List.filter_filter];apply List.filter_congr
  intro i _
  unfold isIn;by_cases h : i = y
  ·subst h;simp
  ·simp [h]
 rw [e];generalize left ch n o = r at *;have er : r = r.take k ++ r[k] :: r.drop (k + 1) := by
  rw [<- List.drop_eq_getElem_cons hk,List.take_append_drop]
 generalize r[k] = y at *;rw [er] at hd;rw [List.nodup_append] at hd;obtain ⟨h1,h2,h3⟩ := hd;have h4 := (List.nodup_cons.1 h2).1;conv => rhs;rw [er]
 rw [List.filter_append,List.filter_cons_of_neg (by simp)]
 congr 1
 ·symm
  rw [List.filter_eq_self];intro a ha
  have := h3 a ha y (by simp)
  simpa using this
 ·symm
  rw [List.filter_eq_self];intro a ha
  have : a ≠ y := fun e => h4 (e ▸ ha)
  simpa using this
theorem free_eq {ch : Nat -> Bool} {l : List Ru} (hA : Apart l) {o : List Nat} {i : Nat} (hi : i < l.length) (hcl : ∀ k,needs l i k = true -> ch k = true) : (!((needL l l[i].ins).any fun y => decide (y ∈ left ch l.length o))) = freeTo l (isIn o) i l.length := by
 rw [Bool.eq_iff_iff];unfold freeTo;simp only [Bool.not_eq_true',List.any_eq_false,decide_eq_true_eq,List.all_eq_true,List.mem_range,Bool.or_eq_true,Bool.not_eq_true'];constructor
 ·intro h k hk
  by_cases hn : needs l i k = true
  ·left
   have := h k ((Zce hA hi k).2 hn);rw [left_mem] at this;simpa [isIn,hk,hcl k hn] using this
  ·right
   simpa using hn
 ·intro h k hk hl
  rw [left_mem] at hl;rcases h k hl.1 with h1 | h1
  ·exact hl.2.2 (by simpa [isIn] using h1)
  ·rw [(Zce hA hi k).1 hk] at h1;cases h1
theorem Zks (ch : Nat -> Bool) (l : List Ru) {o : List Nat} (hlen : o.length <= l.length) : orderF l ch (l.length + 1 - o.length) o = if leftTo ch (isIn o) l.length = true then (match nextTo l ch (isIn o) l.length with | none => none | some i => orderF l ch (l.length - o.length) (o ++ [i])) else some o := by
 rw [show l.length + 1 - o.length = (l.length - o.length) + 1 by omega]
 rfl
theorem ord_done {ch : Nat -> Bool} {l : List Ru} {o : List Nat} (h : orderF l ch (l.length + 1 - o.length) o = order l ch) (hlen : o.length <= l.length) (hl : left ch l.length o = []) : order l ch = some o := by
 rw [<- h,Zks ch l hlen,if_neg];rw [Zhi];simpa using hl
theorem ord_none {ch : Nat -> Bool} {l : List Ru} {o : List Nat} (h : orderF l ch (l.length + 1 - o.length) o = order l ch) (hlen : o.length <= l.length) (hl : left ch l.length o ≠ []) (hn : nextTo l ch (isIn o) l.length = none) : order l ch = none := by
 rw [<- h,Zks ch l hlen,if_pos ((Zhi _ _ _).2 hl),hn]
theorem Zxu {ch : Nat -> Bool} {l : List Ru} {o : List Nat} {j : Nat} (h : orderF l ch (l.length + 1 - o.length) o = order l ch) (hlen : o.length <= l.length) (hl : left ch l.length o ≠ []) (hn : nextTo l ch (isIn o) l.length = some j) : orderF l ch (l.length + 1 - (o ++ [j]).length) (o ++ [j]) = order l ch := by
 rw [<- h,Zks ch l hlen,if_pos ((Zhi _ _ _).2 hl),hn,List.length_append,List.length_singleton];rw [show l.length + 1 - (o.length + 1) = l.length - o.length by omega]
structure Ord (ch : Nat -> Bool) (l : List Ru) (o : List Nat) : Prop where
 once : o.Nodup
 lt : ∀ i ∈ o,i < l.length
 ord : orderF l ch (l.length + 1 - o.length) o = order l ch
theorem Ord.first (ch : Nat -> Bool) (l : List Ru) : Ord ch l [] := ⟨List.nodup_nil,by simp,rfl⟩
theorem Ord.len {ch : Nat -> Bool} {l : List Ru} {o : List Nat} (h : Ord ch l o) : o.length <= l.length := len_le h.once h.lt
theorem Ord.more {ch : Nat -> Bool} {l : List Ru} {o : List Nat} {b : Nat -> Bool} (h : Ord ch l o) (hb : ∀ x ∈ left ch l.length o,b x = freeTo l (isIn o) x l.length) {k : Nat} (hk : k < (left ch l.length o).length) (h1 : b (left ch l.length o)[k] = true) (h2 : ∀ x ∈ (left ch l.length o).take k,b x = false) : Ord ch l (o ++ [(left ch l.length o)[k]]) := by
 have hj := left_mem.1 (List.getElem_mem hk);refine ⟨?_,?_,Zxu h.ord h.len (fun e => by rw [e] at hk;simp at hk) (Zvy hb hk h1 h2)⟩
 ·rw [List.nodup_append];exact ⟨h.once,by simp,fun a ha b hb => by
   rw [List.mem_singleton.1 hb];rintro rfl;exact hj.2.2 ha⟩
 ·intro i hi
  rcases List.mem_append.1 hi with h1 | h1
  ·exact h.lt i h1
  ·rw [List.mem_singleton.1 h1];exact hj.1
end Ru
end
end Go.Proofs.YtbgkfmodbofalaaGreatDoor
