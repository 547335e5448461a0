import Derived.Test.YtdljhggillgpfaaGreatDoorSR27
namespace Go.Proofs.YtdljhggillgpfaaGreatDoor
open Go.RowKit Go.Shelf Go.Lib
namespace Ru
structure NeedA (l : List Ru) (outs : List (List UInt8)) (j : Nat) (r : List Nat) : Prop where
 once : r.Nodup
 lt : ∀ k ∈ r,k < l.length
 mem : ∀ k (hk : k < l.length),k ∈ r ↔ l[k].out ∈ outs.take j
 made : ∀ i (hi : i < outs.length),i < j → ∃ x ∈ l,x.out = outs[i]
theorem NeedA.first (l : List Ru) (outs : List (List UInt8)) : NeedA l outs 0 [] := ⟨List.nodup_nil,by simp,by simp,fun _ _ h => absurd h (Nat.not_lt_zero _)⟩
theorem NeedA.more {l : List Ru} (hA : Apart l) {outs : List (List UInt8)} {j k : Nat} {r : List Nat} (h : NeedA l outs j r) (hj : j < outs.length) (hm : mkr l outs[j] = some k) : NeedA l outs (j + 1) (withN r k) := by
 obtain ⟨hk,h1,_⟩ := mkr_some hm
 refine ⟨withN_once h.once k,fun x hx => ?_,fun x hx => ?_,fun i hi hij => ?_⟩
 ·rcases (withN_mem r k x).1 hx with h2 | rfl
  ·exact h.lt x h2
  ·exact hk
 ·rw [withN_mem,h.mem x hx,List.take_succ_eq_append_getElem hj,List.mem_append,List.mem_singleton,← h1]
  constructor
  ·rintro (h2 | rfl)
   ·exact .inl h2
   ·exact .inr rfl
  ·rintro (h2 | h2)
   ·exact .inl h2
   ·exact .inr (hA x k hx hk h2)
 ·by_cases e : i = j
  ·subst e
   exact ⟨l[k],List.getElem_mem hk,h1⟩
  ·exact h.made i hi (by omega)
structure NeedB (l : List Ru) (outs : List (List UInt8)) (r : List Nat) (a m : Nat) : Prop where
 once : r.Nodup
 lt : ∀ k ∈ r,k < l.length
 start : ∀ k,base l outs k = true → k ∈ r
 sound : ∀ P : Nat → Prop,(∀ k,base l outs k = true → P k) → (∀ i k,P i → needs l i k = true → P k) → ∀ k ∈ r,P k
 past : ∀ (p x : Nat) (hx : x < l.length),p < a → r[p]? = some x → ∀ k ∈ needL l l[x].ins,k ∈ r
 now : ∀ (x : Nat) (hx : x < l.length),r[a]? = some x → ∀ k ∈ (needL l l[x].ins).take m,k ∈ r
theorem NeedA.done {l : List Ru} {outs : List (List UInt8)} {r : List Nat} (h : NeedA l outs outs.length r) : NeedB l outs r 0 0 := by
 have hb : ∀ k,base l outs k = true ↔ k ∈ r := fun k => by
  constructor
  ·intro hk
   have hkl := base_lt hk
   rw [base_eq hkl] at hk
   rw [h.mem k hkl,List.take_length]
   simpa using hk
  ·intro hk
   have hkl := h.lt k hk
   rw [base_eq hkl]
   have := (h.mem k hkl).1 hk
   rw [List.take_length] at this
   simpa using this
 exact ⟨h.once,h.lt,fun k hk => (hb k).1 hk,fun P h1 _ k hk => h1 k ((hb k).2 hk),fun p _ _ hp => absurd hp (Nat.not_lt_zero p),fun _ _ _ k hk => by simp at hk⟩
theorem withN_get {r : List Nat} {k p : Nat} (hp : p < r.length) : (withN r k)[p]? = r[p]? := by
 unfold withN
 split
 ·rfl
 ·exact List.getElem?_append_left hp
theorem NeedB.more {l : List Ru} (hA : Apart l) {outs : List (List UInt8)} {r : List Nat} {a m x : Nat} (h : NeedB l outs r a m) (hx : r[a]? = some x) (hxl : x < l.length) (hm : m < (needL l l[x].ins).length) : NeedB l outs (withN r (needL l l[x].ins)[m]) a (m + 1) := by
 have hal : a < r.length := (List.getElem?_eq_some_iff.1 hx).1
 have hkm : (needL l l[x].ins)[m] ∈ needL l l[x].ins := List.getElem_mem hm
 have hkn := (needL_mem hA hxl _).1 hkm
 generalize hk : (needL l l[x].ins)[m] = k at *
 refine ⟨withN_once h.once k,fun y hy => ?_,fun y hy => (withN_mem r k y).2 (.inl (h.start y hy)),fun P h1 h2 y hy => ?_,fun p y hyl hp hy z hz => ?_,fun y hyl hy z hz => ?_⟩
 ·rcases (withN_mem r k y).1 hy with h2 | rfl
  ·exact h.lt y h2
  ·exact (needs_lt hkn).2
 ·rcases (withN_mem r k y).1 hy with h3 | rfl
  ·exact h.sound P h1 h2 y h3
  ·exact h2 x y (h.sound P h1 h2 x (List.mem_of_getElem? hx)) hkn
 ·rw [withN_get (by omega)] at hy
  exact (withN_mem r k z).2 (.inl (h.past p y hyl hp hy z hz))
 ·rw [withN_get hal,hx] at hy
  cases hy
  rw [List.take_succ_eq_append_getElem hm,List.mem_append,List.mem_singleton,hk] at hz
  rcases hz with hz | rfl
  ·exact (withN_mem r k z).2 (.inl (h.now x hxl hx z hz))
  ·exact (withN_mem r z z).2 (.inr rfl)
theorem NeedB.next {l : List Ru} {outs : List (List UInt8)} {r : List Nat} {a m x : Nat} (h : NeedB l outs r a m) (hx : r[a]? = some x) (hxl : x < l.length) (hm : (needL l l[x].ins).length ≤ m) : NeedB l outs r (a + 1) 0 := by
 refine ⟨h.once,h.lt,h.start,h.sound,fun p y hyl hp hy k hk => ?_,fun _ _ _ k hk => by simp at hk⟩
 by_cases e : p = a
 ·subst e
  rw [hx] at hy
  cases hy
  exact h.now x hxl hx k (by rwa [List.take_of_length_le hm])
 ·exact h.past p y hyl (by omega) hy k hk
theorem NeedB.done {l : List Ru} (hA : Apart l) {outs : List (List UInt8)} {r : List Nat} {a m : Nat} (h : NeedB l outs r a m) (ha : r.length ≤ a) : Needed l outs (isIn r) := by
 refine ⟨fun k hk => by simpa [isIn] using h.start k hk,fun i k hi hn => ?_,fun P h1 h2 k _ hk => h.sound P h1 h2 k (by simpa [isIn] using hk)⟩
 have hir : i ∈ r := by simpa [isIn] using hi
 obtain ⟨p,hp,e⟩ := List.getElem_of_mem hir
 have hil := h.lt i hir
 have := h.past p i hil (by omega) (by rw [List.getElem?_eq_getElem hp,e]) k ((needL_mem hA hil k).2 hn)
 simpa [isIn] using this
theorem NeedB.len {l : List Ru} {outs : List (List UInt8)} {r : List Nat} {a m : Nat} (h : NeedB l outs r a m) : r.length ≤ l.length := len_le h.once h.lt
theorem NeedA.len {l : List Ru} {outs : List (List UInt8)} {r : List Nat} {j : Nat} (h : NeedA l outs j r) : r.length ≤ l.length := len_le h.once h.lt
end Ru
end Go.Proofs.YtdljhggillgpfaaGreatDoor
namespace Go.Proofs.YtdljhggillgpfaaGreatDoor
open Go.RowKit Go.Shelf Go.Lib
namespace Ru
def left (ch : Nat → Bool) (n : Nat) (o : List Nat) : List Nat := (List.range n).filter fun i => ch i && !isIn o i
theorem left_mem {ch : Nat → Bool} {n : Nat} {o : List Nat} {i : Nat} : i ∈ left ch n o ↔ i < n ∧ ch i = true ∧ i ∉ o := by
 unfold left isIn
 simp
theorem left_once (ch : Nat → Bool) (n : Nat) (o : List Nat) : (left ch n o).Nodup := List.Pairwise.filter _ List.nodup_range
theorem left_len (ch : Nat → Bool) (n : Nat) (o : List Nat) : (left ch n o).length ≤ n := by
 have := List.length_filter_le (fun i => ch i && !isIn o i) (List.range n)
 simpa [left] using this
theorem left_nil (ch : Nat → Bool) (n : Nat) : left ch n [] = (List.range n).filter ch := by
 unfold left
 congr 1
 funext i
 simp [isIn]
theorem leftTo_eq (ch : Nat → Bool) (n : Nat) (o : List Nat) : leftTo ch (isIn o) n = true ↔ left ch n o ≠ [] := by
 unfold leftTo left
 rw [List.any_eq_true,ne_eq,List.filter_eq_nil_iff]
 constructor
 ·rintro ⟨i,hi,h⟩ hno
  exact hno i hi h
 ·intro h
  simp only [Classical.not_forall] at h
  obtain ⟨i,hi,h⟩ := h
  exact ⟨i,hi,by simpa using h⟩
theorem nextTo_eq (ch : Nat → Bool) (l : List Ru) (n : Nat) (o : List Nat) : nextTo l ch (isIn o) n = (left ch n o).find? fun i => freeTo l (isIn o) i l.length := by
 unfold nextTo left
 rw [List.find?_filter]
 congr 1
 funext i
 unfold may
 cases ch i <;> cases isIn o i <;> cases freeTo l (isIn o) i l.length <;> rfl
theorem left_none {ch : Nat → Bool} {l : List Ru} {o : List Nat} {b : Nat → Bool} (hb : ∀ x ∈ left ch l.length o,b x = freeTo l (isIn o) x l.length) (h : ∀ x ∈ left ch l.length o,b x = false) : nextTo l ch (isIn o) l.length = none := by
 rw [nextTo_eq,List.find?_eq_none]
 intro x hx
 rw [← hb x hx,h x hx]
 simp
theorem left_some {ch : Nat → Bool} {l : List Ru} {o : List Nat} {b : Nat → Bool} (hb : ∀ x ∈ left ch l.length o,b x = freeTo l (isIn o) x l.length) {k : Nat} (hk : k < (left ch l.length o).length) (h1 : b (left ch l.length o)[k] = true) (h2 : ∀ x ∈ (left ch l.length o).take k,b x = false) : nextTo l ch (isIn o) l.length = some (left ch l.length o)[k] := by
 rw [nextTo_eq]
 generalize left ch l.length o = r at *
 have e : r = r.take k ++ r[k] :: r.drop (k + 1) := by
  rw [← List.drop_eq_getElem_cons hk,List.take_append_drop]
 have hn : (r.take k).find? (fun i => freeTo l (isIn o) i l.length) = none := by
  rw [List.find?_eq_none]
  intro x hx
  rw [← hb x (List.mem_of_mem_take hx),h2 x hx]
  simp
 have hm : freeTo l (isIn o) r[k] l.length = true := by rw [← hb _ (List.getElem_mem hk)];exact h1
 generalize r[k] = y at *
 rw [e,List.find?_append,hn,List.find?_cons_of_pos (by simpa using hm)]
 rfl
theorem left_del {ch : Nat → Bool} {n : Nat} {o : List Nat} {k : Nat} (hk : k < (left ch n o).length) : (left ch n o).take k ++ (left ch n o).drop (k + 1) = left ch n (o ++ [(left ch n o)[k]]) := by
 have hd := left_once ch n o
 have e : left ch n (o ++ [(left ch n o)[k]]) = (left ch n o).filter fun i => !(i == (left ch n o)[k]) := by
  generalize (left ch n o)[k] = y
  unfold left
  rw [List.filter_filter]
  apply List.filter_congr
  intro i _
  unfold isIn
  by_cases h : i = y
  ·subst h;simp
  ·simp [h]
 rw [e]
 generalize left ch n o = r at *
 have er : r = r.take k ++ r[k] :: r.drop (k + 1) := by
  rw [← List.drop_eq_getElem_cons hk,List.take_append_drop]
 generalize r[k] = y at *
 rw [er] at hd
 rw [List.nodup_append] at hd
 obtain ⟨h1,h2,h3⟩ := hd
 have h4 := (List.nodup_cons.1 h2).1
 conv => rhs;rw [er]
 rw [List.filter_append,List.filter_cons_of_neg (by simp)]
 congr 1
 ·symm
  rw [List.filter_eq_self]
  intro a ha
  have := h3 a ha y (by simp)
  simpa using this
 ·symm
  rw [List.filter_eq_self]
  intro a ha
  have : a ≠ y := fun e => h4 (e ▸ ha)
  simpa using this
theorem free_eq {ch : Nat → Bool} {l : List Ru} (hA : Apart l) {o : List Nat} {i : Nat} (hi : i < l.length) (hcl : ∀ k,needs l i k = true → ch k = true) : (!((needL l l[i].ins).any fun y => decide (y ∈ left ch l.length o))) = freeTo l (isIn o) i l.length := by
 rw [Bool.eq_iff_iff]
 unfold freeTo
 simp only [Bool.not_eq_true',List.any_eq_false,decide_eq_true_eq,List.all_eq_true,List.mem_range,Bool.or_eq_true,Bool.not_eq_true']
 constructor
 ·intro h k hk
  by_cases hn : needs l i k = true
  ·left
   have := h k ((needL_mem hA hi k).2 hn)
   rw [left_mem] at this
   simpa [isIn,hk,hcl k hn] using this
  ·right
   simpa using hn
 ·intro h k hk hl
  rw [left_mem] at hl
  rcases h k hl.1 with h1 | h1
  ·exact hl.2.2 (by simpa [isIn] using h1)
  ·rw [(needL_mem hA hi k).1 hk] at h1
   cases h1
theorem ord_step (ch : Nat → Bool) (l : List Ru) {o : List Nat} (hlen : o.length ≤ l.length) : orderF l ch (l.length + 1 - o.length) o = if leftTo ch (isIn o) l.length = true then (match nextTo l ch (isIn o) l.length with | none => none | some i => orderF l ch (l.length - o.length) (o ++ [i])) else some o := by
 rw [show l.length + 1 - o.length = (l.length - o.length) + 1 by omega]
 rfl
theorem ord_done {ch : Nat → Bool} {l : List Ru} {o : List Nat} (h : orderF l ch (l.length + 1 - o.length) o = order l ch) (hlen : o.length ≤ l.length) (hl : left ch l.length o = []) : order l ch = some o := by
 rw [← h,ord_step ch l hlen,if_neg]
 rw [leftTo_eq]
 simpa using hl
theorem ord_none {ch : Nat → Bool} {l : List Ru} {o : List Nat} (h : orderF l ch (l.length + 1 - o.length) o = order l ch) (hlen : o.length ≤ l.length) (hl : left ch l.length o ≠ []) (hn : nextTo l ch (isIn o) l.length = none) : order l ch = none := by
 rw [← h,ord_step ch l hlen,if_pos ((leftTo_eq _ _ _).2 hl),hn]
theorem ord_more {ch : Nat → Bool} {l : List Ru} {o : List Nat} {j : Nat} (h : orderF l ch (l.length + 1 - o.length) o = order l ch) (hlen : o.length ≤ l.length) (hl : left ch l.length o ≠ []) (hn : nextTo l ch (isIn o) l.length = some j) : orderF l ch (l.length + 1 - (o ++ [j]).length) (o ++ [j]) = order l ch := by
 rw [← h,ord_step ch l hlen,if_pos ((leftTo_eq _ _ _).2 hl),hn,List.length_append,List.length_singleton]
 rw [show l.length + 1 - (o.length + 1) = l.length - o.length by omega]
structure Ord (ch : Nat → Bool) (l : List Ru) (o : List Nat) : Prop where
 once : o.Nodup
 lt : ∀ i ∈ o,i < l.length
 ord : orderF l ch (l.length + 1 - o.length) o = order l ch
theorem Ord.first (ch : Nat → Bool) (l : List Ru) : Ord ch l [] := ⟨List.nodup_nil,by simp,rfl⟩
theorem Ord.len {ch : Nat → Bool} {l : List Ru} {o : List Nat} (h : Ord ch l o) : o.length ≤ l.length := len_le h.once h.lt
theorem Ord.more {ch : Nat → Bool} {l : List Ru} {o : List Nat} {b : Nat → Bool} (h : Ord ch l o) (hb : ∀ x ∈ left ch l.length o,b x = freeTo l (isIn o) x l.length) {k : Nat} (hk : k < (left ch l.length o).length) (h1 : b (left ch l.length o)[k] = true) (h2 : ∀ x ∈ (left ch l.length o).take k,b x = false) : Ord ch l (o ++ [(left ch l.length o)[k]]) := by
 have hj := left_mem.1 (List.getElem_mem hk)
 refine ⟨?_,?_,ord_more h.ord h.len (fun e => by rw [e] at hk;simp at hk) (left_some hb hk h1 h2)⟩
 ·rw [List.nodup_append]
  exact ⟨h.once,by simp,fun a ha b hb => by
   rw [List.mem_singleton.1 hb]
   rintro rfl
   exact hj.2.2 ha⟩
 ·intro i hi
  rcases List.mem_append.1 hi with h1 | h1
  ·exact h.lt i h1
  ·rw [List.mem_singleton.1 h1];exact hj.1
end Ru
end Go.Proofs.YtdljhggillgpfaaGreatDoor
namespace Go.Proofs.YtdljhggillgpfaaGreatDoor
open Go.RowKit Go.Shelf Go.Lib
open Go.Sort (Holds putRow grow)
abbrev encI : Int → Value := Value.int .i64
abbrev ints (l : List Nat) : List Int := l.map fun (x : Nat) => (x : Int)
theorem ints_get {l : List Nat} {j : Nat} (h : j < l.length) : (ints l).toArray[j]! = (l[j] : Int) := by simp [h]
theorem put_grown {w : World} {g n : Nat} (d : Array Int) : w.grownBy (putRow encI (Sort.ahead w n) g 0 d) (some g) := by
 refine ⟨rfl,rfl,rfl,by simp,fun k hk hne => ?_⟩
 have : g ≠ k := fun e => hne (by rw [e])
 simp [putRow,Go.Sort.mapBlock,Sort.ahead,Array.getElem?_modify,this]
theorem grow_grown {w : World} {g n : Nat} {os : Array Obj} (d : Array Int) : w.grownBy (grow (putRow encI (Sort.ahead w n) g 0 d) os) (some g) := by
 refine ⟨rfl,rfl,rfl,by simp,fun k hk hne => ?_⟩
 rw [Go.Sort.heap_grow_old _ _ (by simpa using hk)]
 have : g ≠ k := fun e => hne (by rw [e])
 simp [putRow,Go.Sort.mapBlock,Sort.ahead,Array.getElem?_modify,this]
theorem Holds.ni {w : World} {g cap : Nat} {l : List Nat} (h : Holds encI w g 0 (ints l).toArray) (hg : g < w.heap.size) : NIRow w (.slice (some ⟨g,0,none⟩) l.length cap) l := by
 refine ⟨_,cap,rfl,fun _ => ⟨g,0,rfl,hg,fun j hj => ?_⟩⟩
 have := (h j (by simpa using hj)).1
 rw [this,ints_get hj]
theorem Holds.of_owns {w : World} {B g cap : Nat} {l : List Nat} (h : w.ownsRow B 3 1 (.slice (some ⟨g,0,none⟩) l.length cap) l.length (l.map nv)) : Holds encI w g 0 (ints l).toArray ∧ l.length ≤ cap := by
 rcases h.2 with ⟨h',_⟩ | ⟨g',cap',cur,h',hBg,hb,h1,_,_,h4⟩
 ·cases h'
 ·cases h'
  refine ⟨fun j hj => ?_,h1⟩
  have hj' : j < l.length := by simpa using hj
  have := congrArg (fun x => x[j]?) h4
  simp only [Nat.mul_one,List.getElem?_take,hj',if_true,List.getElem?_map,List.getElem?_eq_getElem hj',Option.map_some,Array.getElem?_toList] at this
  refine ⟨?_,by simp [World.frozen?,hb]⟩
  rw [Nat.zero_add,cell_of_row hb this,ints_get hj']
theorem own_slice {W : World} {B : Nat} {e : TypeId} {s n : Nat} {v : Value} {xs : List Value} (h : W.ownsRow B e s v n xs) : ∃ p c,v = .slice p n c := by
 rcases h.2 with ⟨rfl,rfl⟩ | ⟨g,cap,cur,rfl,_⟩
 ·exact ⟨_,_,rfl⟩
 ·exact ⟨_,_,rfl⟩
theorem deleteI_calls {w : World} (g cap : Nat) (l : List Nat) (k : Nat) (hk : k < l.length) (hH : Holds encI w g 0 (ints l).toArray) (hcap : l.length ≤ cap) (hm : cap ≤ 9223372036854775807) :
  Calls Tryz.prog 161 #[.slice (some ⟨g,0,none⟩) l.length cap,.int .i64 k,.int .i64 ((k : Int) + 1)] w fun e w' => e = .returned (.slice (some ⟨g,0,none⟩) (l.take k ++ l.drop (k + 1)).length cap) ∧ Holds encI w' g 0 (ints (l.take k ++ l.drop (k + 1))).toArray ∧ w.grownBy w' (some g) := by
 have h := Tryz.slices_Delete_int g 0 cap k (k + 1) (ints l) w hH (by simpa using hcap) (by omega) (by omega) (by simp;omega)
 have e1 : (ints l).length = l.length := by simp
 rw [e1] at h
 refine h.mono ?_
 rintro e w' ⟨rfl,q,rfl⟩
 have hl : (l.take k ++ l.drop (k + 1)).length = l.length - 1 := by simp;omega
 refine ⟨by rw [hl];congr 2;omega,?_,put_grown _⟩
 have hp := Go.Sort.holds_putRow encI (Sort.ahead w q) g 0 (ints l).toArray ((ints l).take k ++ (ints l).drop (k + 1) ++ List.replicate (k + 1 - k) 0).toArray hH (by simp;omega)
 intro j hj
 have hj' : j < (l.take k ++ l.drop (k + 1)).length := by simpa using hj
 obtain ⟨p1,p2⟩ := hp j (by simp;omega)
 refine ⟨?_,p2⟩
 rw [p1]
 congr 1
 have ea : (ints l).take k ++ (ints l).drop (k + 1) = ints (l.take k ++ l.drop (k + 1)) := by simp [ints,List.map_take,List.map_drop]
 rw [ea]
 have hj2 : j < (ints (l.take k ++ l.drop (k + 1))).length := by simpa using hj'
 simp only [List.getElem!_toArray,List.getElem!_eq_getElem?_getD]
 rw [List.getElem?_append_left hj2]
structure OrdS (w1 W : World) (B2 sb lb p : Nat) (vl : Value) (ll : List Nat) (ov : Value) (o : List Nat) : Prop where
 below : Below w1.heap.size w1 W
 size : B2 ≤ W.heap.size
 low2 : w1.heap.size ≤ B2
 lows : w1.heap.size ≤ sb
 lowl : w1.heap.size ≤ lb
 lts : sb < B2
 ltl : lb < B2
 nel : sb ≠ lb
 cs : W.cell? ⟨sb,0,none⟩ = some (.pointer (some ⟨p,0,none⟩))
 cl : W.cell? ⟨lb,0,none⟩ = some vl
 fl : W.frozen? ⟨lb,0,none⟩ = false
 left : (ll = [] ∧ ∃ a c,vl = .slice a 0 c) ∨ ∃ g cap,vl = .slice (some ⟨g,0,none⟩) ll.length cap ∧ ll.length ≤ cap ∧ cap ≤ 9223372036854775807 ∧ Holds encI W g 0 (ints ll).toArray ∧ w1.heap.size ≤ g ∧ g < B2 ∧ g ≠ sb ∧ g ≠ lb
 row : W.ownsRow B2 3 1 ov o.length (o.map nv)
theorem holds_block {w w' : World} {g : Nat} {d : Array Int} (h : Holds encI w g 0 d) (e : w'.heap[g]? = w.heap[g]?) : Holds encI w' g 0 d := fun j hj => ⟨(World.cell?_of_block (a := ⟨g,0 + j,none⟩) e).trans (h j hj).1,(World.frozen?_of_block (a := ⟨g,0 + j,none⟩) e).trans (h j hj).2⟩
theorem OrdS.move {w1 W W' : World} {B2 sb lb p : Nat} {vl : Value} {ll : List Nat} {ov ov' : Value} {o o' : List Nat} (h : OrdS w1 W B2 sb lb p vl ll ov o) (hb : ∀ c,c < B2 → W'.heap[c]? = W.heap[c]?) (hB : Below w1.heap.size w1 W') (hz : B2 ≤ W'.heap.size) (hr : W'.ownsRow B2 3 1 ov' o'.length (o'.map nv)) : OrdS w1 W' B2 sb lb p vl ll ov' o' := by
 refine ⟨hB,hz,h.low2,h.lows,h.lowl,h.lts,h.ltl,h.nel,(World.cell?_of_block (a := ⟨sb,0,none⟩) (hb sb h.lts)).trans h.cs,(World.cell?_of_block (a := ⟨lb,0,none⟩) (hb lb h.ltl)).trans h.cl,(World.frozen?_of_block (a := ⟨lb,0,none⟩) (hb lb h.ltl)).trans h.fl,?_,hr⟩
 rcases h.left with h1 | ⟨g,cap,e,h1,h2,h3,h4,h5,h6⟩
 ·exact .inl h1
 ·exact .inr ⟨g,cap,e,h1,h2,holds_block h3 (hb g h5),h4,h5,h6⟩
theorem own_below {W W' : World} {B : Nat} {e : TypeId} {s n : Nat} {v : Value} {xs : List Value} (h : W.ownsRow B e s v n xs) (hb : Below W.heap.size W W') : W'.ownsRow B e s v n xs := by
 refine ⟨h.1,?_⟩
 rcases h.2 with h1 | ⟨g,cap,cur,h1,h2,h3,h4⟩
 ·exact .inl h1
 ·exact .inr ⟨g,cap,cur,h1,h2,(hb.block g (Array.getElem?_eq_some_iff.1 h3).1).trans h3,h4⟩
theorem OrdS.grown {w1 W W' : World} {B2 sb lb p : Nat} {vl : Value} {ll : List Nat} {ov : Value} {o : List Nat} (h : OrdS w1 W B2 sb lb p vl ll ov o) (hb : Below W.heap.size W W') : OrdS w1 W' B2 sb lb p vl ll ov o :=
 h.move (fun c hc => hb.block c (Nat.lt_of_lt_of_le hc h.size)) (below_then h.below hb) (Nat.le_trans h.size hb.size) (own_below h.row hb)
theorem OrdS.append {w1 W W1 W' : World} {B2 sb lb p : Nat} {vl : Value} {ll : List Nat} {ov ov' : Value} {o o' : List Nat} (h : OrdS w1 W B2 sb lb p vl ll ov o) (hb : Below W.heap.size W W1) (hg : W1.grownBy W' ov.ownBlock) (hr : W'.ownsRow B2 3 1 ov' o'.length (o'.map nv)) : OrdS w1 W' B2 sb lb p vl ll ov' o' := by
 have hm := own_lt h.row
 have h1 := h.grown hb
 have hz := h.size
 have hz1 := hb.size
 refine h1.move (fun c hc => hg.block c (by omega) (fun e => by have := (hm c e.symm).1;omega)) ?_ (by have := hg.size;omega) hr
 exact h1.below.grown hg (by have := h.low2;omega) fun j e => by have := (hm j e).1;have := h.low2;omega
theorem OrdS.gone {w1 W W' : World} {B2 sb lb p g cap : Nat} {ll ll' : List Nat} {ov : Value} {o : List Nat} (h : OrdS w1 W B2 sb lb p (.slice (some ⟨g,0,none⟩) ll.length cap) ll ov o) (hne : ll ≠ []) (hg : W.grownBy W' (some g)) (hH : Holds encI W' g 0 (ints ll').toArray) (hl : ll'.length ≤ ll.length) :
  W'.cell? ⟨lb,0,none⟩ = some (.slice (some ⟨g,0,none⟩) ll.length cap) ∧ W'.frozen? ⟨lb,0,none⟩ = false ∧ OrdS w1 (W'.setCell ⟨lb,0,none⟩ (.slice (some ⟨g,0,none⟩) ll'.length cap)) B2 sb lb p (.slice (some ⟨g,0,none⟩) ll'.length cap) ll' ov o := by
 rcases h.left with ⟨h1,_⟩ | ⟨g',cap',e,h1,h2,h3,h4,h5,h6,h7⟩
 ·exact absurd h1 hne
 ·obtain ⟨rfl,rfl⟩ : g = g' ∧ cap = cap' := by
   simp only [Value.slice.injEq,Option.some.injEq,Addr.mk.injEq] at e
   exact ⟨e.1.1,e.2.2⟩
  have hz := h.size
  have hlb := hg.block lb (by have := h.ltl;omega) (fun e => h7 (Option.some.inj e).symm)
  have hsb := hg.block sb (by have := h.lts;omega) (fun e => h6 (Option.some.inj e).symm)
  have c1 : W'.cell? ⟨lb,0,none⟩ = some (.slice (some ⟨g,0,none⟩) ll.length cap) := (World.cell?_of_block (a := ⟨lb,0,none⟩) hlb).trans h.cl
  have f1 : W'.frozen? ⟨lb,0,none⟩ = false := (World.frozen?_of_block (a := ⟨lb,0,none⟩) hlb).trans h.fl
  refine ⟨c1,f1,?_⟩
  have hS : ∀ c,c ≠ lb → (W'.setCell ⟨lb,0,none⟩ (.slice (some ⟨g,0,none⟩) ll'.length cap)).heap[c]? = W'.heap[c]? := fun c hc => Below.heap_setCell W' ⟨lb,0,none⟩ _ c hc
  have hfar : ov.ownBlock ≠ some g := fun e => by have := (own_lt h.row g e).1;omega
  have hfar2 : ov.ownBlock ≠ some lb := fun e => by have := (own_lt h.row lb e).1;have := h.ltl;omega
  refine ⟨?_,by have := hg.size;simp;omega,h.low2,h.lows,h.lowl,h.lts,h.ltl,h.nel,?_,?_,?_,?_,?_⟩
  ·refine Below.setCell (p := ⟨lb,0,none⟩) ?_ h.lowl _
   exact h.below.grown hg (by have := h.low2;omega) fun j e => by cases e;exact h4
  ·exact (World.cell?_of_block (a := ⟨sb,0,none⟩) ((hS sb h.nel).trans hsb)).trans h.cs
  ·exact World.cell?_setCell_same' _ _ _ (by rw [c1];rfl)
  ·rw [World.frozen?_setCell];exact f1
  ·exact .inr ⟨g,cap,rfl,by omega,h2,holds_block hH (hS g h7),h4,h5,h6,h7⟩
  ·exact ownsRow_setCell_other (h.row.kept hg (.inr hfar)) (by simpa using hfar2) _
structure OrdL (w1 W : World) (B sb lb p : Nat) (vl : Value) (ll : List Nat) : Prop where
 below : Below w1.heap.size w1 W
 size : B ≤ W.heap.size
 low2 : w1.heap.size ≤ B
 lows : w1.heap.size ≤ sb
 lowl : w1.heap.size ≤ lb
 lts : sb < B
 ltl : lb < B
 nel : sb ≠ lb
 cs : W.cell? ⟨sb,0,none⟩ = some (.pointer (some ⟨p,0,none⟩))
 cl : W.cell? ⟨lb,0,none⟩ = some vl
 fl : W.frozen? ⟨lb,0,none⟩ = false
 row : W.ownsRow B 3 1 vl ll.length (ll.map nv)
theorem OrdL.make (w1 : World) (p : Nat) : OrdL w1 ((w1.alloc (.cells #[.pointer (some ⟨p,0,none⟩)] 193)).alloc (.cells #[.slice none 0 0] 147)) (w1.heap.size + 2) w1.heap.size (w1.heap.size + 1) p (.slice none 0 0) [] := by
 refine ⟨((Below.refl _ w1).alloc (Nat.le_refl _) _).alloc (by simp) _,by simp,by omega,Nat.le_refl _,by omega,by omega,by omega,by omega,?_,?_,?_,World.ownsRow_nil _ _ _ _⟩
 ·have h1 : (w1.alloc (.cells #[.pointer (some ⟨p,0,none⟩)] 193)).cell? ⟨w1.heap.size,0,none⟩ = some (.pointer (some ⟨p,0,none⟩)) := by simp
  exact cell_below' h1 ((Below.refl _ _).alloc (Nat.le_refl _) _)
 ·simp
 ·simp
theorem OrdL.grown {w1 W W' : World} {B sb lb p : Nat} {vl : Value} {ll : List Nat} (h : OrdL w1 W B sb lb p vl ll) (hb : Below W.heap.size W W') : OrdL w1 W' B sb lb p vl ll := by
 have hz := h.size
 exact ⟨below_then h.below hb,Nat.le_trans hz hb.size,h.low2,h.lows,h.lowl,h.lts,h.ltl,h.nel,cell_below' h.cs hb,cell_below' h.cl hb,(hb.frozen (p := ⟨lb,0,none⟩) (lt_of_cell h.cl)).trans h.fl,own_below h.row hb⟩
theorem OrdL.append {w1 W W1 W' : World} {B sb lb p : Nat} {vl vl' : Value} {ll ll' : List Nat} (h : OrdL w1 W B sb lb p vl ll) (hb : Below W.heap.size W W1) (hg : W1.grownBy W' vl.ownBlock) (hr : W'.ownsRow B 3 1 vl' ll'.length (ll'.map nv)) :
  W'.cell? ⟨lb,0,none⟩ = some vl ∧ W'.frozen? ⟨lb,0,none⟩ = false ∧ OrdL w1 (W'.setCell ⟨lb,0,none⟩ vl') B sb lb p vl' ll' := by
 have hm := own_lt h.row
 have h1 := h.grown hb
 have hz := h1.size
 have key : ∀ c,c < B → W'.heap[c]? = W1.heap[c]? := fun c hc => hg.block c (by omega) (fun e => by have := (hm c e.symm).1;omega)
 have c1 : W'.cell? ⟨lb,0,none⟩ = some vl := (World.cell?_of_block (a := ⟨lb,0,none⟩) (key lb h.ltl)).trans h1.cl
 have f1 : W'.frozen? ⟨lb,0,none⟩ = false := (World.frozen?_of_block (a := ⟨lb,0,none⟩) (key lb h.ltl)).trans h1.fl
 refine ⟨c1,f1,?_⟩
 have hS : ∀ c,c ≠ lb → (W'.setCell ⟨lb,0,none⟩ vl').heap[c]? = W'.heap[c]? := fun c hc => Below.heap_setCell W' ⟨lb,0,none⟩ _ c hc
 have hfar : vl'.ownBlock ≠ some lb := fun e => by have := (own_lt hr lb e).1;have := h.ltl;omega
 refine ⟨?_,by have := hg.size;simp;omega,h.low2,h.lows,h.lowl,h.lts,h.ltl,h.nel,?_,?_,?_,?_⟩
 ·refine Below.setCell (p := ⟨lb,0,none⟩) ?_ h.lowl _
  exact h1.below.grown hg (by have := h.low2;omega) fun j e => by have := (hm j e).1;have := h.low2;omega
 ·exact (World.cell?_of_block (a := ⟨sb,0,none⟩) ((hS sb h.nel).trans (key sb h.lts))).trans h1.cs
 ·exact World.cell?_setCell_same' _ _ _ (by rw [c1];rfl)
 ·rw [World.frozen?_setCell];exact f1
 ·exact ownsRow_setCell_other hr (by simpa using hfar) _
theorem OrdL.turn {w1 W : World} {B sb lb p : Nat} {vl : Value} {ll : List Nat} (h : OrdL w1 W B sb lb p vl ll) : OrdS w1 W W.heap.size sb lb p vl ll (.slice none 0 0) [] := by
 have hz := h.size
 refine ⟨h.below,Nat.le_refl _,Nat.le_trans h.low2 hz,h.lows,h.lowl,by have := h.lts;omega,by have := h.ltl;omega,h.nel,h.cs,h.cl,h.fl,?_,World.ownsRow_nil _ _ _ _⟩
 rcases h.row.2 with ⟨rfl,hn⟩ | ⟨g,cap,cur,rfl,hBg,hb,h1,hcm,_⟩
 ·exact .inl ⟨List.length_eq_zero_iff.1 hn,_,_,rfl⟩
 ·have hlt := (Array.getElem?_eq_some_iff.1 hb).1
  have hH := Holds.of_owns h.row
  exact .inr ⟨g,cap,rfl,hH.2,by unfold maxLen at hcm;omega,hH.1,by have := h.low2;omega,hlt,by have := h.lts;omega,by have := h.ltl;omega⟩
end Go.Proofs.YtdljhggillgpfaaGreatDoor
