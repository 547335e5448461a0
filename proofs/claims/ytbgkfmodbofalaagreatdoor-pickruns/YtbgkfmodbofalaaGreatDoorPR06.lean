import Derived.Test.YtbgkfmodbofalaaGreatDoorPR03
import Derived.Test.YtbgkfmodbofalaaGreatDoorPR05
import Derived.Lib.SmallJoins
import Derived.Lib.ItoaLen
import Derived.Sort.Grow
import Derived.Lib.ItoaNum
import Derived.Lib.Strings
import Derived.Lib.IndexMore
import Derived.Lib.Atoi
import Derived.Lib.ItoaMem
import Derived.Maps.OwnSet
import Derived.Sort.KeysCollected
import Derived.WideAt
import Derived.WideShapes
namespace Go.Proofs.YtbgkfmodbofalaaGreatDoor
open Go.RowKit Go.Shelf Go.Lib Go.Maps
open Go.Sort (grow)
def TRow (w : World) (v : Value) (l : List (List UInt8)) : Prop :=
 ∃ p cap,v = .slice p l.length cap /\ l.length <= cap /\ (l ≠ [] -> ∃ g cur,p = some ⟨g,0,none⟩ /\ w.heap[g]? = some (.cells cur 9 (0,0)) /\ ∀ j (hj : j < l.length),cur[j]? = some (.string (ba l[j])))
theorem TRow.of_owns {w : World} {base : Nat} {v : Value} {l : List (List UInt8)} {n : Nat} (h : w.ownsRow base 9 1 v n (l.map encStr)) : TRow w v l := by
 have hn : n = l.length := by have := h.1;simp at this;omega
 subst hn;rcases h.2 with ⟨rfl,hn⟩ | ⟨g,cap,cur,rfl,_,hb,h1,_,_,h4⟩
 ·obtain rfl : l = [] := by simpa using hn
  exact ⟨none,0,rfl,Nat.le_refl _,fun h => absurd rfl h⟩
 ·refine ⟨_,cap,rfl,h1,fun _ => ⟨g,cur,rfl,hb,fun j hj => ?_⟩⟩
  have := congrArg (fun x => x[j]?) h4
  simp only [Nat.mul_one,List.getElem?_take,hj,if_true,List.getElem?_map,List.getElem?_eq_getElem hj,Option.map_some,Array.getElem?_toList] at this
  exact this
theorem TRow.below {w w' : World} {v : Value} {l : List (List UInt8)} (h : TRow w v l) (hb : Below w.heap.size w w') : TRow w' v l := by
 obtain ⟨p,cap,e,h0,h1⟩ := h;refine ⟨p,cap,e,h0,fun hl => ?_⟩
 obtain ⟨g,cur,e,hg,hc⟩ := h1 hl;exact ⟨g,cur,e,(hb.block g (Array.getElem?_eq_some_iff.1 hg).1).trans hg,hc⟩
theorem Zac {w : World} {g j : Nat} {cur : Array Value} {t : TypeId} {fz : Nat × Nat} {x : Value} (hg : w.heap[g]? = some (.cells cur t fz)) (hc : cur[j]? = some x) : w.cell? ⟨g,j,none⟩ = some x := by
 simp [World.cell?,hg,hc]
theorem Zds (w : World) (k : Nat) (os : Array Obj) : Below w.heap.size w (grow (w.drewN k) os) :=
 ⟨rfl,rfl,rfl,by simp [grow],fun i hi => by simp [grow,Array.getElem?_append_left hi]⟩
abbrev Pow (w : World) : Prop := Lib.TabIs Tryz.prog w "internal/strconv.uint64pow10" .u64 Lib.pow10Tab
theorem Zbu {w w' : World} (h : Pow w) (hb : Below w.heap.size w w') : Pow w' := Go.Joins.tab_stays (g := 13) (by kernel_rfl) h hb (Nat.le_refl _)
theorem Zbd (n : Nat) (h : n <= 100000) : (Lib.decDigits n).length <= 21 := by
 have := Lib.itoa_length_le (n : Int) (by omega) (by omega)
 rwa [Lib.itoa_nonneg] at this
end Go.Proofs.YtbgkfmodbofalaaGreatDoor
namespace Go.Proofs.YtbgkfmodbofalaaGreatDoor
open Go.RowKit Go.Shelf Go.Lib
def IRow (w : World) (v : Value) (l : List (List UInt8)) : Prop :=
 ∃ p cap,v = .slice p l.length cap /\ (l ≠ [] -> ∃ g o,p = some ⟨g,o,none⟩ /\ g < w.heap.size /\ ∀ j (hj : j < l.length),w.cell? ⟨g,o + j,none⟩ = some (.string (ba l[j])))
theorem IRow.below {w w' : World} {v : Value} {l : List (List UInt8)} (h : IRow w v l) (hb : Below w.heap.size w w') : IRow w' v l := by
 obtain ⟨p,cap,e,h1⟩ := h;refine ⟨p,cap,e,fun hl => ?_⟩
 obtain ⟨g,o,e,hg,hc⟩ := h1 hl;exact ⟨g,o,e,Nat.lt_of_lt_of_le hg hb.size,fun j hj => (hb.cell (p := ⟨g,o + j,none⟩) hg).trans (hc j hj)⟩
def XRow (w : World) (v : Value) (l : List (List UInt8)) : Prop :=
 ∃ p cap,v = .slice p l.length cap /\ l.length <= cap /\ (p = none -> cap = 0) /\ (l ≠ [] -> ∃ g o,p = some ⟨g,o,none⟩ /\ g < w.heap.size /\ ∀ j (hj : j < l.length),w.cell? ⟨g,o + j,none⟩ = some (.string (ba l[j])))
theorem XRow.below {w w' : World} {v : Value} {l : List (List UInt8)} (h : XRow w v l) (hb : Below w.heap.size w w') : XRow w' v l := by
 obtain ⟨p,cap,e,h0,hn,h1⟩ := h;refine ⟨p,cap,e,h0,hn,fun hl => ?_⟩
 obtain ⟨g,o,e,hg,hc⟩ := h1 hl;exact ⟨g,o,e,Nat.lt_of_lt_of_le hg hb.size,fun j hj => (hb.cell (p := ⟨g,o + j,none⟩) hg).trans (hc j hj)⟩
theorem XRow.irow {w : World} {v : Value} {l : List (List UInt8)} (h : XRow w v l) : IRow w v l := by
 obtain ⟨p,cap,e,_,_,h1⟩ := h;exact ⟨p,cap,e,h1⟩
theorem XRow.shape {w : World} {v : Value} {l : List (List UInt8)} (h : XRow w v l) : v = .slice none 0 0 \/ ∃ a n cap,v = .slice (some a) n cap := by
 obtain ⟨p,cap,rfl,h0,hn,h1⟩ := h;cases p with
 | none =>
  have hc := hn rfl;subst hc;obtain rfl : l = [] := List.length_eq_zero_iff.1 (by omega)
  exact .inl rfl
 | some a => exact .inr ⟨a,_,_,rfl⟩
theorem XRow.nil (w : World) : XRow w (.slice none 0 0) [] := ⟨none,0,rfl,Nat.le_refl _,fun _ => rfl,fun h => absurd rfl h⟩
theorem XRow.of_owns {w : World} {base : Nat} {v : Value} {l : List (List UInt8)} {n : Nat} (h : w.ownsRow base 9 1 v n (l.map sv)) : XRow w v l := by
 have hn : n = l.length := by have := h.1;simp at this;omega
 subst hn;rcases h.2 with ⟨rfl,hn⟩ | ⟨g,cap,cur,rfl,_,hb,h1,_,_,h4⟩
 ·obtain rfl : l = [] := by simpa using hn
  exact XRow.nil w
 ·refine ⟨_,cap,rfl,h1,fun h => (by cases h),fun _ => ⟨g,0,rfl,(Array.getElem?_eq_some_iff.1 hb).1,fun j hj => ?_⟩⟩
  have := congrArg (fun x => x[j]?) h4
  simp only [Nat.mul_one,List.getElem?_take,hj,if_true,List.getElem?_map,List.getElem?_eq_getElem hj,Option.map_some,Array.getElem?_toList] at this
  rw [Nat.zero_add];exact Zac hb this
theorem one_sv {l : List (List UInt8)} : ∀ u ∈ l.map sv,u.oneCell' = true := fun u hu => by
 obtain ⟨z,_,rfl⟩ := List.mem_map.1 hu;rfl
theorem Zct (g k j : Nat) : (⟨g,k,none⟩ : Addr).add j = ⟨g,k + j,none⟩ := by
 by_cases h0 : j = 0 <;> simp [Addr.add,h0]
theorem lay_b1 {w w1 : World} (n1 : w.ownsRow w.heap.size 9 1 (.slice none 0 0) 0 []) (hg : w.grownBy w1 (Value.slice none 0 0).ownBlock) : Below w.heap.size w w1 := Zdr (Below.refl _ w) (Nat.le_refl _) n1 hg
end Go.Proofs.YtbgkfmodbofalaaGreatDoor
namespace Go.Proofs.YtbgkfmodbofalaaGreatDoor
open Go.RowKit Go.Shelf Go.Lib
structure Ru where
 out : List UInt8
 kind : List UInt8
 word : List UInt8
 ins : List (List UInt8)
namespace Ru
def Zba (c : Nat -> Nat) : Nat -> Nat -> Option Nat
 | _,0 => none
 | k,n + 1 => if c k = 0 then Zba c (k + 1) n else some k
def first (c : Nat -> Nat) (n : Nat) : Option Nat := Zba c 0 n
def firstC (c : Nat -> Nat) (n : Nat) : Nat := match first c n with | some k => c k | none => 0
theorem Zdx {c : Nat -> Nat} : ∀ {n k : Nat},(∀ j,k <= j -> j < k + n -> c j = 0) -> Zba c k n = none
 | 0,_,_ => rfl
 | n + 1,k,h => by
  unfold Zba;rw [if_pos (h k (Nat.le_refl _) (by omega))]
  exact Zdx fun j h1 h2 => h j (by omega) (by omega)
theorem Zdw {c : Nat -> Nat} {m : Nat} : ∀ {n k : Nat},k <= m -> m < k + n -> c m ≠ 0 -> (∀ j,k <= j -> j < m -> c j = 0) -> Zba c k n = some m
 | 0,_,h1,h2,_,_ => by omega
 | n + 1,k,h1,h2,hc,h => by
  unfold Zba;by_cases e : k = m
  ·subst e;rw [if_neg hc]
  ·rw [if_pos (h k (Nat.le_refl _) (by omega))]
   exact Zdw (by omega) (by omega) hc fun j h1 h2 => h j (by omega) h2
theorem Zka {c : Nat -> Nat} {n : Nat} (h : ∀ j,j < n -> c j = 0) : first c n = none := Zdx fun j _ h2 => h j (by omega)
theorem Zjz {c : Nat -> Nat} {n m : Nat} (hm : m < n) (hc : c m ≠ 0) (h : ∀ j,j < m -> c j = 0) : first c n = some m := Zdw (Nat.zero_le _) (by omega) hc fun j _ h2 => h j h2
theorem Zbx {c : Nat -> Nat} : ∀ {n k : Nat},Zba c k n = none -> ∀ j,k <= j -> j < k + n -> c j = 0
 | 0,_,_,j,h1,h2 => by omega
 | n + 1,k,h,j,h1,h2 => by
  unfold Zba at h;split at h
  ·rename_i h0
   by_cases e : j = k
   ·rw [e];exact h0
   ·exact Zbx h j (by omega) (by omega)
  ·cases h
theorem Zcf {c : Nat -> Nat} {m : Nat} : ∀ {n k : Nat},Zba c k n = some m -> c m ≠ 0
 | 0,_,h => by cases h
 | n + 1,k,h => by
  unfold Zba at h;split at h
  ·exact Zcf h
  ·rename_i h0
   rw [<- Option.some.inj h];exact h0
theorem Zdc {c : Nat -> Nat} {n : Nat} (h : first c n = none) (j : Nat) (hj : j < n) : c j = 0 := Zbx h j (Nat.zero_le _) (by omega)
theorem Zcm {c : Nat -> Nat} {n m : Nat} (h : first c n = some m) : c m ≠ 0 := Zcf h
theorem firstC_none {c : Nat -> Nat} {n : Nat} (h : ∀ j,j < n -> c j = 0) : firstC c n = 0 := by unfold firstC;rw [Zka h]
theorem firstC_some {c : Nat -> Nat} {n m : Nat} (hm : m < n) (hc : c m ≠ 0) (h : ∀ j,j < m -> c j = 0) : firstC c n = c m := by unfold firstC;rw [Zjz hm hc h]
theorem firstC_zero {c : Nat -> Nat} {n : Nat} (h : firstC c n = 0) (j : Nat) (hj : j < n) : c j = 0 := by
 unfold firstC at h;cases hf : first c n with
 | none => exact Zdc hf j hj
 | some k =>
  rw [hf] at h;exact absurd h (Zcm hf)
theorem firstC_const {c : Nat -> Nat} {n d : Nat} (h : ∀ j,c j = 0 \/ c j = d) : firstC c n = 0 \/ firstC c n = d := by
 unfold firstC;split
 ·exact h _
 ·exact .inl rfl
structure Small (r : Ru) : Prop where
 out : r.out.length <= 100
 kind : r.kind.length <= 60
 word : r.word.length <= 150
 many : r.ins.length <= 12
 ins : ∀ x ∈ r.ins,x.length <= 300
end Ru
abbrev ruV (r : Ru) (v : Value) : Value := .agg #[.string (ba r.out),.string (ba r.kind),.string (ba r.word),v]
def RuAt (w : World) (g o : Nat) (r : Ru) : Prop :=
 w.cell? ⟨g,o,none⟩ = some (.string (ba r.out)) /\ w.cell? ⟨g,o + 1,none⟩ = some (.string (ba r.kind)) /\ w.cell? ⟨g,o + 2,none⟩ = some (.string (ba r.word)) /\ ∃ v,w.cell? ⟨g,o + 3,none⟩ = some v /\ XRow w v r.ins
theorem RuAt.below {w w' : World} {g o : Nat} {r : Ru} (h : RuAt w g o r) (hb : Below w.heap.size w w') : RuAt w' g o r := by
 obtain ⟨h0,h1,h2,v,h3,h4⟩ := h;exact ⟨Zaa h0 hb,Zaa h1 hb,Zaa h2 hb,v,Zaa h3 hb,h4.below hb⟩
def RRow (w : World) (v : Value) (l : List Ru) : Prop :=
 ∃ p cap,v = .slice p l.length cap /\ l.length <= cap /\ (p = none -> cap = 0) /\ (l ≠ [] -> ∃ g o,p = some ⟨g,o,none⟩ /\ g < w.heap.size /\ ∀ j (hj : j < l.length),RuAt w g (o + j * 4) l[j])
theorem RRow.below {w w' : World} {v : Value} {l : List Ru} (h : RRow w v l) (hb : Below w.heap.size w w') : RRow w' v l := by
 obtain ⟨p,cap,e,h0,hn,h1⟩ := h;refine ⟨p,cap,e,h0,hn,fun hl => ?_⟩
 obtain ⟨g,o,e,hg,hc⟩ := h1 hl;exact ⟨g,o,e,Nat.lt_of_lt_of_le hg hb.size,fun j hj => (hc j hj).below hb⟩
theorem RRow.nil (w : World) : RRow w (.slice none 0 0) [] := ⟨none,0,rfl,Nat.le_refl _,fun _ => rfl,fun h => absurd rfl h⟩
end Go.Proofs.YtbgkfmodbofalaaGreatDoor
namespace Go.Proofs.YtbgkfmodbofalaaGreatDoor
open Go.RowKit Go.Shelf Go.Lib
namespace Ru
def needs (l : List Ru) (i k : Nat) : Bool :=
 match l[i]?,l[k]? with
 | some a,some b => decide (b.out ∈ a.ins)
 | _,_ => false
theorem needs_eq {l : List Ru} {i k : Nat} (hi : i < l.length) (hk : k < l.length) : needs l i k = decide (l[k].out ∈ l[i].ins) := by
 unfold needs;rw [List.getElem?_eq_getElem hi,List.getElem?_eq_getElem hk]
theorem needs_lt {l : List Ru} {i k : Nat} (h : needs l i k = true) : i < l.length /\ k < l.length := by
 unfold needs at h;split at h
 ·rename_i a b ha hb
  exact ⟨(List.getElem?_eq_some_iff.1 ha).1,(List.getElem?_eq_some_iff.1 hb).1⟩
 ·cases h
def freeTo (l : List Ru) (done : Nat -> Bool) (i m : Nat) : Bool := (List.range m).all fun k => done k || !needs l i k
theorem freeTo_zero (l : List Ru) (done : Nat -> Bool) (i : Nat) : freeTo l done i 0 = true := rfl
theorem freeTo_succ (l : List Ru) (done : Nat -> Bool) (i m : Nat) : freeTo l done i (m + 1) = (freeTo l done i m && (done m || !needs l i m)) := by
 unfold freeTo;rw [List.range_succ,List.all_append];simp
def may (l : List Ru) (some done : Nat -> Bool) (i : Nat) : Bool := some i && !done i && freeTo l done i l.length
def nextTo (l : List Ru) (some done : Nat -> Bool) (m : Nat) : Option Nat := (List.range m).find? (may l some done)
theorem nextTo_succ (l : List Ru) (some done : Nat -> Bool) (m : Nat) : nextTo l some done (m + 1) = (nextTo l some done m).or (if may l some done m = true then Option.some m else none) := by
 unfold nextTo;rw [List.range_succ,List.find?_append];congr 1
 simp [List.find?_cons];split <;> simp_all
def leftTo (some done : Nat -> Bool) (m : Nat) : Bool := (List.range m).any fun i => some i && !done i
theorem leftTo_succ (some done : Nat -> Bool) (m : Nat) : leftTo some done (m + 1) = (leftTo some done m || (some m && !done m)) := by
 unfold leftTo;rw [List.range_succ,List.any_append];simp
def isIn (o : List Nat) (i : Nat) : Bool := decide (i ∈ o)
def orderF (l : List Ru) (some : Nat -> Bool) : Nat -> List Nat -> Option (List Nat)
 | 0,_ => none
 | f + 1,o =>
  if leftTo some (isIn o) l.length = true then
   match nextTo l some (isIn o) l.length with
   | none => none
   | Option.some i => orderF l some f (o ++ [i])
  else Option.some o
def order (l : List Ru) (some : Nat -> Bool) : Option (List Nat) := orderF l some (l.length + 1) []
theorem nextTo_some {l : List Ru} {some done : Nat -> Bool} {m i : Nat} (h : nextTo l some done m = Option.some i) : i < m /\ may l some done i = true := by
 unfold nextTo at h;exact ⟨List.mem_range.1 (List.mem_of_find?_eq_some h),List.find?_some h⟩
end Ru
end Go.Proofs.YtbgkfmodbofalaaGreatDoor
namespace Go.Proofs.YtbgkfmodbofalaaGreatDoor
open Go.RowKit Go.Shelf Go.Lib
namespace Ru
def base (l : List Ru) (outs : List (List UInt8)) (k : Nat) : Bool :=
 match l[k]? with
 | some r => decide (r.out ∈ outs)
 | none => false
theorem base_eq {l : List Ru} {outs : List (List UInt8)} {k : Nat} (h : k < l.length) : base l outs k = decide (l[k].out ∈ outs) := by
 unfold base;rw [List.getElem?_eq_getElem h]
structure Needed (l : List Ru) (outs : List (List UInt8)) (f : Nat -> Bool) : Prop where
 start : ∀ k,base l outs k = true -> f k = true
 closed : ∀ i k,f i = true -> needs l i k = true -> f k = true
 least : ∀ P : Nat -> Prop,(∀ k,base l outs k = true -> P k) -> (∀ i k,P i -> needs l i k = true -> P k) -> ∀ k,k < l.length -> f k = true -> P k
theorem Needed.unique {l : List Ru} {outs : List (List UInt8)} {f g : Nat -> Bool} (hf : Needed l outs f) (hg : Needed l outs g) (k : Nat) (hk : k < l.length) : f k = g k := by
 rw [Bool.eq_iff_iff];exact ⟨hf.least (fun k => g k = true) hg.start hg.closed k hk,hg.least (fun k => f k = true) hf.start hf.closed k hk⟩
def cnt (f : Nat -> Bool) : Nat -> Nat
 | 0 => 0
 | n + 1 => cnt f n + (if f n = true then 1 else 0)
theorem cnt_le (f : Nat -> Bool) : ∀ n,cnt f n <= n
 | 0 => Nat.le_refl _
 | n + 1 => by
  have := cnt_le f n;unfold cnt;split <;> omega
theorem Zrk {f g : Nat -> Bool} : ∀ {n : Nat},(∀ k,k < n -> f k = true -> g k = true) -> cnt f n <= cnt g n
 | 0,_ => Nat.le_refl _
 | n + 1,h => by
  have ih := Zrk (n := n) fun k hk => h k (by omega)
  unfold cnt;by_cases hf : f n = true
  ·rw [if_pos hf,if_pos (h n (by omega) hf)];omega
  ·rw [if_neg hf];split <;> omega
theorem cnt_lt {f g : Nat -> Bool} {m : Nat} : ∀ {n : Nat},(∀ k,k < n -> f k = true -> g k = true) -> m < n -> g m = true -> f m = false -> cnt f n + 1 <= cnt g n
 | 0,_,hm,_,_ => by omega
 | n + 1,h,hm,hg,hf => by
  unfold cnt;by_cases e : m = n
  ·subst e;have := Zrk (n := m) fun k hk => h k (by omega)
   rw [if_pos hg,if_neg (by rw [hf];simp)]
   omega
  ·have ih := cnt_lt (n := n) (fun k hk => h k (by omega)) (by omega) hg hf
   by_cases hf' : f n = true
   ·rw [if_pos hf',if_pos (h n (by omega) hf')];omega
   ·rw [if_neg hf'];split <;> omega
theorem Zrl {f : Nat -> Bool} : ∀ {n : Nat},n <= cnt f n -> ∀ k,k < n -> f k = true
 | 0,_,k,hk => by omega
 | n + 1,h,k,hk => by
  have h1 := cnt_le f n;unfold cnt at h;split at h
  ·rename_i hf
   by_cases e : k = n
   ·rw [e];exact hf
   ·exact Zrl (n := n) (by omega) k (by omega)
  ·omega
structure Pass (l : List Ru) (outs : List (List UInt8)) (t : Nat) (f : Nat -> Bool) : Prop where
 start : ∀ k,k < l.length -> base l outs k = true -> f k = true
 sound : ∀ P : Nat -> Prop,(∀ k,base l outs k = true -> P k) -> (∀ i k,P i -> needs l i k = true -> P k) -> ∀ k,k < l.length -> f k = true -> P k
 more : (∀ i k,i < l.length -> f i = true -> needs l i k = true -> f k = true) \/ t <= cnt f l.length
theorem Zqh {l : List Ru} {outs : List (List UInt8)} {k : Nat} (h : base l outs k = true) : k < l.length := by
 unfold base at h;split at h
 ·rename_i r hr
  exact (List.getElem?_eq_some_iff.1 hr).1
 ·cases h
theorem Pass.first (l : List Ru) (outs : List (List UInt8)) : Pass l outs 0 (base l outs) :=
 ⟨fun _ _ h => h,fun _ h _ k _ hk => h k hk,.inr (Nat.zero_le _)⟩
theorem Pass.next {l : List Ru} {outs : List (List UInt8)} {t : Nat} {S f : Nat -> Bool} (h : Pass l outs t S) (hS : ∀ k,k < l.length -> S k = true -> f k = true)
  (hsound : ∀ P : Nat -> Prop,(∀ k,base l outs k = true -> P k) -> (∀ i k,P i -> needs l i k = true -> P k) -> ∀ k,k < l.length -> f k = true -> P k)
  (hstep : ∀ i k,i < l.length -> S i = true -> needs l i k = true -> f k = true) : Pass l outs (t + 1) f := by
 refine ⟨fun k hk hb => hS k hk (h.start k hk hb),hsound,?_⟩
 by_cases hc : ∀ i k,i < l.length -> S i = true -> needs l i k = true -> S k = true
 ·left
  have hfS : ∀ k,k < l.length -> f k = true -> S k = true := fun k hk hf =>
   hsound (fun k => S k = true) (fun k hb => h.start k (Zqh hb) hb) (fun i k hi hn => hc i k (needs_lt hn).1 hi hn) k hk hf
  exact fun i k hi hf hn => hS k (needs_lt hn).2 (hc i k hi (hfS i hi hf) hn)
 ·right
  have ht := h.more.resolve_left hc;simp only [Classical.not_forall] at hc;obtain ⟨i,k,hi,hSi,hn,hSk⟩ := hc;have := cnt_lt hS (needs_lt hn).2 (hstep i k hi hSi hn) (by simpa using hSk)
  omega
theorem Pass.done {l : List Ru} {outs : List (List UInt8)} {f : Nat -> Bool} (h : Pass l outs l.length f) : Needed l outs (fun k => decide (k < l.length) && f k) := by
 have hc : ∀ i k,i < l.length -> f i = true -> needs l i k = true -> f k = true := by
  rcases h.more with h1 | h1
  ·exact h1
  ·exact fun i k _ _ hn => Zrl h1 k (needs_lt hn).2
 refine ⟨fun k hb => ?_,fun i k hf hn => ?_,fun P h1 h2 k hk hf => ?_⟩
 ·have := Zqh hb;simp [this,h.start k this hb]
 ·simp only [Bool.and_eq_true,decide_eq_true_eq] at hf ⊢;exact ⟨(needs_lt hn).2,hc i k hf.1 hf.2 hn⟩
 ·simp only [Bool.and_eq_true,decide_eq_true_eq] at hf;exact h.sound P h1 h2 k hk hf.2
end Ru
end Go.Proofs.YtbgkfmodbofalaaGreatDoor
namespace Go.Proofs.YtbgkfmodbofalaaGreatDoor
namespace Cf
abbrev En : Type := List UInt8 × List UInt8
abbrev Ens : Type := List En
def keys (l : Ens) : List (List UInt8) := l.map (·.1)
def rm (l : Ens) (k : List UInt8) : Ens := l.filter fun e => !(e.1 == k)
def cut (many : Nat) (l : Ens) : Ens := if many < l.length then l.drop 1 else l
def put (many : Nat) (l : Ens) (k b : List UInt8) : Ens := cut many (rm l k ++ [(k,b)])
def find (l : Ens) (k : List UInt8) : Option (List UInt8) := (l.find? fun e => e.1 == k).map (·.2)
def get (many : Nat) (l : Ens) (k : List UInt8) : Ens := match find l k with | some b => put many l k b | none => l
theorem mem_rm {l : Ens} {k : List UInt8} {e : En} : e ∈ rm l k ↔ e ∈ l /\ e.1 ≠ k := by simp [rm]
theorem rm_le (l : Ens) (k : List UInt8) : (rm l k).length <= l.length := List.length_filter_le _ _
theorem rm_sub (l : Ens) (k : List UInt8) : (rm l k).Sublist l := List.filter_sublist
theorem rm_append (a b : Ens) (k : List UInt8) : rm (a ++ b) k = rm a k ++ rm b k := List.filter_append _ _
theorem Zum {l : Ens} {k : List UInt8} (h : k ∉ keys l) : rm l k = l := by
 unfold rm;rw [List.filter_eq_self];intro e he
 have : e.1 ≠ k := fun x => h (List.mem_map.2 ⟨e,he,x⟩)
 simpa using this
theorem rm_ge {l : Ens} (h : (keys l).Nodup) (k : List UInt8) : l.length <= (rm l k).length + 1 := by
 induction l with
 | nil => simp
 | cons x t ih =>
  obtain ⟨h1,h2⟩ := List.nodup_cons.1 h;by_cases e : x.1 = k
  ·have : rm (x :: t) k = rm t k := by unfold rm;rw [List.filter_cons_of_neg (by simp [e])]
   rw [this,Zum (e ▸ h1)];simp
  ·have : rm (x :: t) k = x :: rm t k := by unfold rm;rw [List.filter_cons_of_pos (by simp [e])]
   rw [this];have := ih h2;simp
   omega
theorem Zre {a b : Ens} (h : a.Sublist b) : (keys a).Sublist (keys b) := h.map _
theorem Zzc {l : Ens} (h : (keys l).Nodup) (k : List UInt8) : (keys (rm l k)).Nodup := (Zre (rm_sub l k)).nodup h
theorem rm_key (l : Ens) (k : List UInt8) : k ∉ keys (rm l k) := by
 intro h
 obtain ⟨e,he,hk⟩ := List.mem_map.1 h;exact (mem_rm.1 he).2 hk
structure Ok (many : Nat) (l : Ens) : Prop where
 few : l.length <= many
 once : (keys l).Nodup
theorem put_once {l : Ens} (h : (keys l).Nodup) (k b : List UInt8) : (keys (rm l k ++ [(k,b)])).Nodup := by
 unfold keys;rw [List.map_append,List.nodup_append];refine ⟨Zzc h k,by simp,fun x hx y hy => ?_⟩
 simp at hy;subst hy;rintro rfl;exact rm_key l x hx
theorem Ok.put {many : Nat} {l : Ens} (h : Ok many l) (k b : List UInt8) : Ok many (Cf.put many l k b) := by
 have hl : (rm l k ++ [(k,b)]).length <= many + 1 := by
  rw [List.length_append,List.length_singleton];have := rm_le l k;have := h.few;omega
 have ho := put_once h.once k b;unfold Cf.put cut;split
 ·refine ⟨by rw [List.length_drop];omega,(Zre (List.drop_sublist 1 _)).nodup ho⟩
 ·exact ⟨by omega,ho⟩
theorem Ok.get {many : Nat} {l : Ens} (h : Ok many l) (k : List UInt8) : Ok many (Cf.get many l k) := by
 unfold Cf.get;split
 ·exact h.put _ _
 ·exact h
theorem find_some {l : Ens} {k b : List UInt8} (h : find l k = some b) : (k,b) ∈ l := by
 unfold find at h;cases hf : l.find? fun e => e.1 == k with
 | none => rw [hf] at h;cases h
 | some e =>
  rw [hf] at h;have h1 := List.find?_some hf;have h2 := List.mem_of_find?_eq_some hf;have e1 : e.1 = k := by simpa using h1
  have e2 : e.2 = b := by simpa using h
  rw [<- e1,<- e2];exact h2
theorem find_none {l : Ens} {k : List UInt8} (h : find l k = none) : k ∉ keys l := by
 unfold find at h;intro hk
 obtain ⟨e,he,e1⟩ := List.mem_map.1 hk;have h0 : (l.find? fun e => e.1 == k) = none := by
  cases hf : l.find? fun e => e.1 == k with
  | none => rfl
  | some x => rw [hf] at h;cases h
 have := List.find?_eq_none.1 h0 e he;simp at this;exact this e1
theorem Zyi {l : Ens} (ho : (keys l).Nodup) {k b : List UInt8} (h : (k,b) ∈ l) : find l k = some b := by
 cases hf : find l k with
 | none => exact absurd (List.mem_map.2 ⟨_,h,rfl⟩) (find_none hf)
 | some c =>
  have h2 := find_some hf;obtain ⟨i,hi,ei⟩ := List.getElem_of_mem h;obtain ⟨j,hj,ej⟩ := List.getElem_of_mem h2;have hp := List.pairwise_iff_getElem.1 ho;have hki : ∀ m (hm : m < l.length),(keys l)[m]'(by simpa [keys] using hm) = l[m].1 := fun m hm => by simp [keys]
  rcases Nat.lt_trichotomy i j with h3 | h3 | h3
  ·exact absurd (by rw [hki i hi,hki j hj,ei,ej]) (hp i j (by simpa [keys] using hi) (by simpa [keys] using hj) h3)
  ·subst h3;rw [ei] at ej;rw [(Prod.mk.inj ej).2]
  ·exact absurd (by rw [hki i hi,hki j hj,ei,ej]) (hp j i (by simpa [keys] using hj) (by simpa [keys] using hi) h3)
theorem get_hit {many : Nat} {l : Ens} (h : Ok many l) {k b : List UInt8} (hf : find l k = some b) : Cf.get many l k = rm l k ++ [(k,b)] /\ (Cf.get many l k).Perm l := by
 have hm := find_some hf;have hl : (rm l k ++ [(k,b)]).Perm l := by
  refine (List.perm_ext_iff_of_nodup ?_ ?_).2 fun e => ?_
  ·have := put_once h.once k b;exact List.Pairwise.of_map (S := fun a b => a ≠ b) (f := fun e : En => e.1) (fun a b hab e => hab (by rw [e])) this
  ·exact List.Pairwise.of_map (S := fun a b => a ≠ b) (f := fun e : En => e.1) (fun a b hab e => hab (by rw [e])) h.once
  ·rw [List.mem_append,List.mem_singleton,mem_rm];constructor
   ·rintro (h1 | rfl)
    ·exact h1.1
    ·exact hm
   ·intro he
    by_cases e1 : e.1 = k
    ·right
     have h1 : find l k = some e.2 := Zyi h.once (by rw [<- e1];exact he)
     rw [hf] at h1;rw [Option.some.inj h1,<- e1]
    ·exact .inl ⟨he,e1⟩
 have hlen := hl.length_eq;have hg : Cf.get many l k = rm l k ++ [(k,b)] := by
  unfold Cf.get Cf.put cut;rw [hf];simp only;rw [if_neg (by rw [hlen];have := h.few;omega)]
 exact ⟨hg,hg ▸ hl⟩
def recR : Ens -> Ens
 | [] => []
 | x :: t => x :: rm (recR t) x.1
def kept (many : Nat) (A : Ens) : Ens := ((recR A.reverse).take many).reverse
theorem nodup_len {α : Type} [DecidableEq α] : ∀ {a b : List α},a.Nodup -> (∀ x ∈ a,x ∈ b) -> a.length <= b.length
 | [],_,_,_ => Nat.zero_le _
 | x :: r,b,hd,hs => by
  obtain ⟨hx,hr⟩ := List.nodup_cons.1 hd;have hxb : x ∈ b := hs x (by simp)
  have := nodup_len (a := r) (b := b.erase x) hr fun y hy => by
   have hne : y ≠ x := fun e => hx (e ▸ hy)
   exact (List.mem_erase_of_ne hne).2 (hs y (List.mem_cons_of_mem _ hy))
  rw [List.length_erase_of_mem hxb] at this;have hp := List.length_pos_of_mem hxb;simp
  omega
end Cf
end Go.Proofs.YtbgkfmodbofalaaGreatDoor
namespace Go.Proofs.YtbgkfmodbofalaaGreatDoor
open Go.Lib
def Kp.piece (s : List UInt8) : List UInt8 := Lib.decDigits s.length ++ 58 :: s
def Kp.key (kind word : List UInt8) (ins : List (List UInt8)) : List UInt8 := Kp.piece kind ++ Kp.piece word ++ ins.flatMap Kp.piece
end Go.Proofs.YtbgkfmodbofalaaGreatDoor
namespace Go.Proofs.YtbgkfmodbofalaaGreatDoor.Tf
open Go.Maps
abbrev Fs := List (List UInt8 × List UInt8)
def datum (fs : Fs) : DataW Unit := .map (fs.map fun f => (Lit.string f.1,DataW.lit (.string f.2)))
def Rises (fs : Fs) : Prop := fs.Pairwise (fun a b => bytesBefore a.1 b.1 = true)
def ins (x : List UInt8 × List UInt8) : Fs -> Fs
 | [] => [x]
 | y :: r => if bytesBefore x.1 y.1 then x :: y :: r else y :: ins x r
def del (fs : Fs) (p : List UInt8) : Fs := fs.filter fun f => !(f.1 == p)
def put (fs : Fs) (p b : List UInt8) : Fs := ins (p,b) (del fs p)
def hasP (fs : Fs) (p : List UInt8) : Bool := fs.any fun f => f.1 == p
def get (fs : Fs) (p : List UInt8) : Option (List UInt8) := (fs.find? fun f => f.1 == p).map (·.2)
theorem Znz (x : List UInt8 × List UInt8) : ∀ fs : Fs,DataW.insert (Lit.string x.1,DataW.lit (H := Unit) (.string x.2)) (fs.map fun f => (Lit.string f.1,DataW.lit (.string f.2))) = (ins x fs).map fun f => (Lit.string f.1,DataW.lit (.string f.2))
 | [] => rfl
 | y :: r => by
  unfold ins;by_cases h : bytesBefore x.1 y.1 = true
  ·have h' : (Lit.string x.1).before (Lit.string y.1) = true := h;simp only [List.map_cons,DataW.insert];rw [if_pos h',if_pos h];rfl
  ·have h' : ¬ (Lit.string x.1).before (Lit.string y.1) = true := h;simp only [List.map_cons,DataW.insert];rw [if_neg h',if_neg h,Znz x r];rfl
theorem Zoa (p : List UInt8) (fs : Fs) : (fs.map fun f => (Lit.string f.1,DataW.lit (H := Unit) (.string f.2))).filter (fun q => !q.1.sameKey (.string p)) = (del fs p).map fun f => (Lit.string f.1,DataW.lit (.string f.2)) := by
 unfold del;rw [List.filter_map];rfl
theorem datum_put (fs : Fs) (p b : List UInt8) : (datum fs).put (.string p) (.lit (.string b)) = datum (put fs p b) := by
 unfold datum put DataW.put;simp only;rw [Zoa,<- Znz]
theorem datum_has (fs : Fs) (p : List UInt8) : Maps.has (datum fs) (.string p) = hasP fs p := by
 unfold datum hasP;rw [has_eq,List.any_map];rfl
theorem datum_at (fs : Fs) (p : List UInt8) (z : DataW Unit) : (datum fs).atKey (.string p) z = match get fs p with | some b => .lit (.string b) | none => z := by
 unfold datum get DataW.atKey;simp only;rw [List.find?_map];rw [show ((fun q : Lit × DataW Unit => q.1.sameKey (.string p)) ∘ fun f : List UInt8 × List UInt8 => (Lit.string f.1,DataW.lit (H := Unit) (.string f.2))) = (fun f => f.1 == p) from rfl]
 cases List.find? (fun f => f.1 == p) fs <;> rfl
theorem datum_size (fs : Fs) : Maps.size (datum fs) = fs.length := by simp [datum,size_eq]
theorem before_lt : ∀ (x y : List UInt8),bytesBefore x y = true ↔ x < y
 | [],[] => by simp [bytesBefore]
 | [],_ :: _ => by simp [bytesBefore]
 | _ :: _,[] => by simp [bytesBefore]
 | a :: r,b :: s => by
  rw [List.cons_lt_cons_iff,<- before_lt r s];simp [bytesBefore]
theorem less_before : ∀ (x y : List UInt8),Op.bytesLess x y = bytesBefore x y
 | [],[] => rfl
 | [],_ :: _ => rfl
 | _ :: _,[] => rfl
 | a :: r,b :: s => by simp [Op.bytesLess,bytesBefore,less_before r s]
theorem Rises.del {fs : Fs} (h : Rises fs) (p : List UInt8) : Rises (del fs p) := List.Pairwise.filter _ h
theorem Zpi (x y : List UInt8 × List UInt8) : ∀ fs : Fs,y ∈ ins x fs ↔ y = x \/ y ∈ fs
 | [] => by simp [ins]
 | f :: r => by
  unfold ins;split
  ·simp
  ·simp only [List.mem_cons,Zpi x y r];constructor
   ·rintro (h | h | h) <;> simp [h]
   ·rintro (h | h | h) <;> simp [h]
theorem Rises.ins {fs : Fs} (h : Rises fs) {x : List UInt8 × List UInt8} (hx : ∀ f ∈ fs,f.1 ≠ x.1) : Rises (ins x fs) := by
 induction fs with
 | nil => simp [Tf.ins,Rises]
 | cons f r ih =>
  unfold Tf.ins;have h' := List.pairwise_cons.1 h;split
  ·rename_i hb
   refine List.pairwise_cons.2 ⟨fun g hg => ?_,h⟩
   rcases List.mem_cons.1 hg with rfl | hg
   ·exact hb
   ·exact WideShapes.bytes_trans _ _ _ hb (h'.1 g hg)
  ·rename_i hb
   refine List.pairwise_cons.2 ⟨fun g hg => ?_,ih h'.2 fun g hg => hx g (List.mem_cons_of_mem _ hg)⟩
   rcases (Zpi x g r).1 hg with rfl | hg
   ·rcases WideAt.bytes_total f.1 g.1 (hx f (by simp)) with h1 | h1
    ·exact h1
    ·exact absurd h1 hb
   ·exact h'.1 g hg
theorem mem_del {fs : Fs} {p : List UInt8} {f : List UInt8 × List UInt8} : f ∈ del fs p ↔ f ∈ fs /\ f.1 ≠ p := by simp [del]
theorem Rises.put {fs : Fs} (h : Rises fs) (p b : List UInt8) : Rises (put fs p b) := (h.del p).ins fun _ hf => (mem_del.1 hf).2
theorem mem_put {fs : Fs} {p b : List UInt8} {f : List UInt8 × List UInt8} : f ∈ put fs p b ↔ f = (p,b) \/ (f ∈ fs /\ f.1 ≠ p) := by
 unfold put;rw [Zpi,mem_del]
theorem length_ins (x : List UInt8 × List UInt8) : ∀ fs : Fs,(ins x fs).length = fs.length + 1
 | [] => rfl
 | f :: r => by
  unfold ins;split
  ·rfl
  ·simp [length_ins x r]
theorem del_none {fs : Fs} {p : List UInt8} (h : hasP fs p = false) : del fs p = fs := by
 unfold del hasP at *;rw [List.filter_eq_self];intro f hf
 have := List.any_eq_false.1 h f hf;simpa using this
theorem length_del_le (fs : Fs) (p : List UInt8) : (del fs p).length <= fs.length := List.length_filter_le _ _
theorem Zkx {fs : Fs} {p : List UInt8} (h : hasP fs p = true) : (del fs p).length < fs.length := by
 unfold del hasP at *;obtain ⟨f,hf,hp⟩ := List.any_eq_true.1 h;rcases Nat.lt_or_ge (fs.filter fun f => !(f.1 == p)).length fs.length with h1 | h1
 ·exact h1
 ·have e := List.filter_eq_self.1 (List.Sublist.eq_of_length_le (List.filter_sublist) h1) f hf;simp [hp] at e
def above (a b : List UInt8) : Bool := Lib.hasPrefix b (a ++ [47])
def clash (fs : Fs) (p : List UInt8) : Bool := fs.any fun f => above f.1 p || above p f.1
def putCode (ok : List UInt8 -> Bool) (fs : Fs) (p b : List UInt8) : Nat :=
 if ok p = false then 4 else if 2000 < b.length then 2 else if hasP fs p then 0 else if clash fs p then 7 else if 60 <= fs.length then 8 else 0
def putF (ok : List UInt8 -> Bool) (fs : Fs) (p b : List UInt8) : Fs := if putCode ok fs p b = 0 then put fs p b else fs
structure Well (ok : List UInt8 -> Bool) (fs : Fs) : Prop where
 rises : Rises fs
 few : fs.length <= 60
 each : ∀ f ∈ fs,ok f.1 = true /\ f.2.length <= 2000
 apart : ∀ f ∈ fs,∀ g ∈ fs,above f.1 g.1 = false
theorem Ztw (p : List UInt8) : above p p = false := by
 unfold above Lib.hasPrefix;cases h : (p ++ [47]).isPrefixOf p with
 | false => rfl
 | true =>
  have := (List.isPrefixOf_iff_prefix.1 h).length_le;simp at this;omega
theorem Well.nil (ok : List UInt8 -> Bool) : Well ok [] := ⟨List.Pairwise.nil,by simp,by simp,by simp⟩
theorem Well.put {ok : List UInt8 -> Bool} {fs : Fs} (h : Well ok fs) {p b : List UInt8} (hc : putCode ok fs p b = 0) : Well ok (put fs p b) := by
 unfold putCode at hc;split at hc
 ·cases hc
 rename_i hok
 split at hc
 ·cases hc
 rename_i hb
 have hok' : ok p = true := by simpa using hok
 refine ⟨h.rises.put p b,?_,?_,?_⟩
 ·unfold Tf.put;rw [length_ins];have := h.few;split at hc
  ·rename_i hh
   have := Zkx hh;omega
  ·rename_i hh
   have hh' : hasP fs p = false := by simpa using hh
   rw [del_none hh'];split at hc
   ·cases hc
   split at hc
   ·cases hc
   ·omega
 ·intro f hf
  rcases mem_put.1 hf with rfl | ⟨hf,_⟩
  ·exact ⟨hok',by simpa using hb⟩
  ·exact h.each f hf
 ·have key : ∀ f ∈ fs,f.1 ≠ p -> above f.1 p = false /\ above p f.1 = false := by
   intro f hf hne
   split at hc
   ·rename_i hh
    obtain ⟨g,hg,hgp⟩ := List.any_eq_true.1 hh;obtain rfl : g.1 = p := by simpa using hgp
    exact ⟨h.apart f hf g hg,h.apart g hg f hf⟩
   ·split at hc
    ·cases hc
    ·rename_i hcl
     have hcl' : clash fs p = false := by simpa using hcl
     have := List.any_eq_false.1 hcl' f hf;simpa using this
  intro f hf g hg
  rcases mem_put.1 hf with rfl | ⟨hf,hfp⟩ <;> rcases mem_put.1 hg with rfl | ⟨hg,hgp⟩
  ·exact Ztw p
  ·exact (key g hg hgp).2
  ·exact (key f hf hfp).1
  ·exact h.apart f hf g hg
theorem Well.putF {ok : List UInt8 -> Bool} {fs : Fs} (h : Well ok fs) (p b : List UInt8) : Well ok (putF ok fs p b) := by
 unfold Tf.putF;split
 ·rename_i hc;exact h.put hc
 ·exact h
theorem Rises.before_at {fs : Fs} (h : Rises fs) {k : Nat} (hk : k < fs.length) : ∀ f ∈ fs.take k,bytesBefore f.1 fs[k].1 = true := by
 intro f hf
 obtain ⟨j,hj,rfl⟩ := List.mem_iff_getElem.1 hf;rw [List.length_take] at hj;rw [List.getElem_take];exact List.pairwise_iff_getElem.1 h j k (by omega) hk (by omega)
def numT (d : List UInt8) : Option Nat :=
 if 4 < d.length then none else match Lib.atoi d with
  | some n => if 0 <= n /\ Lib.itoa n = d then some n.toNat else none
  | none => none
end Go.Proofs.YtbgkfmodbofalaaGreatDoor.Tf
