import Derived.Test.YtdljhggillgpfaaGreatDoorSR20
import Derived.Laws.OwnMore
import Derived.OneCell
import Derived.OwnWalk
namespace Go.Proofs.YtdljhggillgpfaaGreatDoor
open Go.RowKit Go.Shelf Go.Lib
theorem compact_upto {zs : List (List UInt8)} (hs : zs.Pairwise (fun x y => x ≤ y)) : ∀ m,m ≤ zs.length → (compactUpTo zs.toArray m).Pairwise (fun x y => x ≤ y) ∧ (compactUpTo zs.toArray m).Nodup ∧ ∀ x,x ∈ compactUpTo zs.toArray m ↔ x ∈ zs.take m
 | 0,_ => by simp [compactUpTo]
 | m + 1,h => by
  obtain ⟨h1,h2,h3⟩ := compact_upto hs m (by omega)
  have hm : m < zs.length := by omega
  have em : zs.toArray[m]! = zs[m] := by simp [hm]
  have hsd := List.pairwise_iff_getElem.1 hs
  rw [Af.compact_succ,List.take_succ_eq_append_getElem hm]
  by_cases hk : keeps zs.toArray m = true
  ·rw [if_pos hk,em]
   have hnew : zs[m] ∉ zs.take m := by
    intro hmem
    obtain ⟨j,hj,ej⟩ := List.getElem_of_mem hmem
    rw [List.getElem_take] at ej
    have hjm : j < m := by simp at hj;omega
    unfold keeps at hk
    have hk' : m = 0 ∨ zs.toArray[m]! ≠ zs.toArray[m - 1]! := by simpa using hk
    rcases hk' with h0 | h0
    ·omega
    ·rw [em,show zs.toArray[m - 1]! = zs[m - 1] by simp [show m - 1 < zs.length by omega]] at h0
     refine h0 (List.le_antisymm ?_ (hsd (m - 1) m (by omega) hm (by omega)))
     rw [← ej]
     by_cases e : j = m - 1
     ·subst e;exact List.le_refl _
     ·exact hsd j (m - 1) (by omega) (by omega) (by omega)
   refine ⟨?_,?_,fun x => ?_⟩
   ·rw [List.pairwise_append]
    refine ⟨h1,by simp,fun a ha b hb => ?_⟩
    rw [List.mem_singleton.1 hb]
    obtain ⟨j,hj,ej⟩ := List.getElem_of_mem ((h3 a).1 ha)
    rw [List.getElem_take] at ej
    rw [← ej]
    exact hsd j m (by simp at hj;omega) hm (by simp at hj;omega)
   ·rw [List.nodup_append]
    refine ⟨h2,by simp,fun a ha b hb => ?_⟩
    rw [List.mem_singleton.1 hb]
    rintro rfl
    exact hnew ((h3 _).1 ha)
   ·rw [List.mem_append,List.mem_append,h3]
  ·rw [if_neg hk,List.append_nil]
   refine ⟨h1,h2,fun x => ?_⟩
   have hk' : ¬ (m = 0 ∨ zs.toArray[m]! ≠ zs.toArray[m - 1]!) := by
    unfold keeps at hk
    simpa using hk
   have h0 : m ≠ 0 := fun e => hk' (.inl e)
   have hq : zs.toArray[m]! = zs.toArray[m - 1]! := Classical.byContradiction fun e => hk' (.inr e)
   rw [em,show zs.toArray[m - 1]! = zs[m - 1] by simp [show m - 1 < zs.length by omega]] at hq
   rw [h3,List.mem_append,List.mem_singleton]
   constructor
   ·exact .inl
   ·rintro (h4 | rfl)
    ·exact h4
    ·rw [hq]
     exact List.mem_take_iff_getElem.2 ⟨m - 1,by omega,rfl⟩
theorem compact_sorted {zs : List (List UInt8)} (hs : zs.Pairwise (fun x y => x ≤ y)) : (Lib.compact zs).Pairwise (fun x y => x ≤ y) ∧ (Lib.compact zs).Nodup ∧ ∀ x,x ∈ Lib.compact zs ↔ x ∈ zs := by
 have := compact_upto hs zs.length (Nat.le_refl _)
 rwa [List.take_length] at this
structure LeafU (l : List Ru) (i k : Nat) (r : List (List UInt8)) : Prop where
 mem : ∀ x,x ∈ r ↔ ((∃ y ∈ l.take i,x ∈ y.ins) ∨ ∃ y,l[i]? = some y ∧ x ∈ y.ins.take k) ∧ ∀ z ∈ l,z.out ≠ x
 few : r.length ≤ i * 12 + k
theorem LeafU.first (l : List Ru) : LeafU l 0 0 [] := ⟨fun x => by simp,by simp⟩
theorem LeafU.nextRule {l : List Ru} {i : Nat} {r : List (List UInt8)} (hi : i < l.length) (h12 : l[i].ins.length ≤ 12) (h : LeafU l i l[i].ins.length r) : LeafU l (i + 1) 0 r := by
 refine ⟨fun x => ?_,by have := h.few;omega⟩
 rw [h.mem,List.getElem?_eq_getElem hi,List.take_succ_eq_append_getElem hi]
 simp only [Option.some.injEq,List.mem_append,List.mem_singleton,List.take_zero,List.not_mem_nil,and_false,exists_false,or_false]
 constructor
 ·rintro ⟨h1,h2⟩
  refine ⟨?_,h2⟩
  rcases h1 with ⟨y,hy,hx⟩ | ⟨y,rfl,hx⟩
  ·exact ⟨y,.inl hy,hx⟩
  ·exact ⟨_,.inr rfl,List.mem_of_mem_take hx⟩
 ·rintro ⟨⟨y,hy,hx⟩,h2⟩
  refine ⟨?_,h2⟩
  rcases hy with hy | rfl
  ·exact .inl ⟨y,hy,hx⟩
  ·exact .inr ⟨_,rfl,by rwa [List.take_length]⟩
theorem LeafU.made {l : List Ru} {i k : Nat} {r : List (List UInt8)} (hi : i < l.length) (hk : k < l[i].ins.length) (h : LeafU l i k r) (hs : ∃ z ∈ l,z.out = l[i].ins[k]) : LeafU l i (k + 1) r := by
 refine ⟨fun x => ?_,by have := h.few;omega⟩
 rw [h.mem,List.getElem?_eq_getElem hi]
 simp only [Option.some.injEq]
 constructor
 ·rintro ⟨h1,h2⟩
  refine ⟨?_,h2⟩
  rcases h1 with h1 | ⟨y,rfl,hx⟩
  ·exact .inl h1
  ·exact .inr ⟨_,rfl,(List.take_sublist_take_left (Nat.le_succ k)).subset hx⟩
 ·rintro ⟨h1,h2⟩
  rcases h1 with h1 | ⟨y,rfl,hx⟩
  ·exact ⟨.inl h1,h2⟩
  ·rw [List.take_succ_eq_append_getElem hk,List.mem_append,List.mem_singleton] at hx
   rcases hx with hx | rfl
   ·exact ⟨.inr ⟨_,rfl,hx⟩,h2⟩
   ·obtain ⟨z,hz,e⟩ := hs
    exact absurd e (h2 z hz)
theorem LeafU.more {l : List Ru} {i k : Nat} {r : List (List UInt8)} (hi : i < l.length) (hk : k < l[i].ins.length) (h : LeafU l i k r) (hm : ∀ z ∈ l,z.out ≠ l[i].ins[k]) : LeafU l i (k + 1) (r ++ [l[i].ins[k]]) := by
 refine ⟨fun x => ?_,by rw [List.length_append,List.length_singleton];have := h.few;omega⟩
 rw [List.mem_append,List.mem_singleton,h.mem,List.getElem?_eq_getElem hi]
 simp only [Option.some.injEq]
 constructor
 ·rintro (⟨h1,h2⟩ | rfl)
  ·refine ⟨?_,h2⟩
   rcases h1 with h1 | ⟨y,rfl,hx⟩
   ·exact .inl h1
   ·exact .inr ⟨_,rfl,(List.take_sublist_take_left (Nat.le_succ k)).subset hx⟩
  ·exact ⟨.inr ⟨_,rfl,by rw [List.take_succ_eq_append_getElem hk];exact List.mem_append_right _ (List.mem_singleton.2 rfl)⟩,hm⟩
 ·rintro ⟨h1,h2⟩
  rcases h1 with h1 | ⟨y,rfl,hx⟩
  ·exact .inl ⟨.inl h1,h2⟩
  ·rw [List.take_succ_eq_append_getElem hk,List.mem_append,List.mem_singleton] at hx
   rcases hx with hx | rfl
   ·exact .inl ⟨.inr ⟨_,rfl,hx⟩,h2⟩
   ·exact .inr rfl
theorem LeafU.done {l : List Ru} {r : List (List UInt8)} (h : LeafU l l.length 0 r) : Ru.Leaves l (Lib.compact (Af.srt r)) := by
 obtain ⟨h1,h2,h3⟩ := compact_sorted (Af.srt_sorted r)
 refine ⟨h1,h2,fun x => ?_⟩
 rw [h3,(Af.srt_perm r).mem_iff,h.mem,List.take_length]
 unfold Ru.Leaf
 simp
theorem HRow.ir {B : Nat} {w : World} {v : Value} {l : List (List UInt8)} (h : HRow B w v l) : IRow w v l := by
 rcases h with ⟨rfl,rfl⟩ | ⟨g,cap,rfl,_,h2,_,hH⟩
 ·exact ⟨none,0,rfl,fun h => absurd rfl h⟩
 ·refine ⟨_,cap,rfl,fun _ => ⟨g,0,rfl,h2,fun j hj => ?_⟩⟩
  have := (hH j (by simpa using hj)).1
  rw [this]
  simp [hj]
def rowB (n : Nat) (f : Nat → Bool) : List Value := (List.range n).map (fun j => Value.bool (f j))
def Own (W : World) (B g n : Nat) (f : Nat → Bool) : Prop := W.ownsRow B 4 1 (.slice (some ⟨g,0,none⟩) n n) n (rowB n f)
theorem Tryz.infoInt : (Tryz.prog.info? 3).map (fun i => (i.zero,i.size,i.bytes)) = some (some (.int .i64 0),1,8) := by kernel_rfl
abbrev nv (x : Nat) : Value := .int .i64 (x : Int)
def slen : Value → Nat
 | .slice _ n _ => n
 | _ => 0
def NRow (w : World) (v : Value) (l : List Nat) : Prop :=
 ∃ p cap,v = .slice p l.length cap ∧ l.length ≤ cap ∧ (l ≠ [] → ∃ g cur,p = some ⟨g,0,none⟩ ∧ w.heap[g]? = some (.cells cur 3 (0,0)) ∧ ∀ j (hj : j < l.length),cur[j]? = some (nv l[j]))
theorem NRow.of_owns {w : World} {base : Nat} {v : Value} {l : List Nat} {n : Nat} (h : w.ownsRow base 3 1 v n (l.map nv)) : NRow w v l := by
 have hn : n = l.length := by have := h.1;simp at this;omega
 subst hn
 rcases h.2 with ⟨rfl,hn⟩ | ⟨g,cap,cur,rfl,_,hb,h1,_,_,h4⟩
 ·obtain rfl : l = [] := by simpa using hn
  exact ⟨none,0,rfl,Nat.le_refl _,fun h => absurd rfl h⟩
 ·refine ⟨_,cap,rfl,h1,fun _ => ⟨g,cur,rfl,hb,fun j hj => ?_⟩⟩
  have := congrArg (fun x => x[j]?) h4
  simp only [Nat.mul_one,List.getElem?_take,hj,if_true,List.getElem?_map,List.getElem?_eq_getElem hj,Option.map_some,Array.getElem?_toList] at this
  exact this
theorem owns_slen {w : World} {base : Nat} {e : TypeId} {size : Nat} {v : Value} {n : Nat} {xs : List Value} (h : w.ownsRow base e size v n xs) : slen v = n := by
 rcases h.2 with ⟨rfl,hn⟩ | ⟨g,cap,cur,rfl,_⟩
 ·exact hn.symm
 ·rfl
theorem one_new (W : World) (x : Value) (t : TypeId) (n : Nat) (hn : W.heap.size = n) (j : Nat) (u : Value) (h : [x][j]? = some u) : (W.alloc (.cells #[x] t)).cell? ((⟨n,0,none⟩ : Addr).add j) = some u := by
 subst hn
 exact cell_one_new W x t j u h
def NIRow (w : World) (v : Value) (l : List Nat) : Prop :=
 ∃ p cap,v = .slice p l.length cap ∧ (l ≠ [] → ∃ g o,p = some ⟨g,o,none⟩ ∧ g < w.heap.size ∧ ∀ j (hj : j < l.length),w.cell? ⟨g,o + j,none⟩ = some (nv l[j]))
theorem NIRow.below {w w' : World} {v : Value} {l : List Nat} (h : NIRow w v l) (hb : Below w.heap.size w w') : NIRow w' v l := by
 obtain ⟨p,cap,e,h1⟩ := h
 refine ⟨p,cap,e,fun hl => ?_⟩
 obtain ⟨g,o,e,hg,hc⟩ := h1 hl
 exact ⟨g,o,e,Nat.lt_of_lt_of_le hg hb.size,fun j hj => (hb.cell (p := ⟨g,o + j,none⟩) hg).trans (hc j hj)⟩
theorem NRow.ni {w : World} {v : Value} {l : List Nat} (h : NRow w v l) : NIRow w v l := by
 obtain ⟨p,cap,e,_,h1⟩ := h
 refine ⟨p,cap,e,fun hl => ?_⟩
 obtain ⟨g,cur,e,hg,hc⟩ := h1 hl
 exact ⟨g,0,e,(Array.getElem?_eq_some_iff.1 hg).1,fun j hj => by rw [Nat.zero_add];exact cell_of_row hg (hc j hj)⟩
namespace Ru
def needs (l : List Ru) (i k : Nat) : Bool :=
 match l[i]?,l[k]? with
 | some a,some b => decide (b.out ∈ a.ins)
 | _,_ => false
theorem needs_eq {l : List Ru} {i k : Nat} (hi : i < l.length) (hk : k < l.length) : needs l i k = decide (l[k].out ∈ l[i].ins) := by
 unfold needs
 rw [List.getElem?_eq_getElem hi,List.getElem?_eq_getElem hk]
theorem needs_lt {l : List Ru} {i k : Nat} (h : needs l i k = true) : i < l.length ∧ k < l.length := by
 unfold needs at h
 split at h
 ·rename_i a b ha hb
  exact ⟨(List.getElem?_eq_some_iff.1 ha).1,(List.getElem?_eq_some_iff.1 hb).1⟩
 ·cases h
def freeTo (l : List Ru) (done : Nat → Bool) (i m : Nat) : Bool := (List.range m).all fun k => done k || !needs l i k
def may (l : List Ru) (some done : Nat → Bool) (i : Nat) : Bool := some i && !done i && freeTo l done i l.length
def nextTo (l : List Ru) (some done : Nat → Bool) (m : Nat) : Option Nat := (List.range m).find? (may l some done)
theorem nextTo_succ (l : List Ru) (some done : Nat → Bool) (m : Nat) : nextTo l some done (m + 1) = (nextTo l some done m).or (if may l some done m = true then Option.some m else none) := by
 unfold nextTo
 rw [List.range_succ,List.find?_append]
 congr 1
 simp [List.find?_cons]
 split <;> simp_all
def leftTo (some done : Nat → Bool) (m : Nat) : Bool := (List.range m).any fun i => some i && !done i
theorem leftTo_succ (some done : Nat → Bool) (m : Nat) : leftTo some done (m + 1) = (leftTo some done m || (some m && !done m)) := by
 unfold leftTo
 rw [List.range_succ,List.any_append]
 simp
def isIn (o : List Nat) (i : Nat) : Bool := decide (i ∈ o)
def orderF (l : List Ru) (some : Nat → Bool) : Nat → List Nat → Option (List Nat)
 | 0,_ => none
 | f + 1,o =>
  if leftTo some (isIn o) l.length = true then
   match nextTo l some (isIn o) l.length with
   | none => none
   | Option.some i => orderF l some f (o ++ [i])
  else Option.some o
def order (l : List Ru) (some : Nat → Bool) : Option (List Nat) := orderF l some (l.length + 1) []
theorem nextTo_some {l : List Ru} {some done : Nat → Bool} {m i : Nat} (h : nextTo l some done m = Option.some i) : i < m ∧ may l some done i = true := by
 unfold nextTo at h
 exact ⟨List.mem_range.1 (List.mem_of_find?_eq_some h),List.find?_some h⟩
end Ru
end Go.Proofs.YtdljhggillgpfaaGreatDoor
namespace Go.Proofs.YtdljhggillgpfaaGreatDoor
open Go.RowKit Go.Shelf Go.Lib
theorem owns_far {w : World} {base base' : Nat} {e e' : TypeId} {size size' : Nat} {v : Value} {g m c n n' : Nat} {xs xs' : List Value} (h : w.ownsRow base e size v n xs) (hu : w.ownsRow base' e' size' (.slice (some ⟨g,0,none⟩) m c) n' xs') (he : e ≠ e') : v.ownBlock ≠ some g := by
 rcases h.2 with ⟨rfl,_⟩ | ⟨b,cap,cur,rfl,_,hb,_⟩
 ·simp [Value.ownBlock]
 ·rcases hu.2 with ⟨h',_⟩ | ⟨g',cap',cur',h',_,hb',_⟩
  ·cases h'
  ·cases h'
   simp only [Value.ownBlock,ne_eq,Option.some.injEq]
   rintro rfl
   rw [hb] at hb'
   simp at hb'
   exact he hb'.2
theorem len_le : ∀ {n : Nat} {o : List Nat},o.Nodup → (∀ i ∈ o,i < n) → o.length ≤ n
 | 0,o,_,hb => by
  cases o with
  | nil => simp
  | cons a r => exact absurd (hb a (by simp)) (by omega)
 | n + 1,o,hd,hb => by
  have h1 := len_le (n := n) (hd.erase n) (fun i hi => by
   obtain ⟨hne,hm⟩ := (List.Nodup.mem_erase_iff hd).1 hi
   have := hb i hm
   omega)
  by_cases hm : n ∈ o
  ·rw [List.length_erase_of_mem hm] at h1
   omega
  ·rw [List.erase_of_not_mem hm] at h1
   omega
end Go.Proofs.YtdljhggillgpfaaGreatDoor
namespace Go.Proofs.YtdljhggillgpfaaGreatDoor
open Go.RowKit Go.Shelf Go.Lib
namespace Ru
def base (l : List Ru) (outs : List (List UInt8)) (k : Nat) : Bool :=
 match l[k]? with
 | some r => decide (r.out ∈ outs)
 | none => false
theorem base_eq {l : List Ru} {outs : List (List UInt8)} {k : Nat} (h : k < l.length) : base l outs k = decide (l[k].out ∈ outs) := by
 unfold base
 rw [List.getElem?_eq_getElem h]
structure Needed (l : List Ru) (outs : List (List UInt8)) (f : Nat → Bool) : Prop where
 start : ∀ k,base l outs k = true → f k = true
 closed : ∀ i k,f i = true → needs l i k = true → f k = true
 least : ∀ P : Nat → Prop,(∀ k,base l outs k = true → P k) → (∀ i k,P i → needs l i k = true → P k) → ∀ k,k < l.length → f k = true → P k
theorem Needed.unique {l : List Ru} {outs : List (List UInt8)} {f g : Nat → Bool} (hf : Needed l outs f) (hg : Needed l outs g) (k : Nat) (hk : k < l.length) : f k = g k := by
 rw [Bool.eq_iff_iff]
 exact ⟨hf.least (fun k => g k = true) hg.start hg.closed k hk,hg.least (fun k => f k = true) hf.start hf.closed k hk⟩
def cnt (f : Nat → Bool) : Nat → Nat
 | 0 => 0
 | n + 1 => cnt f n + (if f n = true then 1 else 0)
theorem base_lt {l : List Ru} {outs : List (List UInt8)} {k : Nat} (h : base l outs k = true) : k < l.length := by
 unfold base at h
 split at h
 ·rename_i r hr
  exact (List.getElem?_eq_some_iff.1 hr).1
 ·cases h
end Ru
end Go.Proofs.YtdljhggillgpfaaGreatDoor
namespace Go.Proofs.YtdljhggillgpfaaGreatDoor
open Go.RowKit Go.Shelf Go.Lib
theorem Tryz.infoInts : (Tryz.prog.info? 147).map (fun i => (i.zero,i.size,i.bytes)) = some (some (.slice none 0 0),1,24) := by kernel_rfl
end Go.Proofs.YtdljhggillgpfaaGreatDoor
namespace Go.Proofs.YtdljhggillgpfaaGreatDoor
open Go.RowKit Go.Shelf Go.Lib
namespace Ru
def Apart (l : List Ru) : Prop := ∀ i j (hi : i < l.length) (hj : j < l.length),l[i].out = l[j].out → i = j
theorem fault_ok {l : List Ru} (h : (fault l).1 = 0) : l.length ≤ 40 ∧ Apart l := by
 have h40 : l.length ≤ 40 := by
  refine Nat.le_of_not_lt fun hlt => ?_
  rw [fault_many hlt] at h
  cases h
 have hz : ∀ j,j < l.length → errAt l j = 0 := by
  unfold fault at h
  rw [if_neg (by omega)] at h
  split at h
  ·rename_i k hk
   exact absurd h (first_some_ne hk)
  ·rename_i hk
   exact fun j hj => first_none_zero hk j hj
 refine ⟨h40,?_⟩
 have key : ∀ i j (hi : i < l.length) (hj : j < l.length),i < j → l[i].out ≠ l[j].out := by
  intro i j hi hj hij he
  have h1 := hz j hj
  rw [errAt_eq hj] at h1
  split at h1
  ·rename_i h2
   exact h2 h1
  ·split at h1
   ·cases h1
   ·rename_i h3
    refine h3 (List.mem_map.2 ⟨l[i],?_,he⟩)
    exact List.mem_take_iff_getElem.2 ⟨i,by omega,rfl⟩
 intro i j hi hj he
 rcases Nat.lt_trichotomy i j with h1 | h1 | h1
 ·exact absurd he (key i j hi hj h1)
 ·exact h1
 ·exact absurd he.symm (key j i hj hi h1)
def mkr (l : List Ru) (x : List UInt8) : Option Nat := l.findIdx? fun r => r.out == x
theorem mkr_none {l : List Ru} {x : List UInt8} (h : mkr l x = none) : ∀ r ∈ l,r.out ≠ x := by
 unfold mkr at h
 rw [List.findIdx?_eq_none_iff] at h
 intro r hr
 simpa using h r hr
theorem mkr_some {l : List Ru} {x : List UInt8} {k : Nat} (h : mkr l x = some k) : ∃ hk : k < l.length,l[k].out = x ∧ ∀ j (hj : j < k),l[j].out ≠ x := by
 unfold mkr at h
 rw [List.findIdx?_eq_some_iff_getElem] at h
 obtain ⟨hk,h1,h2⟩ := h
 exact ⟨hk,by simpa using h1,fun j hj => by simpa using h2 j hj⟩
theorem mkr_eq {l : List Ru} (hA : Apart l) {k : Nat} (hk : k < l.length) : mkr l l[k].out = some k := by
 cases h : mkr l l[k].out with
 | none => exact absurd rfl (mkr_none h l[k] (List.getElem_mem hk))
 | some j =>
  obtain ⟨hj,h1,_⟩ := mkr_some h
  rw [hA j k hj hk h1]
def needL (l : List Ru) (ins : List (List UInt8)) : List Nat := ins.filterMap (mkr l)
theorem needL_mem {l : List Ru} (hA : Apart l) {i : Nat} (hi : i < l.length) (k : Nat) : k ∈ needL l l[i].ins ↔ needs l i k = true := by
 unfold needL
 rw [List.mem_filterMap]
 constructor
 ·rintro ⟨x,hx,hk⟩
  obtain ⟨hkl,h1,_⟩ := mkr_some hk
  rw [needs_eq hi hkl]
  simpa [h1] using hx
 ·intro h
  have hkl := (needs_lt h).2
  rw [needs_eq hi hkl] at h
  exact ⟨l[k].out,by simpa using h,mkr_eq hA hkl⟩
theorem needL_len (l : List Ru) (ins : List (List UInt8)) : (needL l ins).length ≤ ins.length := List.length_filterMap_le _ _
theorem needL_succ (l : List Ru) {ins : List (List UInt8)} {m : Nat} (hm : m < ins.length) : needL l (ins.take (m + 1)) = needL l (ins.take m) ++ (mkr l ins[m]).toList := by
 unfold needL
 rw [List.take_succ_eq_append_getElem hm,List.filterMap_append]
 cases h : mkr l ins[m] <;> simp [h]
end Ru
def mkF : Nat → List Ru → List MapEntry
 | _,[] => []
 | k,r :: t => { key := .string (ba r.out),val := nv k,born := k } :: mkF (k + 1) t
theorem mkF_snoc (r : Ru) : ∀ (k : Nat) (l : List Ru),mkF k (l ++ [r]) = mkF k l ++ [({ key := .string (ba r.out),val := nv (k + l.length),born := k + l.length } : MapEntry)]
 | k,[] => by simp [mkF]
 | k,x :: t => by
  have := mkF_snoc r (k + 1) t
  simp only [List.cons_append,mkF,this,List.length_cons]
  rw [show k + 1 + t.length = k + (t.length + 1) by omega]
theorem sameNow_ba (a b : List UInt8) : Instr.sameNow .string (.string (ba a)) (.string (ba b)) = some (decide (a = b)) := by
 show some (ba a == ba b) = _
 congr 1
 rw [Bool.eq_iff_iff,MapKept.bytes_beq,decide_eq_true_eq]
 exact ⟨ba_inj,fun e => by rw [e]⟩
theorem mkF_none {s : List UInt8} : ∀ {l : List Ru} {k j : Nat},(∀ x ∈ l,x.out ≠ s) → Instr.findNow .string (.string (ba s)) (mkF k l) j = some none
 | [],_,_,_ => rfl
 | x :: t,k,j,h => by
  have hx : ¬ s = x.out := fun e => h x (by simp) e.symm
  simp only [mkF,Instr.findNow,sameNow_ba,hx,decide_false]
  exact mkF_none fun y hy => h y (List.mem_cons_of_mem _ hy)
theorem mkF_some {s : List UInt8} : ∀ {l : List Ru} {k j i : Nat} (hi : i < l.length),l[i].out = s → (∀ m (hm : m < i),l[m].out ≠ s) → Instr.findNow .string (.string (ba s)) (mkF k l) j = some (some (j + i,nv (k + i)))
 | [],_,_,_,hi,_,_ => by simp at hi
 | x :: t,k,j,0,_,he,_ => by
  have hx : s = x.out := by simpa using he.symm
  simp only [mkF,Instr.findNow,sameNow_ba,hx,decide_true]
  rfl
 | x :: t,k,j,i + 1,hi,he,hm => by
  have hx : ¬ s = x.out := fun e => hm 0 (by omega) e.symm
  simp only [mkF,Instr.findNow,sameNow_ba,hx,decide_false]
  have := mkF_some (s := s) (l := t) (k := k + 1) (j := j + 1) (i := i) (by simpa using hi) (by simpa using he) fun m hml => by
   have := hm (m + 1) (by omega)
   simpa using this
  rw [this]
  rw [show j + 1 + i = j + (i + 1) by omega,show k + 1 + i = k + (i + 1) by omega]
theorem look_mk {W : World} {bm c : Nat} {l : List Ru} (h : W.heap[bm]? = some (.map (mkF 0 l).toArray c)) (s : List UInt8) :
  (Instr.lookup 197 (.map (some bm)) (.string (ba s)) true).run Tryz.prog W = .ok (.tuple #[nv ((Ru.mkr l s).getD 0),.bool (Ru.mkr l s).isSome]) W := by
 cases hm : Ru.mkr l s with
 | none => exact run_look_none 197 9 3 bm c _ (ba s) Tryz.underlying197 Tryz.underlying9 h (.int .i64 0) (Tryz.zeroValue3 W) (mkF_none (Ru.mkr_none hm))
 | some k =>
  obtain ⟨hk,h1,h2⟩ := Ru.mkr_some hm
  have := mkF_some (s := s) (k := 0) (j := 0) hk h1 h2
  rw [Nat.zero_add] at this
  exact run_look 197 9 3 bm c _ (ba s) Tryz.underlying197 Tryz.underlying9 h k (nv k) this
structure ShAt (W : World) (l : List Ru) (p bm G : Nat) (vals : Nat → Value) : Prop where
 c0 : W.cell? ⟨p,0,none⟩ = some (.map (some bm))
 c1 : W.cell? ⟨p,1,none⟩ = some (.slice (some ⟨G,0,none⟩) l.length l.length)
 map : W.heap[bm]? = some (.map (mkF 0 l).toArray l.length)
 row : ∀ i (hi : i < l.length),W.cell? ⟨G,i,none⟩ = some (vals i) ∧ NIRow W (vals i) (Ru.needL l l[i].ins)
theorem ShAt.below {W W' : World} {l : List Ru} {p bm G : Nat} {vals : Nat → Value} (h : ShAt W l p bm G vals) (hb : Below W.heap.size W W') : ShAt W' l p bm G vals :=
 ⟨cell_below' h.c0 hb,cell_below' h.c1 hb,(hb.block bm (Array.getElem?_eq_some_iff.1 h.map).1).trans h.map,fun i hi => ⟨cell_below' (h.row i hi).1 hb,(h.row i hi).2.below hb⟩⟩
def setB (W : World) (b : Nat) (o : Obj) : World := { W with heap := W.heap.setIfInBounds b o }
theorem setB_other (W : World) (b : Nat) (o : Obj) {c : Nat} (h : c ≠ b) : (setB W b o).heap[c]? = W.heap[c]? := by
 unfold setB
 exact Array.getElem?_setIfInBounds_ne (fun e => h e.symm)
theorem setB_same (W : World) (b : Nat) (o : Obj) (h : b < W.heap.size) : (setB W b o).heap[b]? = some o := by
 unfold setB
 simp [h]
theorem setB_size (W : World) (b : Nat) (o : Obj) : (setB W b o).heap.size = W.heap.size := by unfold setB;simp
theorem setB_grown (W : World) (b : Nat) (o : Obj) : W.grownBy (setB W b o) (some b) :=
 ⟨rfl,rfl,rfl,by rw [setB_size];exact Nat.le_refl _,fun k _ hk => setB_other W b o fun e => hk (by rw [e])⟩
theorem setB_below {B : Nat} {w W : World} (h : Below B w W) (b : Nat) (o : Obj) (hb : B ≤ b) : Below B w (setB W b o) :=
 ⟨h.os,h.tape,h.output,by rw [setB_size];exact h.size,fun k hk => (setB_other W b o (by omega)).trans (h.block k hk)⟩
def topV (n : Nat) (vals : Nat → Value) : List Value := (List.range n).map vals
theorem topV_get {n : Nat} (vals : Nat → Value) {j : Nat} (h : j < n) : (topV n vals)[j]? = some (vals j) := by simp [topV,h]
theorem topV_set (n : Nat) (vals : Nat → Value) (k : Nat) (v : Value) : (topV n vals).set k v = topV n (fun j => if j = k then v else vals j) := by
 apply List.ext_getElem?
 intro j
 unfold topV
 rw [List.getElem?_set]
 by_cases hj : j < n
 ·by_cases e : k = j
  ·subst e;simp [hj]
  ·have e' : ¬ j = k := fun h => e h.symm
   simp [hj,e,e']
 ·by_cases e : k = j
  ·subst e;simp [hj]
  ·simp [hj,e]
theorem topV_congr {n : Nat} {f g : Nat → Value} (h : ∀ j,j < n → f j = g j) : topV n f = topV n g := by
 unfold topV
 exact List.map_congr_left fun j hj => h j (List.mem_range.1 hj)
abbrev topR (G n : Nat) : Value := .slice (some ⟨G,0,none⟩) n n
structure LookA (B : Nat) (w W : World) (l : List Ru) (p bm G k : Nat) : Prop where
 below : Below B w W
 size : B ≤ W.heap.size
 lowm : B ≤ bm
 lowp : B ≤ p
 nep : p ≠ bm
 neG : G ≠ bm
 negp : G ≠ p
 c0 : W.cell? ⟨p,0,none⟩ = some (.map (some bm))
 c1 : W.cell? ⟨p,1,none⟩ = some (topR G l.length)
 map : W.heap[bm]? = some (.map (mkF 0 (l.take k)).toArray k)
 top : W.ownsRow B 147 1 (topR G l.length) l.length (topV l.length fun _ => .slice none 0 0)
theorem own_lt {W : World} {B : Nat} {e : TypeId} {s n : Nat} {v : Value} {xs : List Value} (h : W.ownsRow B e s v n xs) : ∀ g,v.ownBlock = some g → B ≤ g ∧ g < W.heap.size := by
 intro g hg
 rcases h.2 with ⟨rfl,_⟩ | ⟨g',cap,cur,rfl,hb,hc,_⟩
 ·simp [Value.ownBlock] at hg
 ·simp only [Value.ownBlock,Option.some.injEq] at hg
  subst hg
  exact ⟨hb,(Array.getElem?_eq_some_iff.1 hc).1⟩
theorem own_base {W : World} {B B' : Nat} {e : TypeId} {s n : Nat} {v : Value} {xs : List Value} (h : W.ownsRow B e s v n xs) (hB : B' ≤ B) : W.ownsRow B' e s v n xs := by
 refine ⟨h.1,?_⟩
 rcases h.2 with h1 | ⟨g,cap,cur,h1,h2,h3⟩
 ·exact .inl h1
 ·exact .inr ⟨g,cap,cur,h1,Nat.le_trans hB h2,h3⟩
theorem LookA.make {w1 w2 : World} {l : List Ru} (hown : w2.ownsRow w1.heap.size 147 1 (.slice (some ⟨(w1.alloc (.map #[] 0)).heap.size,0,none⟩) l.length l.length) l.length (madeCells (Value.slice none 0 0).cells (l.length * 1)).toList) (hgrow : (w1.alloc (.map #[] 0)).grownBy w2 none) :
  LookA w1.heap.size w1 (w2.alloc (.cells #[.map (some w1.heap.size),.slice (some ⟨w1.heap.size + 1,0,none⟩) l.length l.length] 200)) l w2.heap.size w1.heap.size (w1.heap.size + 1) 0 := by
 have hz1 : (w1.alloc (.map #[] 0)).heap.size = w1.heap.size + 1 := by simp
 rw [hz1] at hown
 have hA1 : Below w1.heap.size w1 (w1.alloc (.map #[] 0)) := (Below.refl _ w1).alloc (Nat.le_refl _) _
 have hB2 : Below w1.heap.size w1 w2 := hA1.grown hgrow (by omega) (fun j e => by cases e)
 have hG := own_lt hown (w1.heap.size + 1) rfl
 have hm2 : w2.heap[w1.heap.size]? = some (.map #[] 0) := by
  rw [hgrow.block w1.heap.size (by omega) (by simp)]
  show (w1.heap.push _)[w1.heap.size]? = _
  simp
 have hA2 : Below w2.heap.size w2 (w2.alloc (.cells #[.map (some w1.heap.size),.slice (some ⟨w1.heap.size + 1,0,none⟩) l.length l.length] 200)) := (Below.refl _ w2).alloc (Nat.le_refl _) _
 have e : (madeCells (Value.slice none 0 0).cells (l.length * 1)).toList = topV l.length (fun _ => .slice none 0 0) := by
  rw [Nat.mul_one]
  refine (toList_madeCells_one _ _).trans ?_
  unfold topV
  rw [List.map_const']
  simp
 rw [e] at hown
 exact ⟨hB2.alloc (by omega) _,by simp;omega,Nat.le_refl _,by omega,by omega,by omega,by omega,by simp,by simp,(hA2.block _ (by omega)).trans hm2,hown.alloc _⟩
theorem LookA.next {B : Nat} {w W : World} {l : List Ru} {p bm G k : Nat} (h : LookA B w W l p bm G k) (hk : k < l.length) (o : Obj) :
  LookA B w (setB (W.alloc o).drew bm (.map (mkF 0 (l.take k) ++ [({ key := .string (ba l[k].out),val := nv k,born := k } : MapEntry)]).toArray (k + 1))) l p bm G (k + 1) := by
 have hbm := (Array.getElem?_eq_some_iff.1 h.map).1
 have hA : Below W.heap.size W (W.alloc o).drew := ((Below.refl _ W).alloc (Nat.le_refl _) _).drew
 have hz := hA.size
 refine ⟨setB_below ((h.below.alloc h.size _).drew) _ _ h.lowm,by rw [setB_size];exact Nat.le_trans h.size hz,h.lowm,h.lowp,h.nep,h.neG,h.negp,?_,?_,?_,?_⟩
 ·exact (World.cell?_of_block (a := ⟨p,0,none⟩) (setB_other _ bm _ h.nep)).trans (cell_below' h.c0 hA)
 ·exact (World.cell?_of_block (a := ⟨p,1,none⟩) (setB_other _ bm _ h.nep)).trans (cell_below' h.c1 hA)
 ·rw [setB_same _ _ _ (by omega),List.take_succ_eq_append_getElem hk,mkF_snoc]
  simp only [Nat.zero_add,List.length_take,Nat.min_eq_left (Nat.le_of_lt hk)]
 ·have h1 : (W.alloc o).drew.ownsRow B 147 1 (topR G l.length) l.length (topV l.length fun _ => .slice none 0 0) := h.top.alloc o
  exact h1.kept (setB_grown _ _ _) (.inr (by simp [Value.ownBlock,h.neG]))
structure LookB (B : Nat) (w W : World) (l : List Ru) (p bm G k : Nat) (vals : Nat → Value) : Prop where
 below : Below B w W
 size : B ≤ W.heap.size
 c0 : W.cell? ⟨p,0,none⟩ = some (.map (some bm))
 c1 : W.cell? ⟨p,1,none⟩ = some (topR G l.length)
 map : W.heap[bm]? = some (.map (mkF 0 l).toArray l.length)
 top : W.ownsRow B 147 1 (topR G l.length) l.length (topV l.length vals)
 lowp : B ≤ p
 negp : G ≠ p
 negm : G ≠ bm
 row : ∀ j (hj : j < l.length),j < k → W.ownsRow B 3 1 (vals j) (Ru.needL l l[j].ins).length ((Ru.needL l l[j].ins).map nv)
 nils : ∀ j,k ≤ j → vals j = .slice none 0 0
theorem LookA.start {B : Nat} {w W : World} {l : List Ru} {p bm G : Nat} (h : LookA B w W l p bm G l.length) : LookB B w W l p bm G 0 (fun _ => .slice none 0 0) :=
 ⟨h.below,h.size,h.c0,h.c1,by have := h.map;rwa [List.take_length] at this,h.top,h.lowp,h.negp,h.neG,fun j _ hj => absurd hj (Nat.not_lt_zero j),fun _ _ => rfl⟩
theorem LookB.done {B : Nat} {w W : World} {l : List Ru} {p bm G : Nat} {vals : Nat → Value} (h : LookB B w W l p bm G l.length vals) : ShAt W l p bm G vals :=
 ⟨h.c0,h.c1,h.map,fun i hi => ⟨by
  have := World.ownsRow.cellAt h.top i (by omega)
  rw [this,topV_get vals hi],(NRow.of_owns (h.row i hi hi)).ni⟩⟩
structure LookC (B Bk : Nat) (w W : World) (l : List Ru) (p bm G k : Nat) (vals : Nat → Value) (r : List Nat) (vi : Value) : Prop where
 below : Below B w W
 low : B ≤ Bk
 size : Bk ≤ W.heap.size
 c0 : W.cell? ⟨p,0,none⟩ = some (.map (some bm))
 c1 : W.cell? ⟨p,1,none⟩ = some (topR G l.length)
 map : W.heap[bm]? = some (.map (mkF 0 l).toArray l.length)
 ltm : bm < Bk
 ltp : p < Bk
 ltG : G < Bk
 lowp : B ≤ p
 negp : G ≠ p
 negm : G ≠ bm
 top : W.ownsRow B 147 1 (topR G l.length) l.length (topV l.length fun j => if j = k then vi else vals j)
 row : ∀ j (hj : j < l.length),j < k → W.ownsRow B 3 1 (vals j) (Ru.needL l l[j].ins).length ((Ru.needL l l[j].ins).map nv) ∧ ∀ g,(vals j).ownBlock = some g → g < Bk
 mine : W.ownsRow Bk 3 1 vi r.length (r.map nv)
 nils : ∀ j,k < j → vals j = .slice none 0 0
theorem LookB.enter {B : Nat} {w W : World} {l : List Ru} {p bm G k : Nat} {vals : Nat → Value} (h : LookB B w W l p bm G k vals) (o : Obj) : LookC B (W.alloc o).heap.size w (W.alloc o) l p bm G k vals [] (.slice none 0 0) := by
 have hA : Below W.heap.size W (W.alloc o) := (Below.refl _ W).alloc (Nat.le_refl _) _
 have hz : (W.alloc o).heap.size = W.heap.size + 1 := by simp
 have hG := own_lt h.top G rfl
 have hbm := (Array.getElem?_eq_some_iff.1 h.map).1
 have hp := lt_of_cell h.c0
 simp only at hp
 refine ⟨h.below.alloc h.size _,Nat.le_trans h.size hA.size,Nat.le_refl _,cell_below' h.c0 hA,cell_below' h.c1 hA,(hA.block bm hbm).trans h.map,by omega,by omega,by omega,h.lowp,h.negp,h.negm,?_,fun j hj hjk => ⟨(h.row j hj hjk).alloc o,fun g hg => ?_⟩,World.ownsRow_nil _ _ _ _,fun j hj => h.nils j (by omega)⟩
 ·have e : topV l.length (fun j => if j = k then Value.slice none 0 0 else vals j) = topV l.length vals := topV_congr fun j _ => by
   by_cases ej : j = k
   ·rw [if_pos ej,h.nils j (by omega)]
   ·rw [if_neg ej]
  rw [e]
  exact h.top.alloc o
 ·have := (own_lt (h.row j hj hjk) g hg).2
  omega
theorem LookC.leave {B Bk : Nat} {w W : World} {l : List Ru} {p bm G k : Nat} {vals : Nat → Value} {vi : Value} (hk : k < l.length) (h : LookC B Bk w W l p bm G k vals (Ru.needL l l[k].ins) vi) : LookB B w W l p bm G (k + 1) (fun j => if j = k then vi else vals j) := by
 refine ⟨h.below,Nat.le_trans h.low h.size,h.c0,h.c1,h.map,h.top,h.lowp,h.negp,h.negm,fun j hj hjk => ?_,fun j hj => ?_⟩
 ·by_cases e : j = k
  ·subst e
   show W.ownsRow B 3 1 (if j = j then vi else vals j) _ _
   rw [if_pos rfl]
   exact own_base h.mine h.low
  ·show W.ownsRow B 3 1 (if j = k then vi else vals j) _ _
   rw [if_neg e]
   exact (h.row j hj (by omega)).1
 ·show (if j = k then vi else vals j) = _
  rw [if_neg (by omega)]
  exact h.nils j (by omega)
theorem LookC.more {B Bk : Nat} {w W W1 w1 : World} {l : List Ru} {p bm G k : Nat} {vals : Nat → Value} {r : List Nat} {vi v1 : Value} {x : Nat} (h : LookC B Bk w W l p bm G k vals r vi) (h1 : Below W.heap.size W W1) (hg : W1.grownBy w1 vi.ownBlock)
  (hown : w1.ownsRow Bk 3 1 v1 (r.length + 1) (r.map nv ++ [nv x])) (hblk : v1.ownBlock ≠ some G) :
  LookC B Bk w (w1.setCell ⟨G,k,none⟩ v1) l p bm G k vals (r ++ [x]) v1 := by
 have hmine := own_lt h.mine
 have hB1 : ∀ c,c < Bk → w1.heap[c]? = W.heap[c]? := fun c hc => by
  have hcw : c < W.heap.size := Nat.lt_of_lt_of_le hc h.size
  rw [hg.block c (Nat.lt_of_lt_of_le hcw h1.size) (fun e => by
   have := (hmine c e.symm).1
   omega)]
  exact h1.block c hcw
 have hS : ∀ c,c ≠ G → (w1.setCell ⟨G,k,none⟩ v1).heap[c]? = w1.heap[c]? := fun c hc => Below.heap_setCell w1 ⟨G,k,none⟩ v1 c hc
 have hz : (w1.setCell ⟨G,k,none⟩ v1).heap.size = w1.heap.size := by simp
 have hlow := h.low
 have h1z := h1.size
 have hgz := hg.size
 have hsz := h.size
 have hGB : B ≤ G := (own_lt h.top G rfl).1
 have keep : ∀ {e : TypeId} {n : Nat} {v : Value} {xs : List Value},W.ownsRow B e 1 v n xs → (∀ g,v.ownBlock = some g → g < Bk) → w1.ownsRow B e 1 v n xs := fun {e n v xs} ho hb => by
  refine ⟨ho.1,?_⟩
  rcases ho.2 with h2 | ⟨g,cap,cur,rfl,h3,h4,h5⟩
  ·exact .inl h2
  ·exact .inr ⟨g,cap,cur,rfl,h3,(hB1 g (hb g rfl)).trans h4,h5⟩
 refine ⟨?_,h.low,by rw [hz];omega,?_,?_,?_,h.ltm,h.ltp,h.ltG,h.lowp,h.negp,h.negm,?_,fun j hj hjk => ⟨?_,(h.row j hj hjk).2⟩,?_,h.nils⟩
 ·refine Below.setCell (p := ⟨G,k,none⟩) ?_ hGB _
  exact (h.below.trans (h1.mono (by omega))).grown hg (by omega) fun j e => by have := (hmine j e).1;omega
 ·exact (World.cell?_of_block (a := ⟨p,0,none⟩) ((hS p (fun e => h.negp e.symm)).trans (hB1 p h.ltp))).trans h.c0
 ·exact (World.cell?_of_block (a := ⟨p,1,none⟩) ((hS p (fun e => h.negp e.symm)).trans (hB1 p h.ltp))).trans h.c1
 ·exact ((hS bm (fun e => h.negm e.symm)).trans (hB1 bm h.ltm)).trans h.map
 ·have ht := keep h.top (fun g e => by cases e;exact h.ltG)
  have := (World.ownsRow.stored ht k v1).1
  rw [topV_set] at this
  have e : topV l.length (fun j => if j = k then v1 else if j = k then vi else vals j) = topV l.length (fun j => if j = k then v1 else vals j) := topV_congr fun j _ => by
   by_cases ej : j = k
   ·rw [if_pos ej,if_pos ej]
   ·rw [if_neg ej,if_neg ej,if_neg ej]
  rw [e] at this
  exact this
 ·obtain ⟨ho,hb⟩ := h.row j hj hjk
  refine ownsRow_setCell_other (keep ho hb) ?_ _
  exact owns_far (keep ho hb) (keep h.top (fun g e => by cases e;exact h.ltG)) (by decide)
 ·rw [List.length_append,List.length_singleton,List.map_append]
  exact ownsRow_setCell_other hown hblk _
theorem LookC.after {B Bk : Nat} {w W W1 w1 : World} {l : List Ru} {p bm G k : Nat} {vals : Nat → Value} {r : List Nat} {vi : Value} (h : LookC B Bk w W l p bm G k vals r vi) (hk : k < l.length) (h1 : Below W.heap.size W W1) (hg : W1.grownBy w1 vi.ownBlock) :
  w1.cell? ⟨G,k,none⟩ = some vi ∧ w1.frozen? ⟨G,k,none⟩ = false ∧ w1.cell? ⟨p,1,none⟩ = some (topR G l.length) := by
 have hmine := own_lt h.mine
 have hB1 : ∀ c,c < Bk → w1.heap[c]? = W.heap[c]? := fun c hc => by
  have hcw : c < W.heap.size := Nat.lt_of_lt_of_le hc h.size
  rw [hg.block c (Nat.lt_of_lt_of_le hcw h1.size) (fun e => by
   have := (hmine c e.symm).1
   omega)]
  exact h1.block c hcw
 refine ⟨?_,?_,(World.cell?_of_block (a := ⟨p,1,none⟩) (hB1 p h.ltp)).trans h.c1⟩
 ·rw [World.cell?_of_block (a := ⟨G,k,none⟩) (hB1 G h.ltG),World.ownsRow.cellAt h.top k (by omega),topV_get _ hk,if_pos rfl]
 ·rw [World.frozen?_of_block (a := ⟨G,k,none⟩) (hB1 G h.ltG)]
  exact World.ownsRow.frozenAt h.top k
theorem LookC.at {B Bk : Nat} {w W : World} {l : List Ru} {p bm G k : Nat} {vals : Nat → Value} {r : List Nat} {vi : Value} (h : LookC B Bk w W l p bm G k vals r vi) (hk : k < l.length) : W.cell? ⟨G,k,none⟩ = some vi ∧ W.frozen? ⟨G,k,none⟩ = false := by
 refine ⟨?_,World.ownsRow.frozenAt h.top k⟩
 rw [World.ownsRow.cellAt h.top k (by omega),topV_get _ hk,if_pos rfl]
end Go.Proofs.YtdljhggillgpfaaGreatDoor
