import Derived.Test.YtdljhggillgpfaaGreatDoorSA18
namespace Go.Proofs.YtdljhggillgpfaaGreatDoor
open Go.RowKit Go.Shelf Go.Lib
namespace Ru
def Apart (l : List Ru) : Prop := ∀ i j (hi : i < l.length) (hj : j < l.length),l[i].out = l[j].out → i = j
theorem fault_ok {l : List Ru} (h : (fault l).1 = 0) : l.length ≤ 40 ∧ Apart l := by
 have h40 : l.length ≤ 40 := by
  refine Nat.le_of_not_lt fun hlt => ?_
  rw [fault_many hlt] at h
  cases h
 have hz : ∀ j,j < l.length → errAt l j = 0 := by
  unfold fault at h
  rw [if_neg (by omega)] at h
  split at h
  ·rename_i k hk
   exact absurd h (first_some_ne hk)
  ·rename_i hk
   exact fun j hj => first_none_zero hk j hj
 refine ⟨h40,?_⟩
 have key : ∀ i j (hi : i < l.length) (hj : j < l.length),i < j → l[i].out ≠ l[j].out := by
  intro i j hi hj hij he
  have h1 := hz j hj
  rw [errAt_eq hj] at h1
  split at h1
  ·rename_i h2
   exact h2 h1
  ·split at h1
   ·cases h1
   ·rename_i h3
    refine h3 (List.mem_map.2 ⟨l[i],?_,he⟩)
    exact List.mem_take_iff_getElem.2 ⟨i,by omega,rfl⟩
 intro i j hi hj he
 rcases Nat.lt_trichotomy i j with h1 | h1 | h1
 ·exact absurd he (key i j hi hj h1)
 ·exact h1
 ·exact absurd he.symm (key j i hj hi h1)
def mkr (l : List Ru) (x : List UInt8) : Option Nat := l.findIdx? fun r => r.out == x
theorem mkr_none {l : List Ru} {x : List UInt8} (h : mkr l x = none) : ∀ r ∈ l,r.out ≠ x := by
 unfold mkr at h
 rw [List.findIdx?_eq_none_iff] at h
 intro r hr
 simpa using h r hr
theorem mkr_some {l : List Ru} {x : List UInt8} {k : Nat} (h : mkr l x = some k) : ∃ hk : k < l.length,l[k].out = x ∧ ∀ j (hj : j < k),l[j].out ≠ x := by
 unfold mkr at h
 rw [List.findIdx?_eq_some_iff_getElem] at h
 obtain ⟨hk,h1,h2⟩ := h
 exact ⟨hk,by simpa using h1,fun j hj => by simpa using h2 j hj⟩
theorem mkr_eq {l : List Ru} (hA : Apart l) {k : Nat} (hk : k < l.length) : mkr l l[k].out = some k := by
 cases h : mkr l l[k].out with
 | none => exact absurd rfl (mkr_none h l[k] (List.getElem_mem hk))
 | some j =>
  obtain ⟨hj,h1,_⟩ := mkr_some h
  rw [hA j k hj hk h1]
def needL (l : List Ru) (ins : List (List UInt8)) : List Nat := ins.filterMap (mkr l)
theorem needL_mem {l : List Ru} (hA : Apart l) {i : Nat} (hi : i < l.length) (k : Nat) : k ∈ needL l l[i].ins ↔ needs l i k = true := by
 unfold needL
 rw [List.mem_filterMap]
 constructor
 ·rintro ⟨x,hx,hk⟩
  obtain ⟨hkl,h1,_⟩ := mkr_some hk
  rw [needs_eq hi hkl]
  simpa [h1] using hx
 ·intro h
  have hkl := (needs_lt h).2
  rw [needs_eq hi hkl] at h
  exact ⟨l[k].out,by simpa using h,mkr_eq hA hkl⟩
theorem needL_len (l : List Ru) (ins : List (List UInt8)) : (needL l ins).length ≤ ins.length := List.length_filterMap_le _ _
theorem needL_succ (l : List Ru) {ins : List (List UInt8)} {m : Nat} (hm : m < ins.length) : needL l (ins.take (m + 1)) = needL l (ins.take m) ++ (mkr l ins[m]).toList := by
 unfold needL
 rw [List.take_succ_eq_append_getElem hm,List.filterMap_append]
 cases h : mkr l ins[m] <;> simp [h]
end Ru
def mkF : Nat → List Ru → List MapEntry
 | _,[] => []
 | k,r :: t => { key := .string (ba r.out),val := nv k,born := k } :: mkF (k + 1) t
theorem mkF_snoc (r : Ru) : ∀ (k : Nat) (l : List Ru),mkF k (l ++ [r]) = mkF k l ++ [({ key := .string (ba r.out),val := nv (k + l.length),born := k + l.length } : MapEntry)]
 | k,[] => by simp [mkF]
 | k,x :: t => by
  have := mkF_snoc r (k + 1) t
  simp only [List.cons_append,mkF,this,List.length_cons]
  rw [show k + 1 + t.length = k + (t.length + 1) by omega]
theorem sameNow_ba (a b : List UInt8) : Instr.sameNow .string (.string (ba a)) (.string (ba b)) = some (decide (a = b)) := by
 show some (ba a == ba b) = _
 congr 1
 rw [Bool.eq_iff_iff,MapKept.bytes_beq,decide_eq_true_eq]
 exact ⟨ba_inj,fun e => by rw [e]⟩
theorem mkF_none {s : List UInt8} : ∀ {l : List Ru} {k j : Nat},(∀ x ∈ l,x.out ≠ s) → Instr.findNow .string (.string (ba s)) (mkF k l) j = some none
 | [],_,_,_ => rfl
 | x :: t,k,j,h => by
  have hx : ¬ s = x.out := fun e => h x (by simp) e.symm
  simp only [mkF,Instr.findNow,sameNow_ba,hx,decide_false]
  exact mkF_none fun y hy => h y (List.mem_cons_of_mem _ hy)
theorem mkF_some {s : List UInt8} : ∀ {l : List Ru} {k j i : Nat} (hi : i < l.length),l[i].out = s → (∀ m (hm : m < i),l[m].out ≠ s) → Instr.findNow .string (.string (ba s)) (mkF k l) j = some (some (j + i,nv (k + i)))
 | [],_,_,_,hi,_,_ => by simp at hi
 | x :: t,k,j,0,_,he,_ => by
  have hx : s = x.out := by simpa using he.symm
  simp only [mkF,Instr.findNow,sameNow_ba,hx,decide_true]
  rfl
 | x :: t,k,j,i + 1,hi,he,hm => by
  have hx : ¬ s = x.out := fun e => hm 0 (by omega) e.symm
  simp only [mkF,Instr.findNow,sameNow_ba,hx,decide_false]
  have := mkF_some (s := s) (l := t) (k := k + 1) (j := j + 1) (i := i) (by simpa using hi) (by simpa using he) fun m hml => by
   have := hm (m + 1) (by omega)
   simpa using this
  rw [this]
  rw [show j + 1 + i = j + (i + 1) by omega,show k + 1 + i = k + (i + 1) by omega]
theorem look_mk {W : World} {bm c : Nat} {l : List Ru} (h : W.heap[bm]? = some (.map (mkF 0 l).toArray c)) (s : List UInt8) :
  (Instr.lookup 197 (.map (some bm)) (.string (ba s)) true).run Tryz.prog W = .ok (.tuple #[nv ((Ru.mkr l s).getD 0),.bool (Ru.mkr l s).isSome]) W := by
 cases hm : Ru.mkr l s with
 | none => exact run_look_none 197 9 3 bm c _ (ba s) Tryz.underlying197 Tryz.underlying9 h (.int .i64 0) (Tryz.zeroValue3 W) (mkF_none (Ru.mkr_none hm))
 | some k =>
  obtain ⟨hk,h1,h2⟩ := Ru.mkr_some hm
  have := mkF_some (s := s) (k := 0) (j := 0) hk h1 h2
  rw [Nat.zero_add] at this
  exact run_look 197 9 3 bm c _ (ba s) Tryz.underlying197 Tryz.underlying9 h k (nv k) this
structure ShAt (W : World) (l : List Ru) (p bm G : Nat) (vals : Nat → Value) : Prop where
 c0 : W.cell? ⟨p,0,none⟩ = some (.map (some bm))
 c1 : W.cell? ⟨p,1,none⟩ = some (.slice (some ⟨G,0,none⟩) l.length l.length)
 map : W.heap[bm]? = some (.map (mkF 0 l).toArray l.length)
 row : ∀ i (hi : i < l.length),W.cell? ⟨G,i,none⟩ = some (vals i) ∧ NIRow W (vals i) (Ru.needL l l[i].ins)
theorem ShAt.below {W W' : World} {l : List Ru} {p bm G : Nat} {vals : Nat → Value} (h : ShAt W l p bm G vals) (hb : Below W.heap.size W W') : ShAt W' l p bm G vals :=
 ⟨cell_below' h.c0 hb,cell_below' h.c1 hb,(hb.block bm (Array.getElem?_eq_some_iff.1 h.map).1).trans h.map,fun i hi => ⟨cell_below' (h.row i hi).1 hb,(h.row i hi).2.below hb⟩⟩
def setB (W : World) (b : Nat) (o : Obj) : World := { W with heap := W.heap.setIfInBounds b o }
theorem setB_other (W : World) (b : Nat) (o : Obj) {c : Nat} (h : c ≠ b) : (setB W b o).heap[c]? = W.heap[c]? := by
 unfold setB
 exact Array.getElem?_setIfInBounds_ne (fun e => h e.symm)
theorem setB_same (W : World) (b : Nat) (o : Obj) (h : b < W.heap.size) : (setB W b o).heap[b]? = some o := by
 unfold setB
 simp [h]
theorem setB_size (W : World) (b : Nat) (o : Obj) : (setB W b o).heap.size = W.heap.size := by unfold setB;simp
theorem setB_grown (W : World) (b : Nat) (o : Obj) : W.grownBy (setB W b o) (some b) :=
 ⟨rfl,rfl,rfl,by rw [setB_size];exact Nat.le_refl _,fun k _ hk => setB_other W b o fun e => hk (by rw [e])⟩
theorem setB_below {B : Nat} {w W : World} (h : Below B w W) (b : Nat) (o : Obj) (hb : B ≤ b) : Below B w (setB W b o) :=
 ⟨h.os,h.tape,h.output,by rw [setB_size];exact h.size,fun k hk => (setB_other W b o (by omega)).trans (h.block k hk)⟩
def topV (n : Nat) (vals : Nat → Value) : List Value := (List.range n).map vals
theorem topV_get {n : Nat} (vals : Nat → Value) {j : Nat} (h : j < n) : (topV n vals)[j]? = some (vals j) := by simp [topV,h]
theorem topV_set (n : Nat) (vals : Nat → Value) (k : Nat) (v : Value) : (topV n vals).set k v = topV n (fun j => if j = k then v else vals j) := by
 apply List.ext_getElem?
 intro j
 unfold topV
 rw [List.getElem?_set]
 by_cases hj : j < n
 ·by_cases e : k = j
  ·subst e;simp [hj]
  ·have e' : ¬ j = k := fun h => e h.symm
   simp [hj,e,e']
 ·by_cases e : k = j
  ·subst e;simp [hj]
  ·simp [hj,e]
theorem topV_congr {n : Nat} {f g : Nat → Value} (h : ∀ j,j < n → f j = g j) : topV n f = topV n g := by
 unfold topV
 exact List.map_congr_left fun j hj => h j (List.mem_range.1 hj)
abbrev topR (G n : Nat) : Value := .slice (some ⟨G,0,none⟩) n n
structure LookA (B : Nat) (w W : World) (l : List Ru) (p bm G k : Nat) : Prop where
 below : Below B w W
 size : B ≤ W.heap.size
 lowm : B ≤ bm
 lowp : B ≤ p
 nep : p ≠ bm
 neG : G ≠ bm
 negp : G ≠ p
 c0 : W.cell? ⟨p,0,none⟩ = some (.map (some bm))
 c1 : W.cell? ⟨p,1,none⟩ = some (topR G l.length)
 map : W.heap[bm]? = some (.map (mkF 0 (l.take k)).toArray k)
 top : W.ownsRow B 147 1 (topR G l.length) l.length (topV l.length fun _ => .slice none 0 0)
theorem own_lt {W : World} {B : Nat} {e : TypeId} {s n : Nat} {v : Value} {xs : List Value} (h : W.ownsRow B e s v n xs) : ∀ g,v.ownBlock = some g → B ≤ g ∧ g < W.heap.size := by
 intro g hg
 rcases h.2 with ⟨rfl,_⟩ | ⟨g',cap,cur,rfl,hb,hc,_⟩
 ·simp [Value.ownBlock] at hg
 ·simp only [Value.ownBlock,Option.some.injEq] at hg
  subst hg
  exact ⟨hb,(Array.getElem?_eq_some_iff.1 hc).1⟩
theorem own_base {W : World} {B B' : Nat} {e : TypeId} {s n : Nat} {v : Value} {xs : List Value} (h : W.ownsRow B e s v n xs) (hB : B' ≤ B) : W.ownsRow B' e s v n xs := by
 refine ⟨h.1,?_⟩
 rcases h.2 with h1 | ⟨g,cap,cur,h1,h2,h3⟩
 ·exact .inl h1
 ·exact .inr ⟨g,cap,cur,h1,Nat.le_trans hB h2,h3⟩
theorem LookA.make {w1 w2 : World} {l : List Ru} (hown : w2.ownsRow w1.heap.size 147 1 (.slice (some ⟨(w1.alloc (.map #[] 0)).heap.size,0,none⟩) l.length l.length) l.length (madeCells (Value.slice none 0 0).cells (l.length * 1)).toList) (hgrow : (w1.alloc (.map #[] 0)).grownBy w2 none) :
  LookA w1.heap.size w1 (w2.alloc (.cells #[.map (some w1.heap.size),.slice (some ⟨w1.heap.size + 1,0,none⟩) l.length l.length] 200)) l w2.heap.size w1.heap.size (w1.heap.size + 1) 0 := by
 have hz1 : (w1.alloc (.map #[] 0)).heap.size = w1.heap.size + 1 := by simp
 rw [hz1] at hown
 have hA1 : Below w1.heap.size w1 (w1.alloc (.map #[] 0)) := (Below.refl _ w1).alloc (Nat.le_refl _) _
 have hB2 : Below w1.heap.size w1 w2 := hA1.grown hgrow (by omega) (fun j e => by cases e)
 have hG := own_lt hown (w1.heap.size + 1) rfl
 have hm2 : w2.heap[w1.heap.size]? = some (.map #[] 0) := by
  rw [hgrow.block w1.heap.size (by omega) (by simp)]
  show (w1.heap.push _)[w1.heap.size]? = _
  simp
 have hA2 : Below w2.heap.size w2 (w2.alloc (.cells #[.map (some w1.heap.size),.slice (some ⟨w1.heap.size + 1,0,none⟩) l.length l.length] 200)) := (Below.refl _ w2).alloc (Nat.le_refl _) _
 have e : (madeCells (Value.slice none 0 0).cells (l.length * 1)).toList = topV l.length (fun _ => .slice none 0 0) := by
  rw [Nat.mul_one]
  refine (toList_madeCells_one _ _).trans ?_
  unfold topV
  rw [List.map_const']
  simp
 rw [e] at hown
 exact ⟨hB2.alloc (by omega) _,by simp;omega,Nat.le_refl _,by omega,by omega,by omega,by omega,by simp,by simp,(hA2.block _ (by omega)).trans hm2,hown.alloc _⟩
theorem LookA.next {B : Nat} {w W : World} {l : List Ru} {p bm G k : Nat} (h : LookA B w W l p bm G k) (hk : k < l.length) (o : Obj) :
  LookA B w (setB (W.alloc o).drew bm (.map (mkF 0 (l.take k) ++ [({ key := .string (ba l[k].out),val := nv k,born := k } : MapEntry)]).toArray (k + 1))) l p bm G (k + 1) := by
 have hbm := (Array.getElem?_eq_some_iff.1 h.map).1
 have hA : Below W.heap.size W (W.alloc o).drew := ((Below.refl _ W).alloc (Nat.le_refl _) _).drew
 have hz := hA.size
 refine ⟨setB_below ((h.below.alloc h.size _).drew) _ _ h.lowm,by rw [setB_size];exact Nat.le_trans h.size hz,h.lowm,h.lowp,h.nep,h.neG,h.negp,?_,?_,?_,?_⟩
 ·exact (World.cell?_of_block (a := ⟨p,0,none⟩) (setB_other _ bm _ h.nep)).trans (cell_below' h.c0 hA)
 ·exact (World.cell?_of_block (a := ⟨p,1,none⟩) (setB_other _ bm _ h.nep)).trans (cell_below' h.c1 hA)
 ·rw [setB_same _ _ _ (by omega),List.take_succ_eq_append_getElem hk,mkF_snoc]
  simp only [Nat.zero_add,List.length_take,Nat.min_eq_left (Nat.le_of_lt hk)]
 ·have h1 : (W.alloc o).drew.ownsRow B 147 1 (topR G l.length) l.length (topV l.length fun _ => .slice none 0 0) := h.top.alloc o
  exact h1.kept (setB_grown _ _ _) (.inr (by simp [Value.ownBlock,h.neG]))
structure LookB (B : Nat) (w W : World) (l : List Ru) (p bm G k : Nat) (vals : Nat → Value) : Prop where
 below : Below B w W
 size : B ≤ W.heap.size
 c0 : W.cell? ⟨p,0,none⟩ = some (.map (some bm))
 c1 : W.cell? ⟨p,1,none⟩ = some (topR G l.length)
 map : W.heap[bm]? = some (.map (mkF 0 l).toArray l.length)
 top : W.ownsRow B 147 1 (topR G l.length) l.length (topV l.length vals)
 lowp : B ≤ p
 negp : G ≠ p
 negm : G ≠ bm
 row : ∀ j (hj : j < l.length),j < k → W.ownsRow B 3 1 (vals j) (Ru.needL l l[j].ins).length ((Ru.needL l l[j].ins).map nv)
 nils : ∀ j,k ≤ j → vals j = .slice none 0 0
theorem LookA.start {B : Nat} {w W : World} {l : List Ru} {p bm G : Nat} (h : LookA B w W l p bm G l.length) : LookB B w W l p bm G 0 (fun _ => .slice none 0 0) :=
 ⟨h.below,h.size,h.c0,h.c1,by have := h.map;rwa [List.take_length] at this,h.top,h.lowp,h.negp,h.neG,fun j _ hj => absurd hj (Nat.not_lt_zero j),fun _ _ => rfl⟩
theorem LookB.done {B : Nat} {w W : World} {l : List Ru} {p bm G : Nat} {vals : Nat → Value} (h : LookB B w W l p bm G l.length vals) : ShAt W l p bm G vals :=
 ⟨h.c0,h.c1,h.map,fun i hi => ⟨by
  have := World.ownsRow.cellAt h.top i (by omega)
  rw [this,topV_get vals hi],(NRow.of_owns (h.row i hi hi)).ni⟩⟩
structure LookC (B Bk : Nat) (w W : World) (l : List Ru) (p bm G k : Nat) (vals : Nat → Value) (r : List Nat) (vi : Value) : Prop where
 below : Below B w W
 low : B ≤ Bk
 size : Bk ≤ W.heap.size
 c0 : W.cell? ⟨p,0,none⟩ = some (.map (some bm))
 c1 : W.cell? ⟨p,1,none⟩ = some (topR G l.length)
 map : W.heap[bm]? = some (.map (mkF 0 l).toArray l.length)
 ltm : bm < Bk
 ltp : p < Bk
 ltG : G < Bk
 lowp : B ≤ p
 negp : G ≠ p
 negm : G ≠ bm
 top : W.ownsRow B 147 1 (topR G l.length) l.length (topV l.length fun j => if j = k then vi else vals j)
 row : ∀ j (hj : j < l.length),j < k → W.ownsRow B 3 1 (vals j) (Ru.needL l l[j].ins).length ((Ru.needL l l[j].ins).map nv) ∧ ∀ g,(vals j).ownBlock = some g → g < Bk
 mine : W.ownsRow Bk 3 1 vi r.length (r.map nv)
 nils : ∀ j,k < j → vals j = .slice none 0 0
theorem LookB.enter {B : Nat} {w W : World} {l : List Ru} {p bm G k : Nat} {vals : Nat → Value} (h : LookB B w W l p bm G k vals) (o : Obj) : LookC B (W.alloc o).heap.size w (W.alloc o) l p bm G k vals [] (.slice none 0 0) := by
 have hA : Below W.heap.size W (W.alloc o) := (Below.refl _ W).alloc (Nat.le_refl _) _
 have hz : (W.alloc o).heap.size = W.heap.size + 1 := by simp
 have hG := own_lt h.top G rfl
 have hbm := (Array.getElem?_eq_some_iff.1 h.map).1
 have hp := lt_of_cell h.c0
 simp only at hp
 refine ⟨h.below.alloc h.size _,Nat.le_trans h.size hA.size,Nat.le_refl _,cell_below' h.c0 hA,cell_below' h.c1 hA,(hA.block bm hbm).trans h.map,by omega,by omega,by omega,h.lowp,h.negp,h.negm,?_,fun j hj hjk => ⟨(h.row j hj hjk).alloc o,fun g hg => ?_⟩,World.ownsRow_nil _ _ _ _,fun j hj => h.nils j (by omega)⟩
 ·have e : topV l.length (fun j => if j = k then Value.slice none 0 0 else vals j) = topV l.length vals := topV_congr fun j _ => by
   by_cases ej : j = k
   ·rw [if_pos ej,h.nils j (by omega)]
   ·rw [if_neg ej]
  rw [e]
  exact h.top.alloc o
 ·have := (own_lt (h.row j hj hjk) g hg).2
  omega
theorem LookC.leave {B Bk : Nat} {w W : World} {l : List Ru} {p bm G k : Nat} {vals : Nat → Value} {vi : Value} (hk : k < l.length) (h : LookC B Bk w W l p bm G k vals (Ru.needL l l[k].ins) vi) : LookB B w W l p bm G (k + 1) (fun j => if j = k then vi else vals j) := by
 refine ⟨h.below,Nat.le_trans h.low h.size,h.c0,h.c1,h.map,h.top,h.lowp,h.negp,h.negm,fun j hj hjk => ?_,fun j hj => ?_⟩
 ·by_cases e : j = k
  ·subst e
   show W.ownsRow B 3 1 (if j = j then vi else vals j) _ _
   rw [if_pos rfl]
   exact own_base h.mine h.low
  ·show W.ownsRow B 3 1 (if j = k then vi else vals j) _ _
   rw [if_neg e]
   exact (h.row j hj (by omega)).1
 ·show (if j = k then vi else vals j) = _
  rw [if_neg (by omega)]
  exact h.nils j (by omega)
theorem LookC.more {B Bk : Nat} {w W W1 w1 : World} {l : List Ru} {p bm G k : Nat} {vals : Nat → Value} {r : List Nat} {vi v1 : Value} {x : Nat} (h : LookC B Bk w W l p bm G k vals r vi) (h1 : Below W.heap.size W W1) (hg : W1.grownBy w1 vi.ownBlock)
  (hown : w1.ownsRow Bk 3 1 v1 (r.length + 1) (r.map nv ++ [nv x])) (hblk : v1.ownBlock ≠ some G) :
  LookC B Bk w (w1.setCell ⟨G,k,none⟩ v1) l p bm G k vals (r ++ [x]) v1 := by
 have hmine := own_lt h.mine
 have hB1 : ∀ c,c < Bk → w1.heap[c]? = W.heap[c]? := fun c hc => by
  have hcw : c < W.heap.size := Nat.lt_of_lt_of_le hc h.size
  rw [hg.block c (Nat.lt_of_lt_of_le hcw h1.size) (fun e => by
   have := (hmine c e.symm).1
   omega)]
  exact h1.block c hcw
 have hS : ∀ c,c ≠ G → (w1.setCell ⟨G,k,none⟩ v1).heap[c]? = w1.heap[c]? := fun c hc => Below.heap_setCell w1 ⟨G,k,none⟩ v1 c hc
 have hz : (w1.setCell ⟨G,k,none⟩ v1).heap.size = w1.heap.size := by simp
 have hlow := h.low
 have h1z := h1.size
 have hgz := hg.size
 have hsz := h.size
 have hGB : B ≤ G := (own_lt h.top G rfl).1
 have keep : ∀ {e : TypeId} {n : Nat} {v : Value} {xs : List Value},W.ownsRow B e 1 v n xs → (∀ g,v.ownBlock = some g → g < Bk) → w1.ownsRow B e 1 v n xs := fun {e n v xs} ho hb => by
  refine ⟨ho.1,?_⟩
  rcases ho.2 with h2 | ⟨g,cap,cur,rfl,h3,h4,h5⟩
  ·exact .inl h2
  ·exact .inr ⟨g,cap,cur,rfl,h3,(hB1 g (hb g rfl)).trans h4,h5⟩
 refine ⟨?_,h.low,by rw [hz];omega,?_,?_,?_,h.ltm,h.ltp,h.ltG,h.lowp,h.negp,h.negm,?_,fun j hj hjk => ⟨?_,(h.row j hj hjk).2⟩,?_,h.nils⟩
 ·refine Below.setCell (p := ⟨G,k,none⟩) ?_ hGB _
  exact (h.below.trans (h1.mono (by omega))).grown hg (by omega) fun j e => by have := (hmine j e).1;omega
 ·exact (World.cell?_of_block (a := ⟨p,0,none⟩) ((hS p (fun e => h.negp e.symm)).trans (hB1 p h.ltp))).trans h.c0
 ·exact (World.cell?_of_block (a := ⟨p,1,none⟩) ((hS p (fun e => h.negp e.symm)).trans (hB1 p h.ltp))).trans h.c1
 ·exact ((hS bm (fun e => h.negm e.symm)).trans (hB1 bm h.ltm)).trans h.map
 ·have ht := keep h.top (fun g e => by cases e;exact h.ltG)
  have := (World.ownsRow.stored ht k v1).1
  rw [topV_set] at this
  have e : topV l.length (fun j => if j = k then v1 else if j = k then vi else vals j) = topV l.length (fun j => if j = k then v1 else vals j) := topV_congr fun j _ => by
   by_cases ej : j = k
   ·rw [if_pos ej,if_pos ej]
   ·rw [if_neg ej,if_neg ej,if_neg ej]
  rw [e] at this
  exact this
 ·obtain ⟨ho,hb⟩ := h.row j hj hjk
  refine ownsRow_setCell_other (keep ho hb) ?_ _
  exact owns_far (keep ho hb) (keep h.top (fun g e => by cases e;exact h.ltG)) (by decide)
 ·rw [List.length_append,List.length_singleton,List.map_append]
  exact ownsRow_setCell_other hown hblk _
theorem LookC.after {B Bk : Nat} {w W W1 w1 : World} {l : List Ru} {p bm G k : Nat} {vals : Nat → Value} {r : List Nat} {vi : Value} (h : LookC B Bk w W l p bm G k vals r vi) (hk : k < l.length) (h1 : Below W.heap.size W W1) (hg : W1.grownBy w1 vi.ownBlock) :
  w1.cell? ⟨G,k,none⟩ = some vi ∧ w1.frozen? ⟨G,k,none⟩ = false ∧ w1.cell? ⟨p,1,none⟩ = some (topR G l.length) := by
 have hmine := own_lt h.mine
 have hB1 : ∀ c,c < Bk → w1.heap[c]? = W.heap[c]? := fun c hc => by
  have hcw : c < W.heap.size := Nat.lt_of_lt_of_le hc h.size
  rw [hg.block c (Nat.lt_of_lt_of_le hcw h1.size) (fun e => by
   have := (hmine c e.symm).1
   omega)]
  exact h1.block c hcw
 refine ⟨?_,?_,(World.cell?_of_block (a := ⟨p,1,none⟩) (hB1 p h.ltp)).trans h.c1⟩
 ·rw [World.cell?_of_block (a := ⟨G,k,none⟩) (hB1 G h.ltG),World.ownsRow.cellAt h.top k (by omega),topV_get _ hk,if_pos rfl]
 ·rw [World.frozen?_of_block (a := ⟨G,k,none⟩) (hB1 G h.ltG)]
  exact World.ownsRow.frozenAt h.top k
theorem LookC.at {B Bk : Nat} {w W : World} {l : List Ru} {p bm G k : Nat} {vals : Nat → Value} {r : List Nat} {vi : Value} (h : LookC B Bk w W l p bm G k vals r vi) (hk : k < l.length) : W.cell? ⟨G,k,none⟩ = some vi ∧ W.frozen? ⟨G,k,none⟩ = false := by
 refine ⟨?_,World.ownsRow.frozenAt h.top k⟩
 rw [World.ownsRow.cellAt h.top k (by omega),topV_get _ hk,if_pos rfl]
end Go.Proofs.YtdljhggillgpfaaGreatDoor
namespace Go.Proofs.YtdljhggillgpfaaGreatDoor
open Go.RowKit Go.Shelf Go.Lib
namespace Ru
def Steps (l : List Ru) (e i t : Nat) : Prop := Walk l i e t ∧ ∀ s,Walk l i e s → t ≤ s
theorem sorted_filter {n : Nat} {r : List Nat} (hs : r.Pairwise (fun a b => a ≤ b)) (hd : r.Nodup) (hlt : ∀ k ∈ r,k < n) (f : Nat → Bool) (hf : ∀ k,k < n → (f k = true ↔ k ∈ r)) : r = (List.range n).filter f := by
 have hp : r.Perm ((List.range n).filter f) := (List.perm_ext_iff_of_nodup hd (List.Pairwise.filter _ List.nodup_range)).2 fun k => by
  rw [List.mem_filter,List.mem_range]
  constructor
  ·intro hk
   exact ⟨hlt k hk,(hf k (hlt k hk)).2 hk⟩
  ·rintro ⟨h1,h2⟩
   exact (hf k h1).1 h2
 refine List.Perm.eq_of_pairwise (le := fun a b : Nat => a ≤ b) ?_ hs (List.Pairwise.filter _ (List.pairwise_lt_range.imp Nat.le_of_lt)) hp
 intro a b _ _ h1 h2
 exact Nat.le_antisymm h1 h2
end Ru
end Go.Proofs.YtdljhggillgpfaaGreatDoor
namespace Go.Proofs.YtdljhggillgpfaaGreatDoor
open Go.RowKit Go.Shelf Go.Lib
namespace Ru
structure NeedA (l : List Ru) (outs : List (List UInt8)) (j : Nat) (r : List Nat) : Prop where
 once : r.Nodup
 lt : ∀ k ∈ r,k < l.length
 mem : ∀ k (hk : k < l.length),k ∈ r ↔ l[k].out ∈ outs.take j
 made : ∀ i (hi : i < outs.length),i < j → ∃ x ∈ l,x.out = outs[i]
theorem NeedA.first (l : List Ru) (outs : List (List UInt8)) : NeedA l outs 0 [] := ⟨List.nodup_nil,by simp,by simp,fun _ _ h => absurd h (Nat.not_lt_zero _)⟩
theorem NeedA.more {l : List Ru} (hA : Apart l) {outs : List (List UInt8)} {j k : Nat} {r : List Nat} (h : NeedA l outs j r) (hj : j < outs.length) (hm : mkr l outs[j] = some k) : NeedA l outs (j + 1) (withN r k) := by
 obtain ⟨hk,h1,_⟩ := mkr_some hm
 refine ⟨withN_once h.once k,fun x hx => ?_,fun x hx => ?_,fun i hi hij => ?_⟩
 ·rcases (withN_mem r k x).1 hx with h2 | rfl
  ·exact h.lt x h2
  ·exact hk
 ·rw [withN_mem,h.mem x hx,List.take_succ_eq_append_getElem hj,List.mem_append,List.mem_singleton,← h1]
  constructor
  ·rintro (h2 | rfl)
   ·exact .inl h2
   ·exact .inr rfl
  ·rintro (h2 | h2)
   ·exact .inl h2
   ·exact .inr (hA x k hx hk h2)
 ·by_cases e : i = j
  ·subst e
   exact ⟨l[k],List.getElem_mem hk,h1⟩
  ·exact h.made i hi (by omega)
structure NeedB (l : List Ru) (outs : List (List UInt8)) (r : List Nat) (a m : Nat) : Prop where
 once : r.Nodup
 lt : ∀ k ∈ r,k < l.length
 start : ∀ k,base l outs k = true → k ∈ r
 sound : ∀ P : Nat → Prop,(∀ k,base l outs k = true → P k) → (∀ i k,P i → needs l i k = true → P k) → ∀ k ∈ r,P k
 past : ∀ (p x : Nat) (hx : x < l.length),p < a → r[p]? = some x → ∀ k ∈ needL l l[x].ins,k ∈ r
 now : ∀ (x : Nat) (hx : x < l.length),r[a]? = some x → ∀ k ∈ (needL l l[x].ins).take m,k ∈ r
theorem NeedA.done {l : List Ru} {outs : List (List UInt8)} {r : List Nat} (h : NeedA l outs outs.length r) : NeedB l outs r 0 0 := by
 have hb : ∀ k,base l outs k = true ↔ k ∈ r := fun k => by
  constructor
  ·intro hk
   have hkl := base_lt hk
   rw [base_eq hkl] at hk
   rw [h.mem k hkl,List.take_length]
   simpa using hk
  ·intro hk
   have hkl := h.lt k hk
   rw [base_eq hkl]
   have := (h.mem k hkl).1 hk
   rw [List.take_length] at this
   simpa using this
 exact ⟨h.once,h.lt,fun k hk => (hb k).1 hk,fun P h1 _ k hk => h1 k ((hb k).2 hk),fun p _ _ hp => absurd hp (Nat.not_lt_zero p),fun _ _ _ k hk => by simp at hk⟩
theorem withN_get {r : List Nat} {k p : Nat} (hp : p < r.length) : (withN r k)[p]? = r[p]? := by
 unfold withN
 split
 ·rfl
 ·exact List.getElem?_append_left hp
theorem NeedB.more {l : List Ru} (hA : Apart l) {outs : List (List UInt8)} {r : List Nat} {a m x : Nat} (h : NeedB l outs r a m) (hx : r[a]? = some x) (hxl : x < l.length) (hm : m < (needL l l[x].ins).length) : NeedB l outs (withN r (needL l l[x].ins)[m]) a (m + 1) := by
 have hal : a < r.length := (List.getElem?_eq_some_iff.1 hx).1
 have hkm : (needL l l[x].ins)[m] ∈ needL l l[x].ins := List.getElem_mem hm
 have hkn := (needL_mem hA hxl _).1 hkm
 generalize hk : (needL l l[x].ins)[m] = k at *
 refine ⟨withN_once h.once k,fun y hy => ?_,fun y hy => (withN_mem r k y).2 (.inl (h.start y hy)),fun P h1 h2 y hy => ?_,fun p y hyl hp hy z hz => ?_,fun y hyl hy z hz => ?_⟩
 ·rcases (withN_mem r k y).1 hy with h2 | rfl
  ·exact h.lt y h2
  ·exact (needs_lt hkn).2
 ·rcases (withN_mem r k y).1 hy with h3 | rfl
  ·exact h.sound P h1 h2 y h3
  ·exact h2 x y (h.sound P h1 h2 x (List.mem_of_getElem? hx)) hkn
 ·rw [withN_get (by omega)] at hy
  exact (withN_mem r k z).2 (.inl (h.past p y hyl hp hy z hz))
 ·rw [withN_get hal,hx] at hy
  cases hy
  rw [List.take_succ_eq_append_getElem hm,List.mem_append,List.mem_singleton,hk] at hz
  rcases hz with hz | rfl
  ·exact (withN_mem r k z).2 (.inl (h.now x hxl hx z hz))
  ·exact (withN_mem r z z).2 (.inr rfl)
theorem NeedB.next {l : List Ru} {outs : List (List UInt8)} {r : List Nat} {a m x : Nat} (h : NeedB l outs r a m) (hx : r[a]? = some x) (hxl : x < l.length) (hm : (needL l l[x].ins).length ≤ m) : NeedB l outs r (a + 1) 0 := by
 refine ⟨h.once,h.lt,h.start,h.sound,fun p y hyl hp hy k hk => ?_,fun _ _ _ k hk => by simp at hk⟩
 by_cases e : p = a
 ·subst e
  rw [hx] at hy
  cases hy
  exact h.now x hxl hx k (by rwa [List.take_of_length_le hm])
 ·exact h.past p y hyl (by omega) hy k hk
theorem NeedB.done {l : List Ru} (hA : Apart l) {outs : List (List UInt8)} {r : List Nat} {a m : Nat} (h : NeedB l outs r a m) (ha : r.length ≤ a) : Needed l outs (isIn r) := by
 refine ⟨fun k hk => by simpa [isIn] using h.start k hk,fun i k hi hn => ?_,fun P h1 h2 k _ hk => h.sound P h1 h2 k (by simpa [isIn] using hk)⟩
 have hir : i ∈ r := by simpa [isIn] using hi
 obtain ⟨p,hp,e⟩ := List.getElem_of_mem hir
 have hil := h.lt i hir
 have := h.past p i hil (by omega) (by rw [List.getElem?_eq_getElem hp,e]) k ((needL_mem hA hil k).2 hn)
 simpa [isIn] using this
theorem NeedB.len {l : List Ru} {outs : List (List UInt8)} {r : List Nat} {a m : Nat} (h : NeedB l outs r a m) : r.length ≤ l.length := len_le h.once h.lt
theorem NeedA.len {l : List Ru} {outs : List (List UInt8)} {r : List Nat} {j : Nat} (h : NeedA l outs j r) : r.length ≤ l.length := len_le h.once h.lt
end Ru
end Go.Proofs.YtdljhggillgpfaaGreatDoor
namespace Go.Proofs.YtdljhggillgpfaaGreatDoor
open Go.RowKit Go.Shelf Go.Lib
namespace Ru
def left (ch : Nat → Bool) (n : Nat) (o : List Nat) : List Nat := (List.range n).filter fun i => ch i && !isIn o i
theorem left_mem {ch : Nat → Bool} {n : Nat} {o : List Nat} {i : Nat} : i ∈ left ch n o ↔ i < n ∧ ch i = true ∧ i ∉ o := by
 unfold left isIn
 simp
theorem left_once (ch : Nat → Bool) (n : Nat) (o : List Nat) : (left ch n o).Nodup := List.Pairwise.filter _ List.nodup_range
theorem left_len (ch : Nat → Bool) (n : Nat) (o : List Nat) : (left ch n o).length ≤ n := by
 have := List.length_filter_le (fun i => ch i && !isIn o i) (List.range n)
 simpa [left] using this
theorem left_nil (ch : Nat → Bool) (n : Nat) : left ch n [] = (List.range n).filter ch := by
 unfold left
 congr 1
 funext i
 simp [isIn]
theorem leftTo_eq (ch : Nat → Bool) (n : Nat) (o : List Nat) : leftTo ch (isIn o) n = true ↔ left ch n o ≠ [] := by
 unfold leftTo left
 rw [List.any_eq_true,ne_eq,List.filter_eq_nil_iff]
 constructor
 ·rintro ⟨i,hi,h⟩ hno
  exact hno i hi h
 ·intro h
  simp only [Classical.not_forall] at h
  obtain ⟨i,hi,h⟩ := h
  exact ⟨i,hi,by simpa using h⟩
theorem nextTo_eq (ch : Nat → Bool) (l : List Ru) (n : Nat) (o : List Nat) : nextTo l ch (isIn o) n = (left ch n o).find? fun i => freeTo l (isIn o) i l.length := by
 unfold nextTo left
 rw [List.find?_filter]
 congr 1
 funext i
 unfold may
 cases ch i <;> cases isIn o i <;> cases freeTo l (isIn o) i l.length <;> rfl
theorem left_none {ch : Nat → Bool} {l : List Ru} {o : List Nat} {b : Nat → Bool} (hb : ∀ x ∈ left ch l.length o,b x = freeTo l (isIn o) x l.length) (h : ∀ x ∈ left ch l.length o,b x = false) : nextTo l ch (isIn o) l.length = none := by
 rw [nextTo_eq,List.find?_eq_none]
 intro x hx
 rw [← hb x hx,h x hx]
 simp
theorem left_some {ch : Nat → Bool} {l : List Ru} {o : List Nat} {b : Nat → Bool} (hb : ∀ x ∈ left ch l.length o,b x = freeTo l (isIn o) x l.length) {k : Nat} (hk : k < (left ch l.length o).length) (h1 : b (left ch l.length o)[k] = true) (h2 : ∀ x ∈ (left ch l.length o).take k,b x = false) : nextTo l ch (isIn o) l.length = some (left ch l.length o)[k] := by
 rw [nextTo_eq]
 generalize left ch l.length o = r at *
 have e : r = r.take k ++ r[k] :: r.drop (k + 1) := by
  rw [← List.drop_eq_getElem_cons hk,List.take_append_drop]
 have hn : (r.take k).find? (fun i => freeTo l (isIn o) i l.length) = none := by
  rw [List.find?_eq_none]
  intro x hx
  rw [← hb x (List.mem_of_mem_take hx),h2 x hx]
  simp
 have hm : freeTo l (isIn o) r[k] l.length = true := by rw [← hb _ (List.getElem_mem hk)];exact h1
 generalize r[k] = y at *
 rw [e,List.find?_append,hn,List.find?_cons_of_pos (by simpa using hm)]
 rfl
theorem left_del {ch : Nat → Bool} {n : Nat} {o : List Nat} {k : Nat} (hk : k < (left ch n o).length) : (left ch n o).take k ++ (left ch n o).drop (k + 1) = left ch n (o ++ [(left ch n o)[k]]) := by
 have hd := left_once ch n o
 have e : left ch n (o ++ [(left ch n o)[k]]) = (left ch n o).filter fun i => !(i == (left ch n o)[k]) := by
  generalize (left ch n o)[k] = y
  unfold left
  rw [List.filter_filter]
  apply List.filter_congr
  intro i _
  unfold isIn
  by_cases h : i = y
  ·subst h;simp
  ·simp [h]
 rw [e]
 generalize left ch n o = r at *
 have er : r = r.take k ++ r[k] :: r.drop (k + 1) := by
  rw [← List.drop_eq_getElem_cons hk,List.take_append_drop]
 generalize r[k] = y at *
 rw [er] at hd
 rw [List.nodup_append] at hd
 obtain ⟨h1,h2,h3⟩ := hd
 have h4 := (List.nodup_cons.1 h2).1
 conv => rhs;rw [er]
 rw [List.filter_append,List.filter_cons_of_neg (by simp)]
 congr 1
 ·symm
  rw [List.filter_eq_self]
  intro a ha
  have := h3 a ha y (by simp)
  simpa using this
 ·symm
  rw [List.filter_eq_self]
  intro a ha
  have : a ≠ y := fun e => h4 (e ▸ ha)
  simpa using this
theorem free_eq {ch : Nat → Bool} {l : List Ru} (hA : Apart l) {o : List Nat} {i : Nat} (hi : i < l.length) (hcl : ∀ k,needs l i k = true → ch k = true) : (!((needL l l[i].ins).any fun y => decide (y ∈ left ch l.length o))) = freeTo l (isIn o) i l.length := by
 rw [Bool.eq_iff_iff]
 unfold freeTo
 simp only [Bool.not_eq_true',List.any_eq_false,decide_eq_true_eq,List.all_eq_true,List.mem_range,Bool.or_eq_true,Bool.not_eq_true']
 constructor
 ·intro h k hk
  by_cases hn : needs l i k = true
  ·left
   have := h k ((needL_mem hA hi k).2 hn)
   rw [left_mem] at this
   simpa [isIn,hk,hcl k hn] using this
  ·right
   simpa using hn
 ·intro h k hk hl
  rw [left_mem] at hl
  rcases h k hl.1 with h1 | h1
  ·exact hl.2.2 (by simpa [isIn] using h1)
  ·rw [(needL_mem hA hi k).1 hk] at h1
   cases h1
theorem ord_step (ch : Nat → Bool) (l : List Ru) {o : List Nat} (hlen : o.length ≤ l.length) : orderF l ch (l.length + 1 - o.length) o = if leftTo ch (isIn o) l.length = true then (match nextTo l ch (isIn o) l.length with | none => none | some i => orderF l ch (l.length - o.length) (o ++ [i])) else some o := by
 rw [show l.length + 1 - o.length = (l.length - o.length) + 1 by omega]
 rfl
theorem ord_done {ch : Nat → Bool} {l : List Ru} {o : List Nat} (h : orderF l ch (l.length + 1 - o.length) o = order l ch) (hlen : o.length ≤ l.length) (hl : left ch l.length o = []) : order l ch = some o := by
 rw [← h,ord_step ch l hlen,if_neg]
 rw [leftTo_eq]
 simpa using hl
theorem ord_none {ch : Nat → Bool} {l : List Ru} {o : List Nat} (h : orderF l ch (l.length + 1 - o.length) o = order l ch) (hlen : o.length ≤ l.length) (hl : left ch l.length o ≠ []) (hn : nextTo l ch (isIn o) l.length = none) : order l ch = none := by
 rw [← h,ord_step ch l hlen,if_pos ((leftTo_eq _ _ _).2 hl),hn]
theorem ord_more {ch : Nat → Bool} {l : List Ru} {o : List Nat} {j : Nat} (h : orderF l ch (l.length + 1 - o.length) o = order l ch) (hlen : o.length ≤ l.length) (hl : left ch l.length o ≠ []) (hn : nextTo l ch (isIn o) l.length = some j) : orderF l ch (l.length + 1 - (o ++ [j]).length) (o ++ [j]) = order l ch := by
 rw [← h,ord_step ch l hlen,if_pos ((leftTo_eq _ _ _).2 hl),hn,List.length_append,List.length_singleton]
 rw [show l.length + 1 - (o.length + 1) = l.length - o.length by omega]
structure Ord (ch : Nat → Bool) (l : List Ru) (o : List Nat) : Prop where
 once : o.Nodup
 lt : ∀ i ∈ o,i < l.length
 ord : orderF l ch (l.length + 1 - o.length) o = order l ch
theorem Ord.first (ch : Nat → Bool) (l : List Ru) : Ord ch l [] := ⟨List.nodup_nil,by simp,rfl⟩
theorem Ord.len {ch : Nat → Bool} {l : List Ru} {o : List Nat} (h : Ord ch l o) : o.length ≤ l.length := len_le h.once h.lt
theorem Ord.more {ch : Nat → Bool} {l : List Ru} {o : List Nat} {b : Nat → Bool} (h : Ord ch l o) (hb : ∀ x ∈ left ch l.length o,b x = freeTo l (isIn o) x l.length) {k : Nat} (hk : k < (left ch l.length o).length) (h1 : b (left ch l.length o)[k] = true) (h2 : ∀ x ∈ (left ch l.length o).take k,b x = false) : Ord ch l (o ++ [(left ch l.length o)[k]]) := by
 have hj := left_mem.1 (List.getElem_mem hk)
 refine ⟨?_,?_,ord_more h.ord h.len (fun e => by rw [e] at hk;simp at hk) (left_some hb hk h1 h2)⟩
 ·rw [List.nodup_append]
  exact ⟨h.once,by simp,fun a ha b hb => by
   rw [List.mem_singleton.1 hb]
   rintro rfl
   exact hj.2.2 ha⟩
 ·intro i hi
  rcases List.mem_append.1 hi with h1 | h1
  ·exact h.lt i h1
  ·rw [List.mem_singleton.1 h1];exact hj.1
end Ru
end Go.Proofs.YtdljhggillgpfaaGreatDoor
