import Derived.Test.YtdljhggillgpfaaGreatDoorSA16
import Derived.Maps.RangeWalk
import Derived.Test.YtdljhggillgpfaaGreatDoorSA15
import Derived.Lib.OwnBridge
namespace Go.Proofs.YtdljhggillgpfaaGreatDoor
open Go.RowKit Go.Shelf Go.Lib Go.Maps
open Tf (Fs)
def fileElem : Value → Option (DataW Unit × List MemPlace)
 | .agg ⟨[.string s]⟩ => some (.lit (.string s.data.toList),[])
 | _ => none
theorem fileElem_mk (l : List UInt8) : fileElem (.agg #[.string (ba l)]) = some (.lit (.string l),[]) := rfl
theorem fileElem_inv {v : Value} {z : DataW Unit × List MemPlace} (h : fileElem v = some z) : ∃ l : List UInt8,v = .agg #[.string (ba l)] ∧ z = (.lit (.string l),[]) := by
 unfold fileElem at h
 split at h
 ·cases h
  rename_i s
  exact ⟨s.data.toList,rfl,rfl⟩
 ·cases h
theorem klaw : Keyed Tryz.prog 9 := string_keyed Tryz.underlying9
theorem kkey (p : List UInt8) (hp : p.length ≤ 1000000) : keyOf Tryz.prog 9 (.string (ba p)) = some (.string p) :=
 WideMaps.keyOf_string_mk Tryz.underlying9 (s := ba p) (by rw [ba_size];unfold maxLen;omega)
abbrev Ptr (tb : Nat) : Value := .pointer (some ⟨tb,0,none⟩)
def MapAt (B : Nat) (w : World) (tb : Nat) (o : Option Nat) (fs : Fs) : Prop :=
 match o with
 | none => fs = []
 | some bm => B ≤ bm ∧ bm ≠ tb ∧ w.ownsMap Tryz.prog 9 fileElem bm fs.length (Tf.datum fs)
structure TreeAt (B : Nat) (w : World) (tb : Nat) (fs : Fs) (o : Option Nat) : Prop where
 low : B ≤ tb
 cell : w.cell? ⟨tb,0,none⟩ = some (.map o)
 free : w.frozen? ⟨tb,0,none⟩ = false
 isMap : MapAt B w tb o fs
theorem TreeAt.lt {B : Nat} {w : World} {tb : Nat} {fs : Fs} {o : Option Nat} (h : TreeAt B w tb fs o) : tb < w.heap.size := lt_of_cell h.cell
theorem ownsMap_below {w w' : World} {b n : Nat} {D : DataW Unit} {R : Value → Option (DataW Unit × List MemPlace)} (h : w.ownsMap Tryz.prog 9 R b n D) (hb : Below w.heap.size w w') : w'.ownsMap Tryz.prog 9 R b n D := by
 have hlt := h.lt
 obtain ⟨es,clock,h1,F,hs,hD⟩ := h
 exact ⟨es,clock,(hb.block b hlt).trans h1,F,hs,hD⟩
theorem TreeAt.below {B : Nat} {w w' : World} {tb : Nat} {fs : Fs} {o : Option Nat} (h : TreeAt B w tb fs o) (hb : Below w.heap.size w w') : TreeAt B w' tb fs o := by
 refine ⟨h.low,(hb.cell (p := ⟨tb,0,none⟩) h.lt).trans h.cell,(hb.frozen (p := ⟨tb,0,none⟩) h.lt).trans h.free,?_⟩
 cases o with
 | none => exact h.isMap
 | some bm => exact ⟨h.isMap.1,h.isMap.2.1,ownsMap_below h.isMap.2.2 hb⟩
theorem TreeAt.mono {B B' : Nat} {w : World} {tb : Nat} {fs : Fs} {o : Option Nat} (h : TreeAt B w tb fs o) (hB : B' ≤ B) : TreeAt B' w tb fs o := by
 refine ⟨Nat.le_trans hB h.low,h.cell,h.free,?_⟩
 cases o with
 | none => exact h.isMap
 | some bm => exact ⟨Nat.le_trans hB h.isMap.1,h.isMap.2⟩
theorem ownsMap_tight {w : World} {b n : Nat} {fs : Fs} {R : Value → Option (DataW Unit × List MemPlace)} (h : w.ownsMap Tryz.prog 9 R b n (Tf.datum fs)) : w.ownsMap Tryz.prog 9 R b fs.length (Tf.datum fs) := by
 obtain ⟨es,clock,h1,F,_,hD⟩ := h
 refine ⟨es,clock,h1,F,?_,hD⟩
 have := congrArg Maps.size hD
 rw [Tf.datum_size] at this
 rw [this]
 simp [Maps.size,length_sorted]
theorem New_calls (w : World) : Calls Tryz.prog 32 #[] w fun e w' => e = .returned (Ptr w.heap.size) ∧ TreeAt w.heap.size w' w.heap.size [] none ∧ Below w.heap.size w w' := by
 go_enter Tryz.func32,Tryz.ntmps32
 go_wp2
 go_ret
 refine ⟨rfl,⟨Nat.le_refl _,?_,?_,rfl⟩,(Below.refl _ w).alloc (Nat.le_refl _) _⟩
 ·exact (Boxed.new w _ _).cell
 ·exact (Boxed.new w _ _).frozen
theorem above_calls (a p : List UInt8) (ha : a.length ≤ 1000000) (w : World) : Calls Tryz.prog 179 #[.string (ba a),.string (ba p)] w fun e w' => e = .returned (.bool (Tf.above a p)) ∧ w' = w := by
 have H : Hid (∀ W,Calls Tryz.prog 217 #[.string (ba p),.string (ba (a ++ [47]))] W fun e w' => e = .returned (.bool (Tf.above a p)) ∧ w' = W) := fun W => Tryz.strings_HasPrefix (ba p) (ba (a ++ [47])) W
 go_enter Tryz.func179,Tryz.ntmps179
 go_wp2_with fail
 rw [show ba a ++ { data := #[47] } = ba (a ++ [47]) by rw [show (ByteArray.mk #[47]) = ba [47] from rfl,ba_append]]
 refine (H.out _).mono ?_
 rintro e w' ⟨rfl,rfl⟩
 go_wp2
 go_ret
 exact ⟨rfl,rfl⟩
theorem all_calls (tb : Nat) (o : Option Nat) (w : World) (hc : w.cell? ⟨tb,0,none⟩ = some (.map o)) : Calls Tryz.prog 88 #[Ptr tb] w fun e w' => e = .returned (.map o) ∧ w' = w := by
 go_enter Tryz.func88,Tryz.ntmps88
 go_wp2
 go_ret
 exact ⟨rfl,rfl⟩
end Go.Proofs.YtdljhggillgpfaaGreatDoor
namespace Go.Proofs.YtdljhggillgpfaaGreatDoor
open Go.RowKit Go.Shelf Go.Lib
namespace Bf
open Classical in
noncomputable def need (l : List Ru) (outs : List (List UInt8)) : Nat → Bool := fun k => decide (k < l.length ∧ ∃ f,Ru.Needed l outs f ∧ f k = true)
open Classical in
theorem need_eq {l : List Ru} {outs : List (List UInt8)} {f : Nat → Bool} (h : Ru.Needed l outs f) {k : Nat} (hk : k < l.length) : need l outs k = f k := by
 unfold need
 rw [Bool.eq_iff_iff,decide_eq_true_eq]
 constructor
 ·rintro ⟨_,g,hg,e⟩
  rw [h.unique hg k hk]
  exact e
 ·exact fun e => ⟨hk,f,h,e⟩
open Classical in
theorem need_out {l : List Ru} {outs : List (List UInt8)} {k : Nat} (hk : l.length ≤ k) : need l outs k = false := by
 unfold need
 rw [decide_eq_false]
 rintro ⟨h,_⟩
 omega
noncomputable def init (fs : Tf.Fs) (l : List Ru) (outs : List (List UInt8)) : Bd := ⟨fs,l,fun k => if need l outs k = true then .waits else .no⟩
def Bd.ran (d : Bd) : Nat := many d.st (fun s => s.isDone && !s.hit) d.l.length
def Bd.hits (d : Bd) : Nat := many d.st (fun s => s.isDone && s.hit) d.l.length
def Bd.fails (d : Bd) : Nat := many d.st St.isFailed d.l.length
def Bd.lefts (d : Bd) : Nat := many d.st St.isLeft d.l.length
def Bd.at (d : Bd) (i : Int) : St := if i < 0 ∨ (d.l.length : Int) ≤ i then .no else d.st i.toNat
end Bf
def CaAt (At : (Nat → Prop) → World → Value → Nat → Cf.Ens → Prop) (S : Nat → Prop) (W : World) (cv : Value) : Bf.Ca → Prop
 | none => cv = .pointer none ∧ ∀ j,¬ S j
 | some (m,l) => (∃ p,cv = .pointer (some p)) ∧ At S W cv m l
structure BuildW (w : World) (es : Nat → Addr) : Prop where
 g : GraphW w es
 shape : w.cell? ⟨2,0,Option.none⟩ = some (erOf es 3)
 none : w.cell? ⟨5,0,Option.none⟩ = some (erOf es 6)
 turn : w.cell? ⟨10,0,Option.none⟩ = some (erOf es 11)
 done : w.cell? ⟨11,0,Option.none⟩ = some (erOf es 12)
 k : KeyTells w
theorem BuildW.below {w w' : World} {es : Nat → Addr} (h : BuildW w es) (hb : Below w.heap.size w w') : BuildW w' es := ⟨h.g.below hb,cell_below' h.shape hb,cell_below' h.none hb,cell_below' h.turn hb,cell_below' h.done hb,fun V hV => h.k V (below_then hb hV)⟩
def BuildB (B : Nat) (w : World) (es : Nat → Addr) : Prop := ∃ w0 : World,w0.heap.size = B ∧ BuildW w0 es ∧ Below B w0 w
theorem BuildB.w {B : Nat} {w : World} {es : Nat → Addr} (h : BuildB B w es) : BuildW w es := by
 obtain ⟨w0,rfl,h1,h2⟩ := h
 exact h1.below h2
theorem BuildB.le {B : Nat} {w : World} {es : Nat → Addr} (h : BuildB B w es) : B ≤ w.heap.size := by
 obtain ⟨w0,rfl,_,h2⟩ := h
 exact h2.size
theorem BuildB.trans {B : Nat} {w w' : World} {es : Nat → Addr} (h : BuildB B w es) (hb : Below B w w') : BuildB B w' es := by
 obtain ⟨w0,e,h1,h2⟩ := h
 exact ⟨w0,e,h1,h2.trans hb⟩
theorem BuildB.below {B : Nat} {w w' : World} {es : Nat → Addr} (h : BuildB B w es) (hb : Below w.heap.size w w') : BuildB B w' es := h.trans (hb.mono h.le)
theorem BuildB.only {B : Nat} {w w' : World} {es : Nat → Addr} {S : Nat → Prop} (h : BuildB B w es) (ho : Only S w w') (hS : ∀ j,S j → B ≤ j) : BuildB B w' es := h.trans (ho.below hS h.le)
def NewTells (es : Nat → Addr) (BAt : (Nat → Prop) → World → Value → Value → Bf.Bd → Prop) (n : Nat) (fs : Tf.Fs) (l : List Ru) (outs : List (List UInt8)) (cv : Value) (w : World) (bv ev : Value) : Prop :=
 (bv = .pointer none ∧ (((Ru.fault l).1 ≠ 0 ∧ ErrV w es ev (Ru.fault l)) ∨
  ((Ru.fault l).1 = 0 ∧ ∃ k,∃ hk : k < outs.length,(∀ x ∈ l,x.out ≠ outs[k]) ∧ (∀ j (hj : j < outs.length),j < k → ∃ x ∈ l,x.out = outs[j]) ∧ ErrV w es ev (6,(k : Int))) ∨
  ((Ru.fault l).1 = 0 ∧ (∀ j (hj : j < outs.length),∃ x ∈ l,x.out = outs[j]) ∧ Ru.order l (Bf.need l outs) = none ∧ ev = erOf es 9))) ∨
 ((Ru.fault l).1 = 0 ∧ (∀ j (hj : j < outs.length),∃ x ∈ l,x.out = outs[j]) ∧ (Ru.order l (Bf.need l outs)).isSome = true ∧ ev = .nilIface ∧ (∃ p,bv = .pointer (some p)) ∧ ∃ S,BAt S w bv cv (Bf.init fs l outs) ∧ ∀ k,S k → n ≤ k)
structure Builds (es : Nat → Addr) (act : Bf.Act) (At : (Nat → Prop) → World → Value → Nat → Cf.Ens → Prop) (BAt : (Nat → Prop) → World → Value → Value → Bf.Bd → Prop) : Prop where
 same : ∀ (S : Nat → Prop) (W W' : World) v cv d,BAt S W v cv d → W.heap.size ≤ W'.heap.size → (∀ k,S k → W'.heap[k]? = W.heap[k]?) → BAt S W' v cv d
 lt : ∀ (S : Nat → Prop) (W : World) v cv d,BAt S W v cv d → ∀ k,S k → k < W.heap.size
 noTree : ∀ (W : World) lv l ov outs cv,BuildW W es → RRow W lv l → IRow W ov outs → Calls Tryz.prog 108 #[.pointer none,lv,ov,cv] W fun e w' => e = .returned (.tuple #[.pointer none,erOf es 3]) ∧ Below W.heap.size W w'
 new : ∀ (W : World) B tb fs o lv l ov outs cv,BuildW W es → TreeAt B W tb fs o → Tf.Rises fs → fs.length ≤ 1000 → (∀ f ∈ fs,f.1.length ≤ 1000 ∧ f.2.length ≤ 2000) → RRow W lv l → l.length ≤ 100 → (∀ x ∈ l,x.Small) → XRow W ov outs → outs.length ≤ 1000 → (∀ x ∈ outs,x.length ≤ 300) → (∃ q,cv = .pointer q) →
  Calls Tryz.prog 108 #[Ptr tb,lv,ov,cv] W fun e w' => ∃ bv ev,e = .returned (.tuple #[bv,ev]) ∧ Below W.heap.size W w' ∧ NewTells es BAt W.heap.size fs l outs cv w' bv ev
 ready : ∀ (S : Nat → Prop) (W : World) p cv d,BAt S W (.pointer (some p)) cv d → d.l.length ≤ 40 → Calls Tryz.prog 150 #[.pointer (some p)] W fun e w' => ∃ u,e = .returned u ∧ NIRow w' u d.ready ∧ Below W.heap.size W w'
 state : ∀ (S : Nat → Prop) (W : World) p cv d (i : Int),BAt S W (.pointer (some p)) cv d → d.l.length ≤ 40 → -9223372036854775808 ≤ i → i ≤ 9223372036854775807 → Calls Tryz.prog 154 #[.pointer (some p),.int .i64 i] W fun e w' => e = .returned (.string (ba (d.at i).name)) ∧ Below W.heap.size W w'
 result : ∀ (S : Nat → Prop) (W : World) p cv d (i : Int),BAt S W (.pointer (some p)) cv d → d.l.length ≤ 40 → -9223372036854775808 ≤ i → i ≤ 9223372036854775807 → Calls Tryz.prog 153 #[.pointer (some p),.int .i64 i] W fun e w' => e = .returned (.tuple #[.string (ba (d.at i).out),.bool (d.at i).isDone]) ∧ Below W.heap.size W w'
 count : ∀ (S : Nat → Prop) (W : World) p cv d,BAt S W (.pointer (some p)) cv d → d.l.length ≤ 40 → Calls Tryz.prog 152 #[.pointer (some p)] W fun e w' => e = .returned (.agg #[.int .i64 (d.ran : Nat),.int .i64 (d.hits : Nat),.int .i64 (d.fails : Nat),.int .i64 (d.lefts : Nat)]) ∧ Below W.heap.size W w'
 run : ∀ (B : Nat) (S SC : Nat → Prop) (W : World) p cv d c (i : Int),BAt S W (.pointer (some p)) cv d → CaAt At SC W cv c → (∀ j,S j → ¬ SC j) → BuildB B W es → (∀ j,S j → B ≤ j) → (∀ j,SC j → B ≤ j) → (Ru.fault d.l).1 = 0 → (∀ x ∈ d.l,x.Small) → Bf.Fit d → Bf.CFit c → -9223372036854775808 ≤ i → i ≤ 9223372036854775807 →
  Calls Tryz.prog 151 #[.pointer (some p),.int .i64 i] W fun e w' => e = .returned (.tuple #[.bool (Bf.run act c d i).hit,erOf es (Bf.run act c d i).code]) ∧ Only (fun j => S j ∨ SC j) W w' ∧ ∃ S' SC',BAt S' w' (.pointer (some p)) cv (Bf.run act c d i).d ∧ CaAt At SC' w' cv (Bf.run act c d i).c ∧ (∀ j,S' j → ¬ SC' j) ∧ (∀ j,S' j → S j ∨ W.heap.size ≤ j) ∧ ∀ j,SC' j → SC j ∨ W.heap.size ≤ j
 all : ∀ (B : Nat) (S SC : Nat → Prop) (W : World) p cv d c,BAt S W (.pointer (some p)) cv d → CaAt At SC W cv c → (∀ j,S j → ¬ SC j) → BuildB B W es → (∀ j,S j → B ≤ j) → (∀ j,SC j → B ≤ j) → (Ru.fault d.l).1 = 0 → (∀ x ∈ d.l,x.Small) → Bf.Fit d → Bf.CFit c →
  Calls Tryz.prog 109 #[.pointer (some p)] W fun e w' => e = .returned (.agg #[.int .i64 ((Bf.all act c d).1.ran : Nat),.int .i64 ((Bf.all act c d).1.hits : Nat),.int .i64 ((Bf.all act c d).1.fails : Nat),.int .i64 ((Bf.all act c d).1.lefts : Nat)]) ∧ Only (fun j => S j ∨ SC j) W w' ∧ ∃ S' SC',BAt S' w' (.pointer (some p)) cv (Bf.all act c d).1 ∧ CaAt At SC' w' cv (Bf.all act c d).2 ∧ (∀ j,S' j → ¬ SC' j) ∧ (∀ j,S' j → S j ∨ W.heap.size ≤ j) ∧ ∀ j,SC' j → SC j ∨ W.heap.size ≤ j
end Go.Proofs.YtdljhggillgpfaaGreatDoor
namespace Go.Proofs.YtdljhggillgpfaaGreatDoor
namespace Ru
inductive Rch (l : List Ru) (outs : List (List UInt8)) : Nat → Prop where
 | base {k : Nat} : base l outs k = true → Rch l outs k
 | step {i k : Nat} : Rch l outs i → needs l i k = true → Rch l outs k
open Classical in
theorem needed_is (l : List Ru) (outs : List (List UInt8)) : ∃ f,Needed l outs f := by
 refine ⟨fun k => decide (Rch l outs k),fun k hk => decide_eq_true (.base hk),fun i k hi hn => ?_,fun P h1 h2 k _ hk => ?_⟩
 ·have hi' : decide (Rch l outs i) = true := hi
  exact decide_eq_true (.step (of_decide_eq_true hi') hn)
 ·have hk' : decide (Rch l outs k) = true := hk
  have := of_decide_eq_true hk'
  induction this with
  | base hb => exact h1 _ hb
  | step h hn ih =>
   have hl := (needs_lt hn).1
   exact h2 _ _ (ih hl (decide_eq_true h) (decide_eq_true h)) hn
end Ru
end Go.Proofs.YtdljhggillgpfaaGreatDoor
namespace Go.Proofs.YtdljhggillgpfaaGreatDoor
open Go.RowKit Go.Shelf Go.Lib Go.Maps
def centElem : Value → Option (DataW Unit × List MemPlace)
 | .agg ⟨[.string s]⟩ => some (.lit (.string s.data.toList),[])
 | _ => none
theorem centElem_mk (l : List UInt8) : centElem (.agg #[.string (ba l)]) = some (.lit (.string l),[]) := rfl
theorem centElem_inv {v : Value} {z : DataW Unit × List MemPlace} (h : centElem v = some z) : ∃ l : List UInt8,v = .agg #[.string (ba l)] ∧ z = (.lit (.string l),[]) := by
 unfold centElem at h
 split at h
 ·cases h
  rename_i s
  exact ⟨s.data.toList,rfl,rfl⟩
 ·cases h
theorem claw : Keyed Tryz.prog 9 := string_keyed Tryz.underlying9
theorem ckey (p : List UInt8) (hp : p.length ≤ 1000000) : keyOf Tryz.prog 9 (.string (ba p)) = some (.string p) :=
 WideMaps.keyOf_string_mk Tryz.underlying9 (s := ba p) (by rw [ba_size];unfold maxLen;omega)
namespace Cf
theorem find_cons (e : En) (t : Ens) (p : List UInt8) : find (e :: t) p = if e.1 = p then some e.2 else find t p := by
 unfold find
 by_cases h : e.1 = p
 ·rw [if_pos h,List.find?_cons_of_pos (by simp [h])]
  rfl
 ·rw [if_neg h,List.find?_cons_of_neg (by simp [h])]
theorem find_laid (l : Ens) (k b p : List UInt8) : find (rm l k ++ [(k,b)]) p = if p = k then some b else find l p := by
 induction l with
 | nil =>
  show find [(k,b)] p = _
  rw [find_cons]
  by_cases h : p = k
  ·subst h;simp
  ·rw [if_neg h,if_neg fun e => h e.symm]
 | cons e t ih =>
  by_cases he : e.1 = k
  ·have : rm (e :: t) k = rm t k := by unfold rm;rw [List.filter_cons_of_neg (by simp [he])]
   rw [this,ih]
   by_cases h : p = k
   ·rw [if_pos h,if_pos h]
   ·rw [if_neg h,if_neg h,find_cons,if_neg (fun x : e.1 = p => h (x.symm.trans he))]
  ·have : rm (e :: t) k = e :: rm t k := by unfold rm;rw [List.filter_cons_of_pos (by simp [he])]
   rw [this,List.cons_append,find_cons,ih,find_cons]
   by_cases h : p = k
   ·subst h
    rw [if_neg he,if_pos rfl,if_pos rfl]
   ·rw [if_neg h,if_neg h]
theorem find_drop {l : Ens} {e : En} (ho : (keys (e :: l)).Nodup) (p : List UInt8) : find l p = if p = e.1 then none else find (e :: l) p := by
 obtain ⟨h1,h2⟩ := List.nodup_cons.1 ho
 by_cases h : p = e.1
 ·rw [if_pos h]
  cases hf : find l p with
  | none => rfl
  | some b => exact absurd (List.mem_map.2 ⟨_,find_some hf,h⟩) h1
 ·rw [if_neg h,find_cons,if_neg fun x => h x.symm]
theorem keys_rm (l : Ens) (k : List UInt8) : keys (rm l k) = (keys l).filter fun x => !(x == k) := by
 unfold keys rm
 rw [List.filter_map]
 rfl
theorem keys_len (l : Ens) : (keys l).length = l.length := by simp [keys]
theorem rm_len_in {l : Ens} (ho : (keys l).Nodup) {k b : List UInt8} (hf : find l k = some b) : (rm l k).length + 1 = l.length := by
 have h1 := rm_ge ho k
 have h2 : (rm l k).length ≠ l.length := fun e => by
  have h3 := (rm_sub l k).eq_of_length e
  have := rm_key l k
  rw [h3] at this
  exact this (List.mem_map.2 ⟨_,find_some hf,rfl⟩)
 have := rm_le l k
 omega
theorem rm_len_out {l : Ens} {k : List UInt8} (hf : find l k = none) : (rm l k).length = l.length := by rw [rm_none (find_none hf)]
end Cf
def CMap (W : World) (eb : Nat) (l : Cf.Ens) : Prop :=
 ∃ D : DataW Unit,W.ownsMap Tryz.prog 9 centElem eb l.length D ∧ Maps.size D = l.length ∧ (∀ p,has D (.string p) = (Cf.find l p).isSome) ∧ ∀ p,D.atKey (.string p) (.lit (.string [])) = .lit (.string ((Cf.find l p).getD []))
theorem owns_tight {w : World} {b n : Nat} {D : DataW Unit} {R : Value → Option (DataW Unit × List MemPlace)} (h : w.ownsMap Tryz.prog 9 R b n D) : w.ownsMap Tryz.prog 9 R b (Maps.size D) D := by
 obtain ⟨es,clock,h1,F,_,hD⟩ := h
 refine ⟨es,clock,h1,F,?_,hD⟩
 rw [hD]
 simp [Maps.size,length_sorted]
theorem CMap.lt {W : World} {eb : Nat} {l : Cf.Ens} (h : CMap W eb l) : eb < W.heap.size := by
 obtain ⟨D,h1,_⟩ := h
 exact h1.lt
theorem CMap.same {W W' : World} {eb : Nat} {l : Cf.Ens} (h : CMap W eb l) (hb : W'.heap[eb]? = W.heap[eb]?) : CMap W' eb l := by
 obtain ⟨D,⟨es,clock,h1,F⟩,h2⟩ := h
 exact ⟨D,⟨es,clock,hb.trans h1,F⟩,h2⟩
theorem CMap.made (W : World) : CMap (W.alloc (.map #[] 0)) W.heap.size [] :=
 ⟨.map [],World.ownsMap_made W _ _ _,rfl,fun _ => rfl,fun _ => rfl⟩
theorem CMap.perm {W : World} {eb : Nat} {l l' : Cf.Ens} (h : CMap W eb l) (hf : ∀ p,Cf.find l' p = Cf.find l p) (hl : l'.length = l.length) : CMap W eb l' := by
 obtain ⟨D,h1,h2,h3,h4⟩ := h
 exact ⟨D,by rw [hl];exact h1,by rw [hl];exact h2,fun p => by rw [hf];exact h3 p,fun p => by rw [hf];exact h4 p⟩
theorem CMap.laid {W : World} {eb n : Nat} {l : Cf.Ens} {D : DataW Unit} {k b : List UInt8} (ho : (Cf.keys l).Nodup) (hT : Tidy D) (h1 : W.ownsMap Tryz.prog 9 centElem eb n (D.put (.string k) (.lit (.string b)))) (h2 : Maps.size D = l.length) (h3 : ∀ p,has D (.string p) = (Cf.find l p).isSome) (h4 : ∀ p,D.atKey (.string p) (.lit (.string [])) = .lit (.string ((Cf.find l p).getD []))) :
  CMap W eb (Cf.rm l k ++ [(k,b)]) := by
 have hk : WideAt.IsKeyLit (.string k) := by simp [WideAt.IsKeyLit]
 have hs : Maps.size (D.put (.string k) (.lit (.string b))) = (Cf.rm l k ++ [(k,b)]).length := by
  rw [size_put hT,h3,h2,List.length_append,List.length_singleton]
  cases hf : Cf.find l k with
  | none => rw [Cf.rm_len_out hf];rfl
  | some c => rw [Cf.rm_len_in ho hf];rfl
 refine ⟨_,hs ▸ owns_tight h1,hs,fun p => ?_,fun p => ?_⟩
 ·rw [Cf.find_laid]
  by_cases h : p = k
  ·subst h
   rw [if_pos rfl,has_put_same hT.isMap hk]
   rfl
  ·rw [if_neg h,has_put_other (by simpa using h),h3]
 ·rw [Cf.find_laid]
  by_cases h : p = k
  ·subst h
   rw [if_pos rfl,atKey_put_same hT.isMap hk]
   rfl
  ·rw [if_neg h,atKey_put_other (by simpa using h),h4]
theorem CMap.cut {W : World} {eb n : Nat} {e : Cf.En} {l : Cf.Ens} {D : DataW Unit} (ho : (Cf.keys (e :: l)).Nodup) (hT : Tidy D) (h1 : W.ownsMap Tryz.prog 9 centElem eb n (D.del (.string e.1))) (h2 : Maps.size D = (e :: l).length) (h3 : ∀ p,has D (.string p) = (Cf.find (e :: l) p).isSome) (h4 : ∀ p,D.atKey (.string p) (.lit (.string [])) = .lit (.string ((Cf.find (e :: l) p).getD []))) :
  CMap W eb l := by
 have hs : Maps.size (D.del (.string e.1)) = l.length := by
  have := size_del (k := .string e.1) hT
  rw [h3,Cf.find_cons,if_pos rfl,h2] at this
  simpa using this
 refine ⟨_,hs ▸ owns_tight h1,hs,fun p => ?_,fun p => ?_⟩
 ·rw [Cf.find_drop ho]
  by_cases h : p = e.1
  ·rw [if_pos h,h,has_del_same]
   rfl
  ·rw [if_neg h,has_del_other (by simpa using h),h3]
 ·rw [Cf.find_drop ho]
  by_cases h : p = e.1
  ·rw [if_pos h,h,atKey_del_same]
   rfl
  ·rw [if_neg h,atKey_del_other (by simpa using h),h4]
theorem look_cache {W : World} {eb : Nat} {l : Cf.Ens} (h : CMap W eb l) (p : List UInt8) (hp : p.length ≤ 1000000) :
  (Instr.lookup 99 (.map (some eb)) (.string (ba p)) true).run Tryz.prog W = .ok (.tuple #[.agg #[.string (ba ((Cf.find l p).getD []))],.bool (Cf.find l p).isSome]) W := by
 obtain ⟨D,h1,h2,h3,h4⟩ := h
 obtain ⟨v,ps,hrun,hv⟩ := h1.look_ok (t := 99) (e := 327) claw Tryz.underlying99 (z := .agg #[.string (ba [])]) (Tryz.zeroValue327 W) (zd := .lit (.string [])) (zp := []) rfl (ckey p hp)
 obtain ⟨x,rfl,hl⟩ := centElem_inv hv
 rw [h3] at hrun
 rw [h4] at hl
 have : (Cf.find l p).getD [] = x := by
  simp at hl
  exact hl.1
 rw [this]
 exact hrun
def KRow (W : World) (u : Value) (ks : List (List UInt8)) : Prop := W.ownsRow 0 9 1 u ks.length (ks.map sv)
theorem KRow.same {W W' : World} {u : Value} {ks : List (List UInt8)} (h : KRow W u ks) (hb : ∀ j,some j = u.ownBlock → W'.heap[j]? = W.heap[j]?) : KRow W' u ks := by
 refine ⟨h.1,?_⟩
 rcases h.2 with h1 | ⟨g,cap,cur,e,h0,hg,h2⟩
 ·exact .inl h1
 ·exact .inr ⟨g,cap,cur,e,h0,(hb g (by rw [e];rfl)).trans hg,h2⟩
theorem KRow.lt {W : World} {u : Value} {ks : List (List UInt8)} (h : KRow W u ks) {j : Nat} (hj : some j = u.ownBlock) : j < W.heap.size := by
 rcases h.2 with ⟨e,_⟩ | ⟨g,cap,cur,e,h0,hg,h2⟩
 ·rw [e] at hj;cases hj
 ·rw [e] at hj
  have : j = g := by simpa [Value.ownBlock] using hj
  subst this
  exact (Array.getElem?_eq_some_iff.1 hg).1
structure CBox (W : World) (cb eb : Nat) (u : Value) (m : Nat) (ks : List (List UInt8)) (l : Cf.Ens) : Prop where
 c0 : W.cell? ⟨cb,0,none⟩ = some (.int .i64 m)
 c1 : W.cell? ⟨cb,1,none⟩ = some (.map (some eb))
 c2 : W.cell? ⟨cb,2,none⟩ = some u
 f2 : W.frozen? ⟨cb,2,none⟩ = false
 row : KRow W u ks
 isMap : CMap W eb l
 ne1 : cb ≠ eb
 ne2 : some cb ≠ u.ownBlock
 ne3 : some eb ≠ u.ownBlock
def CBlk (cb eb : Nat) (u : Value) (j : Nat) : Prop := j = cb ∨ j = eb ∨ some j = u.ownBlock
theorem CBox.same {W W' : World} {cb eb : Nat} {u : Value} {m : Nat} {ks : List (List UInt8)} {l : Cf.Ens} (h : CBox W cb eb u m ks l) (hb : ∀ j,CBlk cb eb u j → W'.heap[j]? = W.heap[j]?) : CBox W' cb eb u m ks l := by
 have hc := hb cb (.inl rfl)
 exact ⟨(World.cell?_of_block (a := ⟨cb,0,none⟩) hc).trans h.c0,(World.cell?_of_block (a := ⟨cb,1,none⟩) hc).trans h.c1,(World.cell?_of_block (a := ⟨cb,2,none⟩) hc).trans h.c2,(World.frozen?_of_block (a := ⟨cb,2,none⟩) hc).trans h.f2,h.row.same fun j hj => hb j (.inr (.inr hj)),h.isMap.same (hb eb (.inr (.inl rfl))),h.ne1,h.ne2,h.ne3⟩
theorem CBox.lt {W : World} {cb eb : Nat} {u : Value} {m : Nat} {ks : List (List UInt8)} {l : Cf.Ens} (h : CBox W cb eb u m ks l) : ∀ j,CBlk cb eb u j → j < W.heap.size := by
 rintro j (rfl | rfl | hj)
 ·exact lt_of_cell h.c0
 ·exact h.isMap.lt
 ·exact h.row.lt hj
theorem CBox.below {W W' : World} {cb eb : Nat} {u : Value} {m : Nat} {ks : List (List UInt8)} {l : Cf.Ens} (h : CBox W cb eb u m ks l) (hb : Below W.heap.size W W') : CBox W' cb eb u m ks l := h.same fun j hj => hb.block j (h.lt j hj)
def CAt (S : Nat → Prop) (W : World) (v : Value) (m : Nat) (l : Cf.Ens) : Prop := ∃ cb eb u,v = .pointer (some ⟨cb,0,none⟩) ∧ (∀ j,S j ↔ CBlk cb eb u j) ∧ CBox W cb eb u m (Cf.keys l) l ∧ ∀ e ∈ l,e.1.length ≤ 100000
end Go.Proofs.YtdljhggillgpfaaGreatDoor
namespace Go.Proofs.YtdljhggillgpfaaGreatDoor
open Go.RowKit Go.Shelf Go.Lib Go.Maps
def Bf.St.num : Bf.St → Nat
 | .no => 0 | .waits => 0 | .done _ false => 1 | .done _ true => 2 | .failed _ => 3 | .left => 4
inductive Inp where
 | rule (k : Nat) | file (b : List UInt8) | gone
def Inp.vals (sp : Nat → Nat) : Inp → List Value
 | .rule k => [Ptr (sp k),.string (ba []),.bool false]
 | .file b => [.pointer none,.string (ba b),.bool true]
 | .gone => [.pointer none,.string (ba []),.bool false]
def Inp.from (sp : Nat → Nat) : Inp → Value
 | .rule k => Ptr (sp k)
 | _ => .pointer none
def Inp.text : Inp → List UInt8
 | .file b => b
 | _ => []
def Inp.there : Inp → Bool
 | .file _ => true
 | _ => false
theorem Inp.vals_eq (sp : Nat → Nat) (x : Inp) : x.vals sp = [x.from sp,.string (ba x.text),.bool x.there] := by cases x <;> rfl
def insC (sp : Nat → Nat) (l : List Inp) : List Value := l.flatMap (Inp.vals sp)
theorem insC_snoc (sp : Nat → Nat) (l : List Inp) (x : Inp) : insC sp (l ++ [x]) = insC sp l ++ x.vals sp := by simp [insC]
theorem insC_get (sp : Nat → Nat) : ∀ (l : List Inp) (j : Nat) (hj : j < l.length),(insC sp l)[j * 3]? = some (l[j].from sp) ∧ (insC sp l)[j * 3 + 1]? = some (.string (ba l[j].text)) ∧ (insC sp l)[j * 3 + 2]? = some (.bool l[j].there)
 | [],j,hj => by simp at hj
 | x :: t,0,_ => by
  have e : insC sp (x :: t) = [x.from sp,.string (ba x.text),.bool x.there] ++ insC sp t := by
   rw [← Inp.vals_eq];rfl
  rw [e]
  exact ⟨rfl,rfl,rfl⟩
 | x :: t,j + 1,hj => by
  have e : insC sp (x :: t) = [x.from sp,.string (ba x.text),.bool x.there] ++ insC sp t := by
   rw [← Inp.vals_eq];rfl
  obtain ⟨h0,h1,h2⟩ := insC_get sp t j (by simpa using hj)
  rw [e]
  refine ⟨?_,?_,?_⟩
  ·rw [List.getElem?_append_right (by simp;omega)]
   simpa [show (j + 1) * 3 - 3 = j * 3 by omega] using h0
  ·rw [List.getElem?_append_right (by simp;omega)]
   simpa [show (j + 1) * 3 + 1 - 3 = j * 3 + 1 by omega] using h1
  ·rw [List.getElem?_append_right (by simp;omega)]
   simpa [show (j + 1) * 3 + 2 - 3 = j * 3 + 2 by omega] using h2
theorem insC_congr {sp sp' : Nat → Nat} : ∀ {l : List Inp},(∀ k,Inp.rule k ∈ l → sp k = sp' k) → insC sp l = insC sp' l
 | [],_ => rfl
 | x :: t,h => by
  have := insC_congr (l := t) fun k hk => h k (List.mem_cons_of_mem _ hk)
  have e : x.vals sp = x.vals sp' := by
   cases x with
   | rule k => simp [Inp.vals,h k (by simp)]
   | file b => rfl
   | gone => rfl
  show x.vals sp ++ insC sp t = x.vals sp' ++ insC sp' t
  rw [this,e]
structure Lay where
 sp : Nat → Nat
 iv : Nat → Value
 uv : Nat → Value
 us : Nat → List Nat
def usC (sp : Nat → Nat) (l : List Nat) : List Value := l.map fun j => Ptr (sp j)
theorem usC_congr {sp sp' : Nat → Nat} {l : List Nat} (h : ∀ k ∈ l,sp k = sp' k) : usC sp l = usC sp' l := by
 unfold usC
 refine List.map_congr_left fun k hk => ?_
 rw [h k hk]
def stepC (es : Nat → Addr) (r : Ru) (iv uv : Value) (s : Bf.St) : Array Value := #[.string (ba r.kind),.string (ba r.word),iv,uv,.int .i64 (s.num : Nat),.string (ba s.out),erOf es s.why]
structure Steps (W : World) (es : Nat → Addr) (dom : Nat → Prop) (L : Lay) (ru : Nat → Ru) (ins : Nat → List Inp) (st : Nat → Bf.St) : Prop where
 step : ∀ i,dom i → W.heap[L.sp i]? = some (.cells (stepC es (ru i) (L.iv i) (L.uv i) (st i)) 272)
 inj : ∀ i j,dom i → dom j → L.sp i = L.sp j → i = j
 insR : ∀ i,dom i → W.ownsRow 0 301 3 (L.iv i) (ins i).length (insC L.sp (ins i))
 usR : ∀ i,dom i → W.ownsRow 0 262 1 (L.uv i) (L.us i).length (usC L.sp (L.us i))
 insD : ∀ i,dom i → ∀ k,Inp.rule k ∈ ins i → dom k
 usD : ∀ i,dom i → ∀ j ∈ L.us i,dom j
def SBlk (dom : Nat → Prop) (L : Lay) (j : Nat) : Prop := ∃ i,dom i ∧ (j = L.sp i ∨ some j = (L.iv i).ownBlock ∨ some j = (L.uv i).ownBlock)
theorem own_same {W W' : World} {B : Nat} {e : TypeId} {s n : Nat} {v : Value} {xs : List Value} (h : W.ownsRow B e s v n xs) (hb : ∀ j,some j = v.ownBlock → W'.heap[j]? = W.heap[j]?) : W'.ownsRow B e s v n xs := by
 refine ⟨h.1,?_⟩
 rcases h.2 with h1 | ⟨g,cap,cur,e,h0,hg,h2⟩
 ·exact .inl h1
 ·exact .inr ⟨g,cap,cur,e,h0,(hb g (by rw [e];rfl)).trans hg,h2⟩
theorem own_in {W : World} {B : Nat} {e : TypeId} {s n : Nat} {v : Value} {xs : List Value} (h : W.ownsRow B e s v n xs) {j : Nat} (hj : some j = v.ownBlock) : ∃ cur,W.heap[j]? = some (.cells cur e) := by
 rcases h.2 with ⟨e,_⟩ | ⟨g,cap,cur,e,h0,hg,h2⟩
 ·rw [e] at hj;cases hj
 ·rw [e] at hj
  have : j = g := by simpa [Value.ownBlock] using hj
  subst this
  exact ⟨cur,hg⟩
theorem own_cell {W : World} {B : Nat} {e : TypeId} {s n : Nat} {v : Value} {xs : List Value} (h : W.ownsRow B e s v n xs) (hn : 0 < n) : ∃ g cap,v = .slice (some ⟨g,0,none⟩) n cap ∧ ∀ j u,xs[j]? = some u → W.cell? ⟨g,j,none⟩ = some u := by
 rcases h.2 with ⟨e,h0⟩ | ⟨g,cap,cur,e,h0,hg,h2,h3,h4,h5⟩
 ·omega
 ·refine ⟨g,cap,e,fun j u hu => ?_⟩
  refine cell_of_row hg ?_
  rw [← h5] at hu
  rw [List.getElem?_take] at hu
  split at hu
  ·simpa using hu
  ·cases hu
theorem own_val {W : World} {B : Nat} {e : TypeId} {s n : Nat} {v : Value} {xs : List Value} (h : W.ownsRow B e s v n xs) : ∃ p cap,v = .slice p n cap := by
 rcases h.2 with ⟨e,h0⟩ | ⟨g,cap,cur,e,_⟩
 ·exact ⟨none,0,by rw [h0];exact e⟩
 ·exact ⟨_,_,e⟩
theorem Steps.lt {W : World} {es : Nat → Addr} {dom : Nat → Prop} {L : Lay} {ru : Nat → Ru} {ins : Nat → List Inp} {st : Nat → Bf.St} (h : Steps W es dom L ru ins st) : ∀ j,SBlk dom L j → j < W.heap.size := by
 rintro j ⟨i,hi,rfl | hj | hj⟩
 ·exact (Array.getElem?_eq_some_iff.1 (h.step i hi)).1
 ·obtain ⟨_,e⟩ := own_in (h.insR i hi) hj
  exact (Array.getElem?_eq_some_iff.1 e).1
 ·obtain ⟨_,e⟩ := own_in (h.usR i hi) hj
  exact (Array.getElem?_eq_some_iff.1 e).1
theorem Steps.same {W W' : World} {es : Nat → Addr} {dom : Nat → Prop} {L : Lay} {ru : Nat → Ru} {ins : Nat → List Inp} {st : Nat → Bf.St} (h : Steps W es dom L ru ins st) (hb : ∀ j,SBlk dom L j → W'.heap[j]? = W.heap[j]?) : Steps W' es dom L ru ins st :=
 ⟨fun i hi => (hb _ ⟨i,hi,.inl rfl⟩).trans (h.step i hi),h.inj,fun i hi => own_same (h.insR i hi) fun j hj => hb j ⟨i,hi,.inr (.inl hj)⟩,fun i hi => own_same (h.usR i hi) fun j hj => hb j ⟨i,hi,.inr (.inr hj)⟩,h.insD,h.usD⟩
theorem Steps.below {W W' : World} {es : Nat → Addr} {dom : Nat → Prop} {L : Lay} {ru : Nat → Ru} {ins : Nat → List Inp} {st : Nat → Bf.St} (h : Steps W es dom L ru ins st) (hb : Below W.heap.size W W') : Steps W' es dom L ru ins st := h.same fun j hj => hb.block j (h.lt j hj)
theorem Steps.congr {W : World} {es : Nat → Addr} {dom : Nat → Prop} {L : Lay} {ru : Nat → Ru} {ins : Nat → List Inp} {st st' : Nat → Bf.St} (h : Steps W es dom L ru ins st) (he : ∀ i,dom i → st' i = st i) : Steps W es dom L ru ins st' :=
 ⟨fun i hi => by rw [he i hi];exact h.step i hi,h.inj,h.insR,h.usR,h.insD,h.usD⟩
structure StepAt (W : World) (es : Nat → Addr) (b : Nat) (r : Ru) (iv uv : Value) (s : Bf.St) : Prop where
 c0 : W.cell? ⟨b,0,none⟩ = some (.string (ba r.kind))
 c1 : W.cell? ⟨b,1,none⟩ = some (.string (ba r.word))
 c2 : W.cell? ⟨b,2,none⟩ = some iv
 c3 : W.cell? ⟨b,3,none⟩ = some uv
 c4 : W.cell? ⟨b,4,none⟩ = some (.int .i64 (s.num : Nat))
 c5 : W.cell? ⟨b,5,none⟩ = some (.string (ba s.out))
 c6 : W.cell? ⟨b,6,none⟩ = some (erOf es s.why)
 fr : ∀ j,W.frozen? ⟨b,j,none⟩ = false
theorem Steps.at {W : World} {es : Nat → Addr} {dom : Nat → Prop} {L : Lay} {ru : Nat → Ru} {ins : Nat → List Inp} {st : Nat → Bf.St} (h : Steps W es dom L ru ins st) {i : Nat} (hi : dom i) : StepAt W es (L.sp i) (ru i) (L.iv i) (L.uv i) (st i) := by
 have r := h.step i hi
 exact ⟨cell_of_row (j := 0) r rfl,cell_of_row (j := 1) r rfl,cell_of_row (j := 2) r rfl,cell_of_row (j := 3) r rfl,cell_of_row (j := 4) r rfl,cell_of_row (j := 5) r rfl,cell_of_row (j := 6) r rfl,fun j => by simp [World.frozen?,r]⟩
theorem Steps.turn {W W' : World} {es : Nat → Addr} {dom : Nat → Prop} {L : Lay} {ru : Nat → Ru} {ins : Nat → List Inp} {st : Nat → Bf.St} (h : Steps W es dom L ru ins st) {i : Nat} (hi : dom i) (s : Bf.St) (hs : W'.heap[L.sp i]? = some (.cells (stepC es (ru i) (L.iv i) (L.uv i) s) 272)) (hb : ∀ j,j ≠ L.sp i → j < W.heap.size → W'.heap[j]? = W.heap[j]?) : Steps W' es dom L ru ins (Bf.setS st i s) := by
 have hlt := h.lt
 have nI : ∀ k,dom k → some (L.sp i) ≠ (L.iv k).ownBlock := fun k hk e => by
  obtain ⟨_,e'⟩ := own_in (h.insR k hk) e
  rw [h.step i hi] at e'
  cases e'
 have nU : ∀ k,dom k → some (L.sp i) ≠ (L.uv k).ownBlock := fun k hk e => by
  obtain ⟨_,e'⟩ := own_in (h.usR k hk) e
  rw [h.step i hi] at e'
  cases e'
 refine ⟨fun k hk => ?_,h.inj,fun k hk => own_same (h.insR k hk) fun j hj => hb j (fun e => nI k hk (e ▸ hj)) (hlt j ⟨k,hk,.inr (.inl hj)⟩),fun k hk => own_same (h.usR k hk) fun j hj => hb j (fun e => nU k hk (e ▸ hj)) (hlt j ⟨k,hk,.inr (.inr hj)⟩),h.insD,h.usD⟩
 by_cases e : k = i
 ·subst e
  rw [Bf.setS_same]
  exact hs
 ·rw [Bf.setS_other e]
  exact (hb _ (fun x => e (h.inj _ _ hk hi x)) (hlt _ ⟨k,hk,.inl rfl⟩)).trans (h.step k hk)
def stepElem : Value → Option (DataW Unit × List MemPlace)
 | .pointer (some ⟨b,0,none⟩) => some (.lit (.int .i64 (b : Nat)),[])
 | .pointer none => some (.lit (.int .i64 (-1)),[])
 | _ => none
def stepP : Option Nat → Value
 | some b => Ptr b
 | none => .pointer none
def stepI : Option Nat → Int
 | some b => (b : Nat)
 | none => -1
theorem stepI_inj {a b : Option Nat} (h : stepI a = stepI b) : a = b := by
 cases a <;> cases b <;> simp [stepI] at h ⊢ <;> omega
theorem stepElem_mk (c : Option Nat) : stepElem (stepP c) = some (.lit (.int .i64 (stepI c)),[]) := by cases c <;> rfl
theorem stepElem_inv (v : Value) (y : DataW Unit × List MemPlace) (h : stepElem v = some y) : ∃ c,v = stepP c := by
 unfold stepElem at h
 split at h
 ·rename_i b
  exact ⟨some b,rfl⟩
 ·exact ⟨none,rfl⟩
 ·cases h
theorem ilaw : Keyed Tryz.prog 3 := int_keyed Tryz.underlying3
theorem ikey (i : Int) (h0 : -9223372036854775808 ≤ i) (h1 : i ≤ 9223372036854775807) : keyOf Tryz.prog 3 (.int .i64 i) = some (.int .i64 i) :=
 keyOf_int_mk Tryz.underlying3 (by
  have e1 : IntKind.i64.min = -9223372036854775808 := by decide
  have e2 : IntKind.i64.max = 9223372036854775807 := by decide
  simp [Lit.wf,e1,e2]
  omega)
def SMap (W : World) (bm n : Nat) (dom : Nat → Prop) (sp : Nat → Nat) : Prop :=
 ∃ D : DataW Unit,W.ownsMap Tryz.prog 3 stepElem bm n D ∧ (∀ i : Int,has D (.int .i64 i) = true ↔ 0 ≤ i ∧ dom i.toNat) ∧ ∀ k : Nat,dom k → ∀ z,D.atKey (.int .i64 (k : Nat)) z = .lit (.int .i64 (sp k : Nat))
theorem SMap.lt {W : World} {bm n : Nat} {dom : Nat → Prop} {sp : Nat → Nat} (h : SMap W bm n dom sp) : bm < W.heap.size := by
 obtain ⟨D,h1,_⟩ := h
 exact h1.lt
theorem SMap.same {W W' : World} {bm n : Nat} {dom : Nat → Prop} {sp : Nat → Nat} (h : SMap W bm n dom sp) (hb : W'.heap[bm]? = W.heap[bm]?) : SMap W' bm n dom sp := by
 obtain ⟨D,⟨es,clock,h1,F⟩,h2⟩ := h
 exact ⟨D,⟨es,clock,hb.trans h1,F⟩,h2⟩
theorem SMap.made (W : World) (sp : Nat → Nat) : SMap (W.alloc (.map #[] 0)) W.heap.size 0 (fun _ => False) sp :=
 ⟨.map [],World.ownsMap_made W _ _ _,fun i => by simp [has],fun k hk => hk.elim⟩
theorem SMap.look {W : World} {bm n : Nat} {dom : Nat → Prop} {sp : Nat → Nat} (h : SMap W bm n dom sp) (i : Int) (h0 : -9223372036854775808 ≤ i) (h1 : i ≤ 9223372036854775807) :
  ((0 ≤ i ∧ dom i.toNat) ∧ (Instr.lookup 222 (.map (some bm)) (.int .i64 i) true).run Tryz.prog W = .ok (.tuple #[Ptr (sp i.toNat),.bool true]) W) ∨
  (¬ (0 ≤ i ∧ dom i.toNat) ∧ (Instr.lookup 222 (.map (some bm)) (.int .i64 i) true).run Tryz.prog W = .ok (.tuple #[.pointer none,.bool false]) W) := by
 obtain ⟨D,h2,h3,h4⟩ := h
 obtain ⟨v,ps,hrun,hv⟩ := h2.look_ok (t := 222) (e := 262) ilaw Tryz.underlying222 (z := .pointer none) (Tryz.zeroValue262 W) (zd := .lit (.int .i64 (-1))) (zp := []) rfl (ikey i h0 h1)
 obtain ⟨c,rfl⟩ := stepElem_inv _ _ hv
 rw [stepElem_mk] at hv
 have hc : (DataW.lit (.int .i64 (stepI c)) : DataW Unit) = D.atKey (.int .i64 i) (.lit (.int .i64 (-1))) := by simpa using congrArg (fun o => o.map Prod.fst) hv
 rw [hrun]
 by_cases hd : 0 ≤ i ∧ dom i.toNat
 ·have hh := (h3 i).2 hd
  have := h4 i.toNat hd.2 (.lit (.int .i64 (-1)))
  rw [show ((i.toNat : Nat) : Int) = i by omega] at this
  rw [this] at hc
  have : c = some (sp i.toNat) := stepI_inj (by simpa [stepI] using hc)
  exact .inl ⟨hd,by rw [hh,this];rfl⟩
 ·have hh : has D (.int .i64 i) = false := by
   rw [Bool.eq_false_iff]
   exact fun e => hd ((h3 i).1 e)
  have := atKey_of_not_has hh (.lit (.int .i64 (-1)))
  rw [this] at hc
  have : c = none := stepI_inj (by simpa [stepI] using hc)
  exact .inr ⟨hd,by rw [hh,this];rfl⟩
end Go.Proofs.YtdljhggillgpfaaGreatDoor
