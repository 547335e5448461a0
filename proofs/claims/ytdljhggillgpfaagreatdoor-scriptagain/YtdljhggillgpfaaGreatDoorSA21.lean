import Derived.Test.YtdljhggillgpfaaGreatDoorSA19
import Derived.Test.YtdljhggillgpfaaGreatDoorSA20
import Derived.Deep.RegionLaw
import Derived.Deep.AppendLies
set_option maxRecDepth 100000
set_option maxHeartbeats 16000000
namespace Go.Proofs.YtdljhggillgpfaaGreatDoor
open Go.RowKit Go.Shelf Go.Lib
open Go.Sort (Holds putRow grow)
abbrev encI : Int → Value := Value.int .i64
abbrev ints (l : List Nat) : List Int := l.map fun (x : Nat) => (x : Int)
theorem ints_get {l : List Nat} {j : Nat} (h : j < l.length) : (ints l).toArray[j]! = (l[j] : Int) := by simp [h]
theorem put_grown {w : World} {g n : Nat} (d : Array Int) : w.grownBy (putRow encI (Sort.ahead w n) g 0 d) (some g) := by
 refine ⟨rfl,rfl,rfl,by simp,fun k hk hne => ?_⟩
 have : g ≠ k := fun e => hne (by rw [e])
 simp [putRow,Go.Sort.mapBlock,Sort.ahead,Array.getElem?_modify,this]
theorem grow_grown {w : World} {g n : Nat} {os : Array Obj} (d : Array Int) : w.grownBy (grow (putRow encI (Sort.ahead w n) g 0 d) os) (some g) := by
 refine ⟨rfl,rfl,rfl,by simp,fun k hk hne => ?_⟩
 rw [Go.Sort.heap_grow_old _ _ (by simpa using hk)]
 have : g ≠ k := fun e => hne (by rw [e])
 simp [putRow,Go.Sort.mapBlock,Sort.ahead,Array.getElem?_modify,this]
theorem Holds.ni {w : World} {g cap : Nat} {l : List Nat} (h : Holds encI w g 0 (ints l).toArray) (hg : g < w.heap.size) : NIRow w (.slice (some ⟨g,0,none⟩) l.length cap) l := by
 refine ⟨_,cap,rfl,fun _ => ⟨g,0,rfl,hg,fun j hj => ?_⟩⟩
 have := (h j (by simpa using hj)).1
 rw [this,ints_get hj]
theorem Holds.of_owns {w : World} {B g cap : Nat} {l : List Nat} (h : w.ownsRow B 3 1 (.slice (some ⟨g,0,none⟩) l.length cap) l.length (l.map nv)) : Holds encI w g 0 (ints l).toArray ∧ l.length ≤ cap := by
 rcases h.2 with ⟨h',_⟩ | ⟨g',cap',cur,h',hBg,hb,h1,_,_,h4⟩
 ·cases h'
 ·cases h'
  refine ⟨fun j hj => ?_,h1⟩
  have hj' : j < l.length := by simpa using hj
  have := congrArg (fun x => x[j]?) h4
  simp only [Nat.mul_one,List.getElem?_take,hj',if_true,List.getElem?_map,List.getElem?_eq_getElem hj',Option.map_some,Array.getElem?_toList] at this
  refine ⟨?_,by simp [World.frozen?,hb]⟩
  rw [Nat.zero_add,cell_of_row hb this,ints_get hj']
theorem own_slice {W : World} {B : Nat} {e : TypeId} {s n : Nat} {v : Value} {xs : List Value} (h : W.ownsRow B e s v n xs) : ∃ p c,v = .slice p n c := by
 rcases h.2 with ⟨rfl,rfl⟩ | ⟨g,cap,cur,rfl,_⟩
 ·exact ⟨_,_,rfl⟩
 ·exact ⟨_,_,rfl⟩
theorem deleteI_calls {w : World} (g cap : Nat) (l : List Nat) (k : Nat) (hk : k < l.length) (hH : Holds encI w g 0 (ints l).toArray) (hcap : l.length ≤ cap) (hm : cap ≤ 9223372036854775807) :
  Calls Tryz.prog 161 #[.slice (some ⟨g,0,none⟩) l.length cap,.int .i64 k,.int .i64 ((k : Int) + 1)] w fun e w' => e = .returned (.slice (some ⟨g,0,none⟩) (l.take k ++ l.drop (k + 1)).length cap) ∧ Holds encI w' g 0 (ints (l.take k ++ l.drop (k + 1))).toArray ∧ w.grownBy w' (some g) := by
 have h := Tryz.slices_Delete_int g 0 cap k (k + 1) (ints l) w hH (by simpa using hcap) (by omega) (by omega) (by simp;omega)
 have e1 : (ints l).length = l.length := by simp
 rw [e1] at h
 refine h.mono ?_
 rintro e w' ⟨rfl,q,rfl⟩
 have hl : (l.take k ++ l.drop (k + 1)).length = l.length - 1 := by simp;omega
 refine ⟨by rw [hl];congr 2;omega,?_,put_grown _⟩
 have hp := Go.Sort.holds_putRow encI (Sort.ahead w q) g 0 (ints l).toArray ((ints l).take k ++ (ints l).drop (k + 1) ++ List.replicate (k + 1 - k) 0).toArray hH (by simp;omega)
 intro j hj
 have hj' : j < (l.take k ++ l.drop (k + 1)).length := by simpa using hj
 obtain ⟨p1,p2⟩ := hp j (by simp;omega)
 refine ⟨?_,p2⟩
 rw [p1]
 congr 1
 have ea : (ints l).take k ++ (ints l).drop (k + 1) = ints (l.take k ++ l.drop (k + 1)) := by simp [ints,List.map_take,List.map_drop]
 rw [ea]
 have hj2 : j < (ints (l.take k ++ l.drop (k + 1))).length := by simpa using hj'
 simp only [List.getElem!_toArray,List.getElem!_eq_getElem?_getD]
 rw [List.getElem?_append_left hj2]
structure OrdS (w1 W : World) (B2 sb lb p : Nat) (vl : Value) (ll : List Nat) (ov : Value) (o : List Nat) : Prop where
 below : Below w1.heap.size w1 W
 size : B2 ≤ W.heap.size
 low2 : w1.heap.size ≤ B2
 lows : w1.heap.size ≤ sb
 lowl : w1.heap.size ≤ lb
 lts : sb < B2
 ltl : lb < B2
 nel : sb ≠ lb
 cs : W.cell? ⟨sb,0,none⟩ = some (.pointer (some ⟨p,0,none⟩))
 cl : W.cell? ⟨lb,0,none⟩ = some vl
 fl : W.frozen? ⟨lb,0,none⟩ = false
 left : (ll = [] ∧ ∃ a c,vl = .slice a 0 c) ∨ ∃ g cap,vl = .slice (some ⟨g,0,none⟩) ll.length cap ∧ ll.length ≤ cap ∧ cap ≤ 9223372036854775807 ∧ Holds encI W g 0 (ints ll).toArray ∧ w1.heap.size ≤ g ∧ g < B2 ∧ g ≠ sb ∧ g ≠ lb
 row : W.ownsRow B2 3 1 ov o.length (o.map nv)
theorem holds_block {w w' : World} {g : Nat} {d : Array Int} (h : Holds encI w g 0 d) (e : w'.heap[g]? = w.heap[g]?) : Holds encI w' g 0 d := fun j hj => ⟨(World.cell?_of_block (a := ⟨g,0 + j,none⟩) e).trans (h j hj).1,(World.frozen?_of_block (a := ⟨g,0 + j,none⟩) e).trans (h j hj).2⟩
theorem OrdS.move {w1 W W' : World} {B2 sb lb p : Nat} {vl : Value} {ll : List Nat} {ov ov' : Value} {o o' : List Nat} (h : OrdS w1 W B2 sb lb p vl ll ov o) (hb : ∀ c,c < B2 → W'.heap[c]? = W.heap[c]?) (hB : Below w1.heap.size w1 W') (hz : B2 ≤ W'.heap.size) (hr : W'.ownsRow B2 3 1 ov' o'.length (o'.map nv)) : OrdS w1 W' B2 sb lb p vl ll ov' o' := by
 refine ⟨hB,hz,h.low2,h.lows,h.lowl,h.lts,h.ltl,h.nel,(World.cell?_of_block (a := ⟨sb,0,none⟩) (hb sb h.lts)).trans h.cs,(World.cell?_of_block (a := ⟨lb,0,none⟩) (hb lb h.ltl)).trans h.cl,(World.frozen?_of_block (a := ⟨lb,0,none⟩) (hb lb h.ltl)).trans h.fl,?_,hr⟩
 rcases h.left with h1 | ⟨g,cap,e,h1,h2,h3,h4,h5,h6⟩
 ·exact .inl h1
 ·exact .inr ⟨g,cap,e,h1,h2,holds_block h3 (hb g h5),h4,h5,h6⟩
theorem own_below {W W' : World} {B : Nat} {e : TypeId} {s n : Nat} {v : Value} {xs : List Value} (h : W.ownsRow B e s v n xs) (hb : Below W.heap.size W W') : W'.ownsRow B e s v n xs := by
 refine ⟨h.1,?_⟩
 rcases h.2 with h1 | ⟨g,cap,cur,h1,h2,h3,h4⟩
 ·exact .inl h1
 ·exact .inr ⟨g,cap,cur,h1,h2,(hb.block g (Array.getElem?_eq_some_iff.1 h3).1).trans h3,h4⟩
theorem OrdS.grown {w1 W W' : World} {B2 sb lb p : Nat} {vl : Value} {ll : List Nat} {ov : Value} {o : List Nat} (h : OrdS w1 W B2 sb lb p vl ll ov o) (hb : Below W.heap.size W W') : OrdS w1 W' B2 sb lb p vl ll ov o :=
 h.move (fun c hc => hb.block c (Nat.lt_of_lt_of_le hc h.size)) (below_then h.below hb) (Nat.le_trans h.size hb.size) (own_below h.row hb)
theorem OrdS.append {w1 W W1 W' : World} {B2 sb lb p : Nat} {vl : Value} {ll : List Nat} {ov ov' : Value} {o o' : List Nat} (h : OrdS w1 W B2 sb lb p vl ll ov o) (hb : Below W.heap.size W W1) (hg : W1.grownBy W' ov.ownBlock) (hr : W'.ownsRow B2 3 1 ov' o'.length (o'.map nv)) : OrdS w1 W' B2 sb lb p vl ll ov' o' := by
 have hm := own_lt h.row
 have h1 := h.grown hb
 have hz := h.size
 have hz1 := hb.size
 refine h1.move (fun c hc => hg.block c (by omega) (fun e => by have := (hm c e.symm).1;omega)) ?_ (by have := hg.size;omega) hr
 exact h1.below.grown hg (by have := h.low2;omega) fun j e => by have := (hm j e).1;have := h.low2;omega
theorem OrdS.gone {w1 W W' : World} {B2 sb lb p g cap : Nat} {ll ll' : List Nat} {ov : Value} {o : List Nat} (h : OrdS w1 W B2 sb lb p (.slice (some ⟨g,0,none⟩) ll.length cap) ll ov o) (hne : ll ≠ []) (hg : W.grownBy W' (some g)) (hH : Holds encI W' g 0 (ints ll').toArray) (hl : ll'.length ≤ ll.length) :
  W'.cell? ⟨lb,0,none⟩ = some (.slice (some ⟨g,0,none⟩) ll.length cap) ∧ W'.frozen? ⟨lb,0,none⟩ = false ∧ OrdS w1 (W'.setCell ⟨lb,0,none⟩ (.slice (some ⟨g,0,none⟩) ll'.length cap)) B2 sb lb p (.slice (some ⟨g,0,none⟩) ll'.length cap) ll' ov o := by
 rcases h.left with ⟨h1,_⟩ | ⟨g',cap',e,h1,h2,h3,h4,h5,h6,h7⟩
 ·exact absurd h1 hne
 ·obtain ⟨rfl,rfl⟩ : g = g' ∧ cap = cap' := by
   simp only [Value.slice.injEq,Option.some.injEq,Addr.mk.injEq] at e
   exact ⟨e.1.1,e.2.2⟩
  have hz := h.size
  have hlb := hg.block lb (by have := h.ltl;omega) (fun e => h7 (Option.some.inj e).symm)
  have hsb := hg.block sb (by have := h.lts;omega) (fun e => h6 (Option.some.inj e).symm)
  have c1 : W'.cell? ⟨lb,0,none⟩ = some (.slice (some ⟨g,0,none⟩) ll.length cap) := (World.cell?_of_block (a := ⟨lb,0,none⟩) hlb).trans h.cl
  have f1 : W'.frozen? ⟨lb,0,none⟩ = false := (World.frozen?_of_block (a := ⟨lb,0,none⟩) hlb).trans h.fl
  refine ⟨c1,f1,?_⟩
  have hS : ∀ c,c ≠ lb → (W'.setCell ⟨lb,0,none⟩ (.slice (some ⟨g,0,none⟩) ll'.length cap)).heap[c]? = W'.heap[c]? := fun c hc => Below.heap_setCell W' ⟨lb,0,none⟩ _ c hc
  have hfar : ov.ownBlock ≠ some g := fun e => by have := (own_lt h.row g e).1;omega
  have hfar2 : ov.ownBlock ≠ some lb := fun e => by have := (own_lt h.row lb e).1;have := h.ltl;omega
  refine ⟨?_,by have := hg.size;simp;omega,h.low2,h.lows,h.lowl,h.lts,h.ltl,h.nel,?_,?_,?_,?_,?_⟩
  ·refine Below.setCell (p := ⟨lb,0,none⟩) ?_ h.lowl _
   exact h.below.grown hg (by have := h.low2;omega) fun j e => by cases e;exact h4
  ·exact (World.cell?_of_block (a := ⟨sb,0,none⟩) ((hS sb h.nel).trans hsb)).trans h.cs
  ·exact World.cell?_setCell_same' _ _ _ (by rw [c1];rfl)
  ·rw [World.frozen?_setCell];exact f1
  ·exact .inr ⟨g,cap,rfl,by omega,h2,holds_block hH (hS g h7),h4,h5,h6,h7⟩
  ·exact ownsRow_setCell_other (h.row.kept hg (.inr hfar)) (by simpa using hfar2) _
structure OrdL (w1 W : World) (B sb lb p : Nat) (vl : Value) (ll : List Nat) : Prop where
 below : Below w1.heap.size w1 W
 size : B ≤ W.heap.size
 low2 : w1.heap.size ≤ B
 lows : w1.heap.size ≤ sb
 lowl : w1.heap.size ≤ lb
 lts : sb < B
 ltl : lb < B
 nel : sb ≠ lb
 cs : W.cell? ⟨sb,0,none⟩ = some (.pointer (some ⟨p,0,none⟩))
 cl : W.cell? ⟨lb,0,none⟩ = some vl
 fl : W.frozen? ⟨lb,0,none⟩ = false
 row : W.ownsRow B 3 1 vl ll.length (ll.map nv)
theorem OrdL.make (w1 : World) (p : Nat) : OrdL w1 ((w1.alloc (.cells #[.pointer (some ⟨p,0,none⟩)] 193)).alloc (.cells #[.slice none 0 0] 147)) (w1.heap.size + 2) w1.heap.size (w1.heap.size + 1) p (.slice none 0 0) [] := by
 refine ⟨((Below.refl _ w1).alloc (Nat.le_refl _) _).alloc (by simp) _,by simp,by omega,Nat.le_refl _,by omega,by omega,by omega,by omega,?_,?_,?_,World.ownsRow_nil _ _ _ _⟩
 ·have h1 : (w1.alloc (.cells #[.pointer (some ⟨p,0,none⟩)] 193)).cell? ⟨w1.heap.size,0,none⟩ = some (.pointer (some ⟨p,0,none⟩)) := by simp
  exact cell_below' h1 ((Below.refl _ _).alloc (Nat.le_refl _) _)
 ·simp
 ·simp
theorem OrdL.grown {w1 W W' : World} {B sb lb p : Nat} {vl : Value} {ll : List Nat} (h : OrdL w1 W B sb lb p vl ll) (hb : Below W.heap.size W W') : OrdL w1 W' B sb lb p vl ll := by
 have hz := h.size
 exact ⟨below_then h.below hb,Nat.le_trans hz hb.size,h.low2,h.lows,h.lowl,h.lts,h.ltl,h.nel,cell_below' h.cs hb,cell_below' h.cl hb,(hb.frozen (p := ⟨lb,0,none⟩) (lt_of_cell h.cl)).trans h.fl,own_below h.row hb⟩
theorem OrdL.append {w1 W W1 W' : World} {B sb lb p : Nat} {vl vl' : Value} {ll ll' : List Nat} (h : OrdL w1 W B sb lb p vl ll) (hb : Below W.heap.size W W1) (hg : W1.grownBy W' vl.ownBlock) (hr : W'.ownsRow B 3 1 vl' ll'.length (ll'.map nv)) :
  W'.cell? ⟨lb,0,none⟩ = some vl ∧ W'.frozen? ⟨lb,0,none⟩ = false ∧ OrdL w1 (W'.setCell ⟨lb,0,none⟩ vl') B sb lb p vl' ll' := by
 have hm := own_lt h.row
 have h1 := h.grown hb
 have hz := h1.size
 have key : ∀ c,c < B → W'.heap[c]? = W1.heap[c]? := fun c hc => hg.block c (by omega) (fun e => by have := (hm c e.symm).1;omega)
 have c1 : W'.cell? ⟨lb,0,none⟩ = some vl := (World.cell?_of_block (a := ⟨lb,0,none⟩) (key lb h.ltl)).trans h1.cl
 have f1 : W'.frozen? ⟨lb,0,none⟩ = false := (World.frozen?_of_block (a := ⟨lb,0,none⟩) (key lb h.ltl)).trans h1.fl
 refine ⟨c1,f1,?_⟩
 have hS : ∀ c,c ≠ lb → (W'.setCell ⟨lb,0,none⟩ vl').heap[c]? = W'.heap[c]? := fun c hc => Below.heap_setCell W' ⟨lb,0,none⟩ _ c hc
 have hfar : vl'.ownBlock ≠ some lb := fun e => by have := (own_lt hr lb e).1;have := h.ltl;omega
 refine ⟨?_,by have := hg.size;simp;omega,h.low2,h.lows,h.lowl,h.lts,h.ltl,h.nel,?_,?_,?_,?_⟩
 ·refine Below.setCell (p := ⟨lb,0,none⟩) ?_ h.lowl _
  exact h1.below.grown hg (by have := h.low2;omega) fun j e => by have := (hm j e).1;have := h.low2;omega
 ·exact (World.cell?_of_block (a := ⟨sb,0,none⟩) ((hS sb h.nel).trans (key sb h.lts))).trans h1.cs
 ·exact World.cell?_setCell_same' _ _ _ (by rw [c1];rfl)
 ·rw [World.frozen?_setCell];exact f1
 ·exact ownsRow_setCell_other hr (by simpa using hfar) _
theorem OrdL.turn {w1 W : World} {B sb lb p : Nat} {vl : Value} {ll : List Nat} (h : OrdL w1 W B sb lb p vl ll) : OrdS w1 W W.heap.size sb lb p vl ll (.slice none 0 0) [] := by
 have hz := h.size
 refine ⟨h.below,Nat.le_refl _,Nat.le_trans h.low2 hz,h.lows,h.lowl,by have := h.lts;omega,by have := h.ltl;omega,h.nel,h.cs,h.cl,h.fl,?_,World.ownsRow_nil _ _ _ _⟩
 rcases h.row.2 with ⟨rfl,hn⟩ | ⟨g,cap,cur,rfl,hBg,hb,h1,hcm,_⟩
 ·exact .inl ⟨List.length_eq_zero_iff.1 hn,_,_,rfl⟩
 ·have hlt := (Array.getElem?_eq_some_iff.1 hb).1
  have hH := Holds.of_owns h.row
  exact .inr ⟨g,cap,rfl,hH.2,by unfold maxLen at hcm;omega,hH.1,by have := h.low2;omega,hlt,by have := h.lts;omega,by have := h.ltl;omega⟩
end Go.Proofs.YtdljhggillgpfaaGreatDoor
namespace Go.Proofs.YtdljhggillgpfaaGreatDoor
open Go.RowKit Go.Shelf Go.Lib
theorem ErrV.zero {w : World} {es : Nat → Addr} {v : Value} {f : Nat × Int} (h : ErrV w es v f) (hf : f.1 = 0) : v = .nilIface := by
 rcases h with ⟨_,rfl,_⟩ | ⟨pb,m,_,_,h0,_⟩
 ·rw [hf];rfl
 ·omega
theorem ErrV.iface {w : World} {es : Nat → Addr} {v : Value} {f : Nat × Int} (h : ErrV w es v f) (hf : f.1 ≠ 0) : ∃ t u,v = .iface t u := by
 rcases h with ⟨_,rfl,_⟩ | ⟨pb,m,rfl,_⟩
 ·obtain ⟨c,n⟩ := f
  cases c with
  | zero => exact absurd rfl hf
  | succ k => exact ⟨_,_,rfl⟩
 ·exact ⟨_,_,rfl⟩
def LookTells (es : Nat → Addr) (l : List Ru) (w : World) (u ev : Value) : Prop :=
 ((Ru.fault l).1 ≠ 0 ∧ ErrV w es ev (Ru.fault l) ∧ u = .pointer none ∧ ∃ t x,ev = .iface t x) ∨
 ((Ru.fault l).1 = 0 ∧ ev = .nilIface ∧ ∃ p bm G vals,u = .pointer (some ⟨p,0,none⟩) ∧ ShAt w l p bm G vals)
theorem grlook_calls {w : World} {es : Nat → Addr} (hW : SheetW w es) (v : Value) (l : List Ru) (hrow : RRow w v l) (hn : l.length ≤ 1000) (hS : ∀ x ∈ l,x.Small) :
  Calls Tryz.prog 124 #[v] w fun e w' => ∃ u ev,e = .returned (.tuple #[u,ev]) ∧ Below w.heap.size w w' ∧ LookTells es l w' u ev := by
 have HSh := hid1 (ruSheet_calls hW l (by omega) v hrow hS)
 obtain ⟨pr,cap,rfl,hcap,hnn,hin⟩ := hrow
 have HI := hid1 hin
 have H12 : Hid (∀ i (hi : i < l.length),l[i].ins.length ≤ 12) := hid1 fun i hi => (hS _ (List.getElem_mem hi)).many
 obtain ⟨iT,hT,hT0,hT1,hT2⟩ := info_parts Tryz.infoInts
 obtain ⟨iI,hI,hI0,hI1,hI2⟩ := info_parts Tryz.infoInt
 have hml : l.length ≤ maxLen := by unfold maxLen;omega
 have hbT : iT.bytes * l.length ≤ 281474976710656 := by rw [hT2];omega
 have hmm := @run_makeMap Tryz.prog
 by_cases hf : (Ru.fault l).1 = 0
 ·have HR : Hid (∀ W u,LookTells es l W u .nilIface ↔ ∃ p bm G vals,u = .pointer (some ⟨p,0,none⟩) ∧ ShAt W l p bm G vals) := hid1 fun W u => by
   unfold LookTells
   simp [hf]
  have HZ : Hid (∀ W u,ErrV W es u (Ru.fault l) → u = .nilIface) := hid1 fun W u h => h.zero hf
  have HA := hid1 (Ru.fault_ok hf)
  go_enter Tryz.func124,Tryz.ntmps124
  go_wp2_with fail
  refine HSh.out.mono ?_
  rintro e w1 ⟨u,rfl,g1,hE⟩
  obtain rfl := HZ.out _ _ hE
  go_wp2_with (at_make;refine wpList_make_full _ rfl _ _ 198 rfl w1.heap.size 147 iT (.slice none 0 0) 1 Tryz.underlying198 hT hT0 hT1 .i64 .i64 _ _ l.length rfl rfl (by omega) (by omega) hbT hml (by simp) ?_;intro w2 hown hgrow)
  have HA0 := hid1 (LookA.make hown hgrow)
  generalize hpp : w2.heap.size = pp at *
  generalize hbm : w1.heap.size = bm at *
  go_loopw [27] (fun iv wr => ∃ k : Nat,k ≤ l.length ∧ iv = .int .i64 k ∧ LookA bm w1 wr l pp bm (bm + 1) k) (fun iv _ => l.length - (intOf iv).toNat)
  case atStart => exact ⟨0,Nat.zero_le _,rfl,HA0.out⟩
  case round =>
   obtain ⟨k,hk,rfl,hL⟩ := hrel
   have HL := hid1 hL
   have c0 : (0 : Int) ≤ (k : Int) := by omega
   by_cases hlt : k < l.length
   ·have c1 : (k : Int) < (l.length : Int) := by omega
    obtain ⟨g',o,rfl,hg,hcur⟩ := HI.out (by intro e;rw [e] at hlt;simp at hlt)
    obtain ⟨b0,b1,b2,ui,b3,bx⟩ := hcur k hlt
    have gB : Below w.heap.size w wr := below_then g1 (hbm ▸ HL.out.below)
    have d0 := cell_below' b0 gB
    have d1 := cell_below' b1 gB
    have d2 := cell_below' b2 gB
    have d3 := cell_below' b3 gB
    have e0 := HL.out.c0
    have HN := hid1 (HL.out.next hlt (.cells #[.string (ba l[k].out),.string (ba l[k].kind),.string (ba l[k].word),ui] 36))
    have hbl := (Array.getElem?_eq_some_iff.1 HL.out.map).1
    have hpl := lt_of_cell e0
    simp only at hpl
    have hup : (Instr.mapUpdate 197 (.map (some bm)) (.string (ba l[k].out)) (.int .i64 k)).run Tryz.prog (wr.alloc (.cells #[.string (ba l[k].out),.string (ba l[k].kind),.string (ba l[k].word),ui] 36)).drew = .ok () (setB (wr.alloc (.cells #[.string (ba l[k].out),.string (ba l[k].kind),.string (ba l[k].word),ui] 36)).drew bm (.map (mkF 0 (l.take k) ++ [({ key := .string (ba l[k].out),val := nv k,born := k } : MapEntry)]).toArray (k + 1))) := by
     have hA : Below wr.heap.size wr (wr.alloc (.cells #[.string (ba l[k].out),.string (ba l[k].kind),.string (ba l[k].word),ui] 36)).drew := ((Below.refl _ wr).alloc (Nat.le_refl _) _).drew
     refine run_insert 197 9 3 bm k (mkF 0 (l.take k)) (ba l[k].out) (nv k) Tryz.underlying197 Tryz.underlying9 ((hA.block bm hbl).trans HL.out.map) (mkF_none fun x hx e => ?_)
     obtain ⟨j,hj,ej⟩ := List.getElem_of_mem hx
     rw [List.getElem_take] at ej
     have hjk : j < k := by simp at hj;omega
     have := HA.out.2 j k (by omega) hlt (by rw [ej];exact e)
     omega
    obtain ⟨p3,cap3,rfl,hcap3,-,hin3⟩ := bx
    have hst : ∀ (a : Addr) (m : Mode) (W : World),Sem.run Tryz.prog (store a (.slice p3 l[k].ins.length cap3) m) W = stored Tryz.prog W a (.slice p3 l[k].ins.length cap3) m := fun a m W => run_store _ W a _ m rfl
    generalize l[k] = y at *
    go_wp2
    go_region
    go_wp2
    exact ⟨⟨k + 1,by omega,by go_num,HN.out⟩,by simp [intOf];omega⟩
   ·have c1 : (l.length : Int) ≤ (k : Int) := by omega
    obtain rfl : k = l.length := by omega
    have HB0 := hid1 HL.out.start
    generalize wr = w3 at *
    go_wp2
    go_loopw [42] (fun iv wx => ∃ (i : Nat) (vals : Nat → Value),i ≤ l.length ∧ iv = .int .i64 i ∧ LookB bm w1 wx l pp bm (bm + 1) i vals) (fun iv _ => l.length - (intOf iv).toNat)
    case atStart => exact ⟨0,_,Nat.zero_le _,rfl,HB0.out⟩
    case round =>
     obtain ⟨i,vals,hi,rfl,hL⟩ := hrel
     have HL := hid1 hL
     have i0 : (0 : Int) ≤ (i : Int) := by omega
     by_cases hilt : i < l.length
     ·have i1 : (i : Int) < (l.length : Int) := by omega
      obtain ⟨g',o,rfl,hg,hcur⟩ := HI.out (by intro e;rw [e] at hilt;simp at hilt)
      obtain ⟨b0,b1,b2,ui,b3,bx⟩ := hcur i hilt
      have gB : Below w.heap.size w wr := below_then g1 (hbm ▸ HL.out.below)
      have d0 := cell_below' b0 gB
      have d1 := cell_below' b1 gB
      have d2 := cell_below' b2 gB
      have d3 := cell_below' b3 gB
      have h12 := H12.out i hilt
      obtain ⟨p3,cap3,rfl,hcap3,-,hin3⟩ := bx
      have HI3 := hid1 hin3
      have HC0 := hid1 (HL.out.enter (.cells #[.string (ba l[i].out),.string (ba l[i].kind),.string (ba l[i].word),.slice p3 l[i].ins.length cap3] 36))
      have hst : ∀ (a : Addr) (m : Mode) (W : World),Sem.run Tryz.prog (store a (.slice p3 l[i].ins.length cap3) m) W = stored Tryz.prog W a (.slice p3 l[i].ins.length cap3) m := fun a m W => run_store _ W a _ m rfl
      generalize wr = w4 at *
      obtain ⟨Bk,hBk⟩ : ∃ Bk,Bk = (w4.alloc (.cells #[.string (ba l[i].out),.string (ba l[i].kind),.string (ba l[i].word),.slice p3 l[i].ins.length cap3] 36)).heap.size := ⟨_,rfl⟩
      rw [← hBk] at HC0
      go_wp2
      go_loopw [50] (fun kv wx => ∃ (m : Nat) (vi : Value),m ≤ l[i].ins.length ∧ kv = .int .i64 m ∧ LookC bm Bk w1 wx l pp bm (bm + 1) i vals (Ru.needL l (l[i].ins.take m)) vi) (fun kv _ => l[i].ins.length - (intOf kv).toNat)
      case atStart => exact ⟨0,_,Nat.zero_le _,rfl,HC0.out⟩
      case round =>
       obtain ⟨m,vi,hm,rfl,hC⟩ := hrel
       have HC := hid1 hC
       have m0 : (0 : Int) ≤ (m : Int) := by omega
       by_cases hmlt : m < l[i].ins.length
       ·have m1 : (m : Int) < (l[i].ins.length : Int) := by omega
        obtain ⟨g3,o3,rfl,hg3,hc3⟩ := HI3.out (by intro e;rw [e] at hmlt;simp at hmlt)
        have gB : Below w.heap.size w wr := below_then g1 (hbm ▸ HC.out.below)
        have e3 := (gB.cell (p := ⟨g3,o3 + m,none⟩) hg3).trans (hc3 m hmlt)
        have HS := hid1 (Ru.needL_succ l hmlt)
        have hlk := look_mk HC.out.map l[i].ins[m]
        have e0 := HC.out.c0
        have hrl : (Ru.needL l (l[i].ins.take m)).length ≤ 12 := by
         have := Ru.needL_len l (l[i].ins.take m)
         simp at this
         omega
        generalize hs : l[i].ins[m] = s at *
        cases hmk : Ru.mkr l s with
        | none =>
         rw [hmk] at hlk HS
         simp only [Option.getD_none,Option.isSome_none,Option.toList_none,List.append_nil] at hlk HS
         go_wp2
         exact ⟨⟨m + 1,vi,by omega,by go_num,by rw [HS.out];exact HC.out⟩,by simp [intOf];omega⟩
        | some j =>
         rw [hmk] at hlk HS
         simp only [Option.getD_some,Option.isSome_some,Option.toList_some] at hlk HS
         obtain ⟨a0,f0⟩ := HC.out.at hilt
         have e1 := HC.out.c1
         have hrw : wr.drew.ownsRow Bk 3 1 vi (Ru.needL l (l[i].ins.take m)).length ((Ru.needL l (l[i].ins.take m)).map nv) := HC.out.mine
         have hbz := HC.out.size
         have hltG := HC.out.ltG
         have hltP := HC.out.ltp
         have hG1 : bm + 1 < wr.heap.size := by omega
         have hP1 : pp < wr.heap.size := by omega
         have HAf := hid1 fun (W1 w5 : World) (hb : Below wr.heap.size wr W1) (hgr : W1.grownBy w5 vi.ownBlock) => HC.out.after hilt hb hgr
         have HMo := hid1 fun (W1 w5 : World) (v5 : Value) (hb : Below wr.heap.size wr W1) (hgr : W1.grownBy w5 vi.ownBlock) (ho : w5.ownsRow Bk 3 1 v5 ((Ru.needL l (l[i].ins.take m)).length + 1) ((Ru.needL l (l[i].ins.take m)).map nv ++ [nv j])) (hne : v5.ownBlock ≠ some (bm + 1)) => HC.out.more hb hgr ho hne
         rw [← HS.out] at HMo
         obtain ⟨pv,cv,rfl,-⟩ := NRow.of_owns HC.out.mine
         have hml2 : (Ru.needL l (l[i].ins.take m)).length + 1 ≤ maxLen := by unfold maxLen;omega
         go_wp2
         go_region_law (refine step_append_lies _ rfl (.tmp 75) (.tmp 77) 147 rfl Bk 3 iI (.int .i64 0) 1 8 Tryz.underlying147 hI hI0 hI1 hI2 rfl (by decide) _ _ _ rfl (hrw.alloc _) ⟨wr.heap.size,0,none⟩ 1 1 [nv j] rfl rfl (one_new _ _ _ _ (by simp)) (by simp [Value.oneCell']) (by decide) hml2 (by omega) (by simp;omega) _ rfl ?_;intro g5 cap5 w5 hown5 hgrow5 hat5 hlt5;(obtain ⟨q1,q2,q3⟩ := HAf.out _ _ (by exact ((Below.refl _ wr).alloc (Nat.le_refl _) _).drew) hgrow5);(have HM5 := hid1 (HMo.out _ _ _ (by exact ((Below.refl _ wr).alloc (Nat.le_refl _) _).drew) hgrow5 hown5 (by have := (own_lt hown5 g5 rfl).1;simp [Value.ownBlock];omega))))
         all_goals
          go_wp2
          exact ⟨⟨m + 1,_,by omega,by go_num,HM5.out⟩,by simp [intOf];omega⟩
       ·have m1 : (l[i].ins.length : Int) ≤ (m : Int) := by omega
        obtain rfl : m = l[i].ins.length := by omega
        have HQ : Hid (LookB bm w1 wr l pp bm (bm + 1) (i + 1) (fun j => if j = i then vi else vals j)) := hid1 (by
         have := HC.out
         rw [List.take_length] at this
         exact this.leave hilt)
        go_wp2
        exact ⟨⟨i + 1,_,by omega,by go_num,HQ.out⟩,by simp [intOf];omega⟩
     ·have i1 : (l.length : Int) ≤ (i : Int) := by omega
      obtain rfl : i = l.length := by omega
      have HQ := hid1 HL.out.done
      have gB : Below w.heap.size w wr := below_then g1 (hbm ▸ HL.out.below)
      go_wp2
      go_ret2
      exact ⟨_,_,rfl,gB,(HR.out _ _).2 ⟨_,_,_,_,rfl,HQ.out⟩⟩
 ·have HZ : Hid (∀ W u,ErrV W es u (Ru.fault l) → ∃ t x,u = .iface t x) := hid1 fun W u h => h.iface hf
  have HR : Hid (∀ W t x,ErrV W es (.iface t x) (Ru.fault l) → LookTells es l W (.pointer none) (.iface t x)) := hid1 fun W t x h => .inl ⟨hf,h,rfl,_,_,rfl⟩
  go_enter Tryz.func124,Tryz.ntmps124
  go_wp2_with fail
  refine HSh.out.mono ?_
  rintro e w1 ⟨u,rfl,g1,hE⟩
  obtain ⟨t,x,rfl⟩ := HZ.out _ _ hE
  have HE := hid1 (HR.out _ _ _ hE)
  go_wp2
  go_ret2
  exact ⟨_,_,rfl,g1,HE.out⟩
end Go.Proofs.YtdljhggillgpfaaGreatDoor
namespace Go.Proofs.YtdljhggillgpfaaGreatDoor
open Go.RowKit Go.Shelf Go.Lib
open Go.Sort (Holds putRow grow)
theorem grwith_calls {w : World} {B : Nat} (hB : B ≤ w.heap.size) (v : Value) (l : List Nat) (x : Nat) (hl : l.length ≤ 1000) (hown : w.ownsRow B 3 1 v l.length (l.map nv)) :
  Calls Tryz.prog 156 #[v,nv x] w fun e w' => ∃ v',e = .returned v' ∧ w'.ownsRow B 3 1 v' (withN l x).length ((withN l x).map nv) ∧ Below B w w' := by
 have HC := hid1 (slContainsI_calls v l x (NRow.of_owns hown).ni (by omega))
 obtain ⟨i1,hI,hI0,hI1,hI2⟩ := info_parts Tryz.infoInt
 have hml : l.length + 1 ≤ maxLen := by unfold maxLen;omega
 have HB := hid1 (Below.refl B w)
 by_cases hx : x ∈ l
 ·have HQ : Hid (withN l x = l) := hid1 (by unfold withN;rw [if_pos hx])
  rw [HQ.out]
  rw [decide_eq_true hx] at HC
  go_enter Tryz.func156,Tryz.ntmps156
  go_wp2_with fail
  refine HC.out.mono ?_
  rintro e w1 ⟨rfl,rfl⟩
  go_wp2
  go_ret
  exact ⟨_,rfl,hown,HB.out⟩
 ·have HQ : Hid (withN l x = l ++ [x]) := hid1 (by unfold withN;rw [if_neg hx])
  rw [HQ.out]
  rw [decide_eq_false hx] at HC
  go_enter Tryz.func156,Tryz.ntmps156
  go_wp2_with fail
  refine HC.out.mono ?_
  rintro e w1 ⟨rfl,rfl⟩
  go_wp2_with (at_builtin;refine wpList_append_own _ rfl _ _ 147 rfl B 3 i1 (.int .i64 0) 1 8 Tryz.underlying147 hI hI0 hI1 hI2 rfl (by decide) _ _ _ rfl (hown.alloc _) ⟨w1.heap.size,0,none⟩ 1 1 [nv x] rfl rfl (one_new _ _ _ _ (by simp)) (by simp [Value.oneCell']) hml (by omega) (by simp;omega) ?_;intro v' w4 hown' hgrow _)
  go_ret
  exact ⟨_,rfl,by simpa using hown',below_appended HB.out hB hown hgrow⟩
theorem sortI_calls {w : World} {B : Nat} (hB : B ≤ w.heap.size) (v : Value) (l : List Nat) (hl : l.length ≤ 1000) (hown : w.ownsRow B 3 1 v l.length (l.map nv)) :
  Calls Tryz.prog 157 #[v] w fun e w' => e = .returned (.tuple #[]) ∧ NIRow w' v (l.mergeSort fun x y => decide (x ≤ y)) ∧ Below B w w' := by
 rcases hown.2 with ⟨rfl,hn⟩ | ⟨g,cap,cur,rfl,hBg,hb,h1,_⟩
 ·obtain rfl := List.length_eq_zero_iff.1 hn
  refine (Tryz.slices_Sort_int_none none 0 w).mono ?_
  rintro e w' ⟨rfl,rfl⟩
  exact ⟨rfl,⟨none,0,by simp,fun h => absurd (by simp) h⟩,Below.refl _ _⟩
 ·have hlt := (Array.getElem?_eq_some_iff.1 hb).1
  have hH := (Holds.of_owns hown).1
  have h := Tryz.slices_Sort_int g 0 cap (ints l) w hH hlt (by simp;omega)
  rw [show (ints l).length = l.length by simp] at h
  refine h.mono ?_
  rintro e w' ⟨rfl,n,os,rfl⟩
  have em : (ints l).mergeSort (fun x y => decide (x ≤ y)) = ints (l.mergeSort fun x y => decide (x ≤ y)) := by
   symm
   refine List.map_mergeSort ?_
   intro a _ b _
   simp
  rw [em]
  have hsz : g < (grow (putRow encI (Sort.ahead w n) g 0 (ints (l.mergeSort fun x y => decide (x ≤ y))).toArray) os).heap.size := by
   rw [Go.Sort.size_grow,Go.Sort.size_putRow]
   exact Nat.lt_of_lt_of_le hlt (Nat.le_add_right _ _)
  refine ⟨rfl,?_,(Below.refl B w).grown (grow_grown _) hB (fun j hj => by cases hj;exact hBg)⟩
  have hp := Go.Sort.holds_putRow encI (Sort.ahead w n) g 0 (ints l).toArray (ints (l.mergeSort fun x y => decide (x ≤ y))).toArray hH (by simp)
  have hq := Go.Sort.holds_grow encI _ os g 0 _ (by rw [Go.Sort.size_putRow];exact hlt) hp
  have := Holds.ni (cap := cap) hq hsz
  rwa [List.length_mergeSort] at this
theorem sorted_le (l : List Nat) : (l.mergeSort fun x y => decide (x ≤ y)).Pairwise (fun a b => a ≤ b) := by
 have := List.pairwise_mergeSort (le := fun x y : Nat => decide (x ≤ y)) (fun a b c h1 h2 => by simp at h1 h2 ⊢;omega) (fun a b => by simp;omega) l
 exact this.imp fun h => by simpa using h
theorem NIRow.at {w : World} {p : Option Addr} {n cap : Nat} {l : List Nat} (h : NIRow w (.slice p n cap) l) (hl : l ≠ []) : ∃ g o,p = some ⟨g,o,none⟩ ∧ g < w.heap.size ∧ ∀ j (hj : j < l.length),w.cell? ⟨g,o + j,none⟩ = some (nv l[j]) := by
 obtain ⟨p',cap',e,h1⟩ := h
 obtain ⟨rfl,_⟩ : p = p' ∧ True := by simp at e;exact ⟨e.1,trivial⟩
 exact h1 hl
theorem gNeeds_calls {w : World} {es : Nat → Addr} (hW : SheetW w es) (hnone : w.cell? ⟨5,0,none⟩ = some (erOf es 6)) (v : Value) (l : List Ru) (hrow : RRow w v l) (hn : l.length ≤ 1000) (hS : ∀ x ∈ l,x.Small) (vo : Value) (outs : List (List UInt8)) (hout : XRow w vo outs) (hol : outs.length ≤ 1000) :
  Calls Tryz.prog 113 #[v,vo] w fun e w' => ∃ u ev,e = .returned (.tuple #[u,ev]) ∧ Below w.heap.size w w' ∧ NeedsTells es l outs w' u ev := by
 have HL := hid1 (grlook_calls hW v l hrow hn hS)
 have H12 : Hid (∀ i (hi : i < l.length),l[i].ins.length ≤ 12) := hid1 fun i hi => (hS _ (List.getElem_mem hi)).many
 obtain ⟨pr,cap,rfl,-⟩ := hrow
 obtain ⟨po,co,rfl,-,-,hino⟩ := hout
 have HO := hid1 hino
 go_enter Tryz.func113,Tryz.ntmps113
 go_wp2_with fail
 refine HL.out.mono ?_
 rintro e w1 ⟨u,ev,rfl,g1,hT⟩
 rcases hT with ⟨hf,hE,rfl,t,x,rfl⟩ | ⟨hf,rfl,p,bm,G,vals,rfl,hSh⟩
 ·have HE := hid1 hE
  have HZ := hid1 hf
  go_wp2
  go_ret2
  exact ⟨_,_,rfl,g1,.inl ⟨HZ.out,HE.out,_,_,rfl⟩⟩
 ·have HZ := hid1 hf
  have HA := hid1 (Ru.fault_ok hf).2
  have HSh := hid1 hSh
  have HF := hid1 (Ru.NeedA.first l outs)
  have hc0 := hSh.c0
  have hc1 := hSh.c1
  have hn1 := cell_below' hnone g1
  go_wp2
  go_loopw [8,26] (fun ov iv wr => ∃ (j : Nat) (r : List Nat),j ≤ outs.length ∧ iv = .int .i64 j ∧ wr.ownsRow w1.heap.size 3 1 ov r.length (r.map nv) ∧ Ru.NeedA l outs j r ∧ Below w1.heap.size w1 wr) (fun _ iv _ => outs.length - (intOf iv).toNat)
  case atStart => exact ⟨0,[],Nat.zero_le _,rfl,World.ownsRow_nil _ _ _ _,HF.out,Below.refl _ _⟩
  case round =>
   obtain ⟨j,r,hjl,rfl,hO,hA,B⟩ := hrel
   have HOw := hid1 hO
   have HN := hid1 hA
   have hrl := hA.len
   have j0 : (0 : Int) ≤ (j : Int) := by omega
   by_cases hlt : j < outs.length
   ·have j1 : (j : Int) < (outs.length : Int) := by omega
    obtain ⟨go,oo,rfl,hgo,hco⟩ := HO.out (by intro e;rw [e] at hlt;simp at hlt)
    have gB := below_then g1 B
    have e3 := (gB.cell (p := ⟨go,oo + j,none⟩) hgo).trans (hco j hlt)
    have hcm := cell_below' hc0 B
    have hlk := look_mk (HSh.out.below B).map outs[j]
    cases hm : Ru.mkr l outs[j] with
    | none =>
     have HQ : Hid (∀ W ev,ErrV W es ev (6,(j : Int)) → NeedsTells es l outs W (.slice none 0 0) ev) := hid1 fun W ev hE => .inr (.inl ⟨HZ.out,j,hlt,Ru.mkr_none hm,HN.out.made,hE,_,_,rfl⟩)
     rw [hm] at hlk
     simp only [Option.getD_none,Option.isSome_none] at hlk
     have hnr := cell_below' hn1 B
     simp only [erOf] at hnr
     generalize outs[j] = s at *
     go_wp2
     go_region
     all_goals
      go_wp2
      go_ret2
      refine ⟨_,_,rfl,?_,HQ.out _ _ (.inr ⟨_,5,rfl,by omega,rfl,?_,?_⟩)⟩
      ·first | exact (gB.alloc gB.size _).drew | exact gB.drew.alloc gB.size _
      ·simp
      ·simp [erOf]
    | some k =>
     have HQ := hid1 (HN.out.more HA.out hlt hm)
     rw [hm] at hlk
     simp only [Option.getD_some,Option.isSome_some] at hlk
     have HW := hid1 (grwith_calls B.size u8 r k (by omega) HOw.out)
     generalize outs[j] = s at *
     go_wp2_with fail
     refine HW.out.mono ?_
     rintro e w3 ⟨v3,rfl,ho3,g3⟩
     have G3 := B.trans g3
     go_wp2
     exact ⟨⟨j + 1,_,by omega,by go_num,ho3,HQ.out,G3⟩,by simp [intOf];omega⟩
   ·have j1 : (outs.length : Int) ≤ (j : Int) := by omega
    obtain rfl : j = outs.length := by omega
    have HD := hid1 HN.out.done
    have HMd := hid1 HN.out.made
    generalize wr = w2 at *
    go_wp2
    go_loopw [8,13] (fun ov av wx => ∃ (a : Nat) (r : List Nat),a ≤ r.length ∧ av = .int .i64 a ∧ wx.ownsRow w1.heap.size 3 1 ov r.length (r.map nv) ∧ Ru.NeedB l outs r a 0 ∧ Below w1.heap.size w1 wx) (fun _ av _ => l.length - (intOf av).toNat)
    case atStart => exact ⟨0,r,Nat.zero_le _,rfl,HOw.out,HD.out,B⟩
    case round =>
     obtain ⟨a,r,hal,rfl,hO,hB,B⟩ := hrel
     have HOw := hid1 hO
     have HN := hid1 hB
     have hrl := hB.len
     have a0 : (0 : Int) ≤ (a : Int) := by omega
     obtain ⟨pv,cv,rfl⟩ := own_slice HOw.out
     by_cases hlt : a < r.length
     ·have a1 : (a : Int) < (r.length : Int) := by omega
      have hx := List.getElem?_eq_getElem hlt
      have hxl := HN.out.lt r[a] (List.getElem_mem hlt)
      obtain ⟨gv,ov,rfl,hgv,hcv⟩ := (NRow.of_owns HOw.out).ni.at (by intro e;rw [e] at hlt;simp at hlt)
      have hca := hcv a hlt
      have hbt := cell_below' hc1 B
      obtain ⟨dx,rx⟩ := HSh.out.row r[a] hxl
      have dx1 := cell_below' dx B
      have hnl : (Ru.needL l l[r[a]].ins).length ≤ 12 := by
       have := Ru.needL_len l l[r[a]].ins
       have := H12.out r[a] hxl
       omega
      have HK := hid1 rx
      generalize hxe : r[a] = x at *
      have x0 : (0 : Int) ≤ (x : Int) := by omega
      have x1 : (x : Int) < (l.length : Int) := by omega
      obtain ⟨px,cx,ex,hinx⟩ := HK.out
      have HX := hid1 hinx
      rw [ex] at dx1
      generalize hNL : Ru.needL l l[x].ins = nl at *
      have zl : (nl.length : Int) ≤ 12 := by omega
      generalize wr = w3 at *
      go_wp2
      go_quiet (fail)
      go_wp2
      go_loopw [8,68] (fun ov mv wx => ∃ (m : Nat) (r : List Nat),m ≤ nl.length ∧ mv = .int .i64 m ∧ wx.ownsRow w1.heap.size 3 1 ov r.length (r.map nv) ∧ Ru.NeedB l outs r a m ∧ r[a]? = some x ∧ Below w1.heap.size w1 wx) (fun _ mv _ => nl.length - (intOf mv).toNat)
      case atStart => exact ⟨0,r,Nat.zero_le _,rfl,HOw.out,HN.out,hx,below_draws B _⟩
      case round =>
       obtain ⟨m,r,hml,rfl,hO,hN,hx,B⟩ := hrel
       have HOw := hid1 hO
       have HN := hid1 hN
       have hrl := hN.len
       have m0 : (0 : Int) ≤ (m : Int) := by omega
       by_cases hmlt : m < nl.length
       ·have m1 : (m : Int) < (nl.length : Int) := by omega
        obtain ⟨gx,ox,rfl,hgx,hcx⟩ := HX.out (by intro e;rw [e] at hmlt;simp at hmlt)
        have hcm := (B.cell (p := ⟨gx,ox + m,none⟩) hgx).trans (hcx m hmlt)
        have HQ : Hid (Ru.NeedB l outs (withN r nl[m]) a (m + 1)) := hid1 (by
         subst hNL
         exact HN.out.more HA.out hx hxl hmlt)
        have HG : Hid ((withN r nl[m])[a]? = some x) := hid1 (by
         rw [Ru.withN_get (List.getElem?_eq_some_iff.1 hx).1]
         exact hx)
        have HW := hid1 (grwith_calls B.size u8 r nl[m] (by omega) HOw.out)
        generalize nl[m] = y at *
        go_wp2_with fail
        refine HW.out.mono ?_
        rintro e w5 ⟨v5,rfl,ho5,g5⟩
        have G5 := B.trans g5
        go_wp2
        exact ⟨⟨m + 1,_,by omega,by go_num,ho5,HQ.out,HG.out,G5⟩,by simp [intOf];omega⟩
       ·have m1 : (nl.length : Int) ≤ (m : Int) := by omega
        have HQ : Hid (Ru.NeedB l outs r (a + 1) 0) := hid1 (by
         subst hNL
         exact HN.out.next hx hxl (by omega))
        have hal2 := (List.getElem?_eq_some_iff.1 hx).1
        go_wp2
        exact ⟨⟨a + 1,r,by omega,by go_num,HOw.out,HQ.out,B⟩,by simp [intOf];omega⟩
     ·have a1 : (r.length : Int) ≤ (a : Int) := by omega
      have HQ : Hid (Ru.Needed l outs (Ru.isIn r)) := hid1 (HN.out.done HA.out (by omega))
      have HS : Hid ((r.mergeSort fun x y => decide (x ≤ y)) = (List.range l.length).filter (Ru.isIn r)) := hid1 (Ru.sorted_filter (sorted_le r) ((List.mergeSort_perm r _).nodup_iff.2 HN.out.once) (fun k hk => HN.out.lt k ((List.mergeSort_perm r _).mem_iff.1 hk)) _ (fun k _ => by
       rw [(List.mergeSort_perm r _).mem_iff]
       simp [Ru.isIn]))
      have HC := hid1 (sortI_calls B.size _ r (by omega) HOw.out)
      rw [HS.out] at HC
      go_wp2_with fail
      refine HC.out.mono ?_
      rintro e w4 ⟨rfl,h4,g4⟩
      have HH := hid1 h4
      have G4 := below_then g1 (B.trans g4)
      go_wp2
      go_ret2
      exact ⟨_,_,rfl,G4,.inr (.inr ⟨HZ.out,fun i hi => HMd.out i hi hi,rfl,_,HQ.out,HH.out⟩)⟩
end Go.Proofs.YtdljhggillgpfaaGreatDoor
