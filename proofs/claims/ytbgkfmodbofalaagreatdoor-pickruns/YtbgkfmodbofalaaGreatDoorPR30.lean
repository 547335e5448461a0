import Derived.Test.YtbgkfmodbofalaaGreatDoorPR29
set_option maxRecDepth 100000
set_option maxHeartbeats 32000000
namespace Go.Proofs.YtbgkfmodbofalaaGreatDoor
open Go.RowKit Go.Shelf Go.Lib Go.Maps
open Tf (Fs)
structure RTreeAt (B : Nat) (w : World) (tb : Nat) (fs : Fs) (v : Value) : Prop where
 low : B <= tb
 cell : w.cell? ⟨tb,0,none⟩ = some v
 free : w.frozen? ⟨tb,0,none⟩ = false
 row : w.ownsRow B 51 2 v fs.length (Zae fs)
 apart : v.ownBlock ≠ some tb
 nil : fs = [] -> v = .slice none 0 0
theorem RTreeAt.lt {B : Nat} {w : World} {tb : Nat} {fs : Fs} {v : Value} (h : RTreeAt B w tb fs v) : tb < w.heap.size := Zai h.cell
theorem RTreeAt.below {B : Nat} {w w' : World} {tb : Nat} {fs : Fs} {v : Value} (h : RTreeAt B w tb fs v) (hb : Below w.heap.size w w') : RTreeAt B w' tb fs v :=
 ⟨h.low,(hb.cell (p := ⟨tb,0,none⟩) h.lt).trans h.cell,(hb.frozen (p := ⟨tb,0,none⟩) h.lt).trans h.free,Zap h.row hb,h.apart,h.nil⟩
def FRow (w : World) (v : Value) (es : Fs) : Prop :=
 ∃ p cap,v = .slice p es.length cap /\ es.length <= cap /\ (es ≠ [] -> ∃ g cur,p = some ⟨g,0,none⟩ /\ w.heap[g]? = some (.cells cur 51 (0,0)) /\ ∀ j (hj : j < es.length),cur[j * 2]? = some (.string (ba es[j].1)) /\ cur[j * 2 + 1]? = some (.string (ba es[j].2)))
theorem FRow.of_owns {w : World} {base : Nat} {v : Value} {es : Fs} (h : w.ownsRow base 51 2 v es.length (Zae es)) : FRow w v es := by
 rcases h.2 with ⟨rfl,hn⟩ | ⟨g,cap,cur,rfl,_,hb,h1,_,_,h4⟩
 ·obtain rfl : es = [] := by simpa using hn
  exact ⟨none,0,rfl,Nat.le_refl _,fun h => absurd rfl h⟩
 ·refine ⟨_,cap,rfl,h1,fun _ => ⟨g,cur,rfl,hb,fun j hj => ?_⟩⟩
  obtain ⟨h5,h6⟩ := Zhq es j hj;rw [<- h4,List.getElem?_take,if_pos (by omega),Array.getElem?_toList] at h5 h6
  exact ⟨h5,h6⟩
theorem Zbh {B : Nat} {w : World} {tb : Nat} {fs : Fs} {v : Value} (h : RTreeAt B w tb fs v) (hn : fs.length <= 1000) (p : List UInt8) :
  Calls Tryz.prog 30 #[Ptr tb,.string (ba p)] w fun e w' => ((∃ k,∃ hk : k < fs.length,e = .returned (.int .i64 k) /\ fs[k].1 = p) \/ (Tf.hasP fs p = false /\ e = .returned (.int .i64 (-1)))) /\ w' = w := by
 have hc := h.cell;obtain ⟨pa,cap,rfl,hcap,hin⟩ := FRow.of_owns h.row;have zn : (fs.length : Int) <= 1000 := by omega
 clear h;go_enter Tryz.func30,Tryz.ntmps30
 go_wp2;go_loopw [5] (fun i wr => ∃ k : Nat,k <= fs.length /\ i = .int .i64 k /\ (∀ j (hj : j < fs.length),j < k -> fs[j].1 ≠ p) /\ wr = w) (fun i _ => fs.length - (intOf i).toNat)
 case atStart => exact ⟨0,by omega,rfl,fun j _ h => absurd h (Nat.not_lt_zero _),rfl⟩
 case round =>
  obtain ⟨k,hk,rfl,hno,rfl⟩ := hrel;by_cases hlt : k < fs.length
  ·obtain ⟨g,cur,rfl,hg,hcur⟩ := hin (by intro e;rw [e] at hlt;simp at hlt)
   have h1 := Zac hg (hcur k hlt).1;have c1 : (k : Int) < (fs.length : Int) := by omega
   have c0 : (0 : Int) <= (k : Int) := by omega
   clear hin hcur hg;obtain ⟨x,hx⟩ : ∃ x,fs[k].1 = x := ⟨_,rfl⟩
   rw [hx] at h1;by_cases e : x = p
   ·subst e;go_wp2;go_ret;exact ⟨.inl ⟨k,hlt,rfl,hx⟩,rfl⟩
   ·have e' : (x == p) = false := by simpa using e
    go_wp2;go_roundw
    case rel => exact ⟨k + 1,by omega,by go_num,fun j hj hjk => by
     rcases Nat.lt_or_ge j k with h2 | h2
     ·exact hno j hj h2
     ·obtain rfl : j = k := by omega
      rw [hx];exact e,by first | rfl | trivial⟩
    case measure => simp [intOf];omega
  ·have c1 : (fs.length : Int) <= (k : Int) := by omega
   clear hin;go_wp2;go_ret;refine ⟨.inr ⟨?_,rfl⟩,rfl⟩;unfold Tf.hasP;rw [List.any_eq_false];intro f hf e
   obtain ⟨j,hj,rfl⟩ := List.mem_iff_getElem.1 hf;exact hno j hj (by omega) (by simpa using e)
end Go.Proofs.YtbgkfmodbofalaaGreatDoor
namespace Go.Proofs.YtbgkfmodbofalaaGreatDoor
open Go.RowKit Go.Shelf Go.Lib
def PlRow (W : World) (g n : Nat) (f : Nat -> Value) : Prop := g < W.heap.size /\ ∀ j,j < n -> W.cell? ⟨g,j,none⟩ = some (f j) /\ W.frozen? ⟨g,j,none⟩ = false
def upd (f : Nat -> Value) (i : Nat) (v : Value) : Nat -> Value := fun j => if j = i then v else f j
theorem Zxj (f : Nat -> Value) (i : Nat) (v : Value) : upd f i v i = v := if_pos rfl
theorem Zua {f : Nat -> Value} {i j : Nat} {v : Value} (h : j ≠ i) : upd f i v j = f j := if_neg h
theorem PlRow.same {W W' : World} {g n : Nat} {f : Nat -> Value} (h : PlRow W g n f) (hz : W.heap.size <= W'.heap.size) (hb : W'.heap[g]? = W.heap[g]?) : PlRow W' g n f :=
 ⟨Nat.lt_of_lt_of_le h.1 hz,fun j hj => ⟨(World.cell?_of_block (a := ⟨g,j,none⟩) hb).trans (h.2 j hj).1,(World.frozen?_of_block (a := ⟨g,j,none⟩) hb).trans (h.2 j hj).2⟩⟩
theorem PlRow.set {W : World} {g n : Nat} {f : Nat -> Value} (h : PlRow W g n f) {i : Nat} (hi : i < n) (v : Value) : PlRow (W.setCell ⟨g,i,none⟩ v) g n (upd f i v) := by
 refine ⟨by simpa using h.1,fun j hj => ⟨?_,?_⟩⟩
 ·by_cases e : j = i
  ·subst e;rw [Zxj];exact World.cell?_setCell_same' _ _ _ (by rw [(h.2 j hj).1];rfl)
  ·rw [Zua e,World.cell?_setCell_other]
   ·exact (h.2 j hj).1
   ·simp
 ·rw [World.frozen?_setCell];exact (h.2 j hj).2
theorem Zaj (W : World) (a : Addr) (v : Value) : (W.setCell a v).heap.size = W.heap.size := by simp
theorem Zcr {B : Nat} {w W : World} (h : Below B w W) {g i : Nat} (hg : B <= g) (v : Value) : Below B w (W.setCell ⟨g,i,none⟩ v) :=
 ⟨h.os,h.tape,h.output,by rw [Zaj];exact h.size,fun j hj => (Below.heap_setCell W ⟨g,i,none⟩ v j (by show j ≠ g;omega)).trans (h.block j hj)⟩
structure MBr (w0 W : World) (mb tb : Nat) (tv lv cv : Value) (gs go gh gw : Nat) (l : List Ru) (fs : Tf.Fs) (vS vO vH vW : Nat -> Value) : Prop where
 base : Below w0.heap.size w0 W
 rules : RRow w0 lv l
 low : w0.heap.size <= mb /\ w0.heap.size <= gs /\ w0.heap.size <= go /\ w0.heap.size <= gh /\ w0.heap.size <= gw
 c0 : W.cell? ⟨mb,0,none⟩ = some (Ptr tb)
 c1 : W.cell? ⟨mb,1,none⟩ = some lv
 c2 : W.cell? ⟨mb,2,none⟩ = some (.slice (some ⟨gs,0,none⟩) l.length l.length)
 c3 : W.cell? ⟨mb,3,none⟩ = some (.slice (some ⟨go,0,none⟩) l.length l.length)
 c4 : W.cell? ⟨mb,4,none⟩ = some (.slice (some ⟨gh,0,none⟩) l.length l.length)
 c5 : W.cell? ⟨mb,5,none⟩ = some (.slice (some ⟨gw,0,none⟩) l.length l.length)
 c6 : W.cell? ⟨mb,6,none⟩ = some cv
 rs : PlRow W gs l.length vS
 ro : PlRow W go l.length vO
 rh : PlRow W gh l.length vH
 rw : PlRow W gw l.length vW
 tree : RTreeAt w0.heap.size W tb fs tv
 n1 : gs ≠ go /\ gs ≠ gh /\ gs ≠ gw /\ go ≠ gh /\ go ≠ gw /\ gh ≠ gw
 nm : mb ≠ gs /\ mb ≠ go /\ mb ≠ gh /\ mb ≠ gw
 nt : ∀ j,(j = tb \/ some j = tv.ownBlock) -> j ≠ gs /\ j ≠ go /\ j ≠ gh /\ j ≠ gw
section
variable {w0 W W' : World} {mb tb : Nat} {tv lv cv : Value} {gs go gh gw : Nat} {l : List Ru} {fs : Tf.Fs} {vS vO vH vW : Nat -> Value}
def MBlk (mb tb : Nat) (tv : Value) (gs go gh gw : Nat) (j : Nat) : Prop := j = mb \/ j = tb \/ some j = tv.ownBlock \/ j = gs \/ j = go \/ j = gh \/ j = gw
theorem MBr.lt (h : MBr w0 W mb tb tv lv cv gs go gh gw l fs vS vO vH vW) : ∀ j,MBlk mb tb tv gs go gh gw j -> j < W.heap.size := by
 rintro j (rfl | rfl | hj | rfl | rfl | rfl | rfl)
 ·exact Zai h.c0
 ·exact h.tree.lt
 ·exact (h.tree.row.lt j hj.symm).2
 ·exact h.rs.1
 ·exact h.ro.1
 ·exact h.rh.1
 ·exact h.rw.1
theorem MBr.ge (h : MBr w0 W mb tb tv lv cv gs go gh gw l fs vS vO vH vW) : ∀ j,MBlk mb tb tv gs go gh gw j -> w0.heap.size <= j := by
 obtain ⟨h1,h2,h3,h4,h5⟩ := h.low;rintro j (rfl | rfl | hj | rfl | rfl | rfl | rfl)
 ·exact h1
 ·exact h.tree.low
 ·exact (h.tree.row.lt j hj.symm).1
 ·exact h2
 ·exact h3
 ·exact h4
 ·exact h5
theorem RTreeAt.same {B : Nat} (h : RTreeAt B W tb fs tv) (hb : ∀ j,(j = tb \/ some j = tv.ownBlock) -> W'.heap[j]? = W.heap[j]?) : RTreeAt B W' tb fs tv := by
 have bt := hb tb (.inl rfl);refine ⟨h.low,(World.cell?_of_block (a := ⟨tb,0,none⟩) bt).trans h.cell,(World.frozen?_of_block (a := ⟨tb,0,none⟩) bt).trans h.free,⟨h.row.1,?_⟩,h.apart,h.nil⟩
 rcases h.row.2 with h1 | ⟨g,cap,cur,e,h0,hg,h2⟩
 ·exact .inl h1
 ·exact .inr ⟨g,cap,cur,e,h0,(hb g (.inr (by rw [e];rfl))).trans hg,h2⟩
theorem MBr.same (h : MBr w0 W mb tb tv lv cv gs go gh gw l fs vS vO vH vW) (hB : Below w0.heap.size w0 W') (hz : W.heap.size <= W'.heap.size) (hb : ∀ j,MBlk mb tb tv gs go gh gw j -> W'.heap[j]? = W.heap[j]?) : MBr w0 W' mb tb tv lv cv gs go gh gw l fs vS vO vH vW := by
 have bm := hb mb (.inl rfl);have cc : ∀ {i : Nat} {u : Value},W.cell? ⟨mb,i,none⟩ = some u -> W'.cell? ⟨mb,i,none⟩ = some u := fun {i u} hc => (World.cell?_of_block (a := ⟨mb,i,none⟩) bm).trans hc
 exact ⟨hB,h.rules,h.low,cc h.c0,cc h.c1,cc h.c2,cc h.c3,cc h.c4,cc h.c5,cc h.c6,h.rs.same hz (hb gs (.inr (.inr (.inr (.inl rfl))))),h.ro.same hz (hb go (.inr (.inr (.inr (.inr (.inl rfl)))))),h.rh.same hz (hb gh (.inr (.inr (.inr (.inr (.inr (.inl rfl))))))),h.rw.same hz (hb gw (.inr (.inr (.inr (.inr (.inr (.inr rfl))))))),h.tree.same (fun j hj => hb j (hj.elim (fun e => .inr (.inl e)) fun e => .inr (.inr (.inl e)))),h.n1,h.nm,h.nt⟩
theorem MBr.below (h : MBr w0 W mb tb tv lv cv gs go gh gw l fs vS vO vH vW) (hb : Below W.heap.size W W') : MBr w0 W' mb tb tv lv cv gs go gh gw l fs vS vO vH vW :=
 h.same (h.base.trans (hb.mono h.base.size)) hb.size fun j hj => hb.block j (h.lt j hj)
theorem MBr.row (h : MBr w0 W mb tb tv lv cv gs go gh gw l fs vS vO vH vW) : RRow W lv l := h.rules.below h.base
theorem MBr.store (h : MBr w0 W mb tb tv lv cv gs go gh gw l fs vS vO vH vW) {g i : Nat} (hg : g = gs \/ g = go \/ g = gh \/ g = gw) (v : Value) {vS' vO' vH' vW' : Nat -> Value}
  (rs : PlRow (W.setCell ⟨g,i,none⟩ v) gs l.length vS') (ro : PlRow (W.setCell ⟨g,i,none⟩ v) go l.length vO') (rh : PlRow (W.setCell ⟨g,i,none⟩ v) gh l.length vH') (rw : PlRow (W.setCell ⟨g,i,none⟩ v) gw l.length vW') :
  MBr w0 (W.setCell ⟨g,i,none⟩ v) mb tb tv lv cv gs go gh gw l fs vS' vO' vH' vW' := by
 have hS : ∀ c,c ≠ g -> (W.setCell ⟨g,i,none⟩ v).heap[c]? = W.heap[c]? := fun c hc => Below.heap_setCell W ⟨g,i,none⟩ v c hc
 obtain ⟨l1,l2,l3,l4,l5⟩ := h.low;have hlow : w0.heap.size <= g := by rcases hg with e | e | e | e <;> omega
 obtain ⟨m1,m2,m3,m4⟩ := h.nm;have bm := hS mb (by rcases hg with e | e | e | e <;> omega)
 have cc : ∀ {j : Nat} {u : Value},W.cell? ⟨mb,j,none⟩ = some u -> (W.setCell ⟨g,i,none⟩ v).cell? ⟨mb,j,none⟩ = some u := fun {j u} hc => (World.cell?_of_block (a := ⟨mb,j,none⟩) bm).trans hc
 refine ⟨Zcr h.base hlow v,h.rules,h.low,cc h.c0,cc h.c1,cc h.c2,cc h.c3,cc h.c4,cc h.c5,cc h.c6,rs,ro,rh,rw,h.tree.same (fun j hj => hS j ?_),h.n1,h.nm,h.nt⟩
 obtain ⟨t1,t2,t3,t4⟩ := h.nt j hj;rcases hg with e | e | e | e <;> omega
theorem PlRow.other {g g' i n : Nat} {f : Nat -> Value} (h : PlRow W g n f) (hg : g ≠ g') (v : Value) : PlRow (W.setCell ⟨g',i,none⟩ v) g n f :=
 h.same (by rw [Zaj];exact Nat.le_refl _) (Below.heap_setCell W ⟨g',i,none⟩ v g hg)
theorem MBr.setS (h : MBr w0 W mb tb tv lv cv gs go gh gw l fs vS vO vH vW) {i : Nat} (hi : i < l.length) (v : Value) : MBr w0 (W.setCell ⟨gs,i,none⟩ v) mb tb tv lv cv gs go gh gw l fs (upd vS i v) vO vH vW := by
 obtain ⟨a1,a2,a3,a4,a5,a6⟩ := h.n1;exact h.store (.inl rfl) v (h.rs.set hi v) (h.ro.other (by omega) v) (h.rh.other (by omega) v) (h.rw.other (by omega) v)
theorem MBr.setO (h : MBr w0 W mb tb tv lv cv gs go gh gw l fs vS vO vH vW) {i : Nat} (hi : i < l.length) (v : Value) : MBr w0 (W.setCell ⟨go,i,none⟩ v) mb tb tv lv cv gs go gh gw l fs vS (upd vO i v) vH vW := by
 obtain ⟨a1,a2,a3,a4,a5,a6⟩ := h.n1;exact h.store (.inr (.inl rfl)) v (h.rs.other (by omega) v) (h.ro.set hi v) (h.rh.other (by omega) v) (h.rw.other (by omega) v)
theorem MBr.setH (h : MBr w0 W mb tb tv lv cv gs go gh gw l fs vS vO vH vW) {i : Nat} (hi : i < l.length) (v : Value) : MBr w0 (W.setCell ⟨gh,i,none⟩ v) mb tb tv lv cv gs go gh gw l fs vS vO (upd vH i v) vW := by
 obtain ⟨a1,a2,a3,a4,a5,a6⟩ := h.n1;exact h.store (.inr (.inr (.inl rfl))) v (h.rs.other (by omega) v) (h.ro.other (by omega) v) (h.rh.set hi v) (h.rw.other (by omega) v)
theorem MBr.setW (h : MBr w0 W mb tb tv lv cv gs go gh gw l fs vS vO vH vW) {i : Nat} (hi : i < l.length) (v : Value) : MBr w0 (W.setCell ⟨gw,i,none⟩ v) mb tb tv lv cv gs go gh gw l fs vS vO vH (upd vW i v) := by
 obtain ⟨a1,a2,a3,a4,a5,a6⟩ := h.n1;exact h.store (.inr (.inr (.inr rfl))) v (h.rs.other (by omega) v) (h.ro.other (by omega) v) (h.rh.other (by omega) v) (h.rw.set hi v)
end
abbrev nameV (st : Nat -> Bf.St) : Nat -> Value := fun j => .string (ba (st j).name)
abbrev outV (st : Nat -> Bf.St) : Nat -> Value := fun j => .string (ba (st j).out)
abbrev hitV (st : Nat -> Bf.St) : Nat -> Value := fun j => .bool (st j).hit
abbrev whyV (st : Nat -> Bf.St) : Nat -> Value := fun j => .int .i64 ((st j).why : Nat)
abbrev MB (w0 W : World) (mb tb : Nat) (tv lv cv : Value) (gs go gh gw : Nat) (d : Bf.Bd) : Prop :=
 MBr w0 W mb tb tv lv cv gs go gh gw d.l d.fs (nameV d.st) (outV d.st) (hitV d.st) (whyV d.st)
theorem Zdj (st : Nat -> Bf.St) (i : Nat) (s : Bf.St) : upd (nameV st) i (.string (ba s.name)) = nameV (Bf.setS st i s) := by
 funext j
 unfold upd nameV Bf.setS;split <;> rfl
theorem Zon (st : Nat -> Bf.St) (i : Nat) (s : Bf.St) : upd (outV st) i (.string (ba s.out)) = outV (Bf.setS st i s) := by
 funext j
 unfold upd outV Bf.setS;split <;> rfl
theorem Zyz (st : Nat -> Bf.St) (i : Nat) (s : Bf.St) : upd (hitV st) i (.bool s.hit) = hitV (Bf.setS st i s) := by
 funext j
 unfold upd hitV Bf.setS;split <;> rfl
theorem Zyy (st : Nat -> Bf.St) (i : Nat) (s : Bf.St) : upd (whyV st) i (.int .i64 (s.why : Nat)) = whyV (Bf.setS st i s) := by
 funext j
 unfold upd whyV Bf.setS;split <;> rfl
theorem Zxt {st : Nat -> Bf.St} {i : Nat} {s : Bf.St} (h : s.out = (st i).out) : outV (Bf.setS st i s) = outV st := by
 funext j
 unfold outV Bf.setS;split
 ·rename_i e;rw [e,h]
 ·rfl
theorem Zla {st : Nat -> Bf.St} {i : Nat} {s : Bf.St} (h : s.hit = (st i).hit) : hitV (Bf.setS st i s) = hitV st := by
 funext j
 unfold hitV Bf.setS;split
 ·rename_i e;rw [e,h]
 ·rfl
theorem Zke {st : Nat -> Bf.St} {i : Nat} {s : Bf.St} (h : s.why = (st i).why) : whyV (Bf.setS st i s) = whyV st := by
 funext j
 unfold whyV Bf.setS;split
 ·rename_i e;rw [e,h]
 ·rfl
end Go.Proofs.YtbgkfmodbofalaaGreatDoor
namespace Go.Proofs.YtbgkfmodbofalaaGreatDoor
open Go.RowKit Go.Shelf Go.Lib
theorem Zbv {w0 W : World} {mb tb : Nat} {tv lv cv : Value} {gs go gh gw : Nat} {d : Bf.Bd} (h : MB w0 W mb tb tv lv cv gs go gh gw d) (hn : d.l.length <= 1000) (hI : ∀ x ∈ d.l,x.ins.length <= 1000000) (i : Nat) (hi : i < d.l.length) :
  Calls Tryz.prog 137 #[.pointer (some ⟨mb,0,none⟩),.int .i64 i] W fun e w' => e = .returned (.bool (d.isReady i)) /\ Below W.heap.size W w' := by
 have HH := hid1 h;have HN := hid1 fun (V : World) (g : Below W.heap.size W V) (k : Nat) (hk : k < d.l.length) => Zbf lv d.l (h.row.below g) hI i k hi hk
 have HR : Hid (d.isReady i = ((d.st i).isWaits && Bf.freeTo d.l d.st i d.l.length)) := hid1 rfl;obtain ⟨p,cap,rfl,-⟩ := h.row;have c1 := h.c1;have c2 := h.c2;have cs := (h.rs.2 i hi).1;have i0 : (0 : Int) <= (i : Int) := by omega
 have i1 : (i : Int) < (d.l.length : Int) := by omega
 have zn : (d.l.length : Int) <= 1000 := by omega
 have hw := Bf.St.name_waits (d.st i);clear h;cases hs : (d.st i).isWaits with
 | false =>
  rw [hs] at hw HR;clear HN HH;go_enter Tryz.func137,Tryz.ntmps137
  go_wp2;go_ret;exact ⟨by rw [HR.out];rfl,Below.refl _ _⟩
 | true =>
  rw [hs,Bool.true_and] at HR;rw [hs] at hw;go_enter Tryz.func137,Tryz.ntmps137
  go_wp2;clear c1 c2 cs;go_loopw [5] (fun iv wr => ∃ k : Nat,k <= d.l.length /\ iv = .int .i64 k /\ Bf.freeTo d.l d.st i k = true /\ Below W.heap.size W wr) (fun iv _ => d.l.length - (intOf iv).toNat)
  case atStart => exact ⟨0,Nat.zero_le _,rfl,Bf.freeTo_zero _ _ _,Below.refl _ _⟩
  case round =>
   obtain ⟨k,hk,rfl,hf,hB⟩ := hrel;have hM := HH.out.below hB;have c1 := hM.c1;have c2 := hM.c2;have k0 : (0 : Int) <= (k : Int) := by omega
   by_cases hlt : k < d.l.length
   ·have k1 : (k : Int) < (d.l.length : Int) := by omega
    have ck := (hM.rs.2 k hlt).1;have HC := hid1 (HN.out wr hB k hlt);have HS := hid1 (Bf.freeTo_succ d.l d.st i k);rw [hf] at HS;have HFin : Hid (Bf.freeTo d.l d.st i (k + 1) = false -> Bf.freeTo d.l d.st i d.l.length = false) := hid1 fun h0 => by
     unfold Bf.freeTo at h0 ⊢;rw [List.all_eq_false] at h0 ⊢;obtain ⟨x,hx,hx2⟩ := h0;exact ⟨x,List.mem_range.2 (by have := List.mem_range.1 hx;omega),hx2⟩
    have hd := Bf.St.name_done (d.st k);clear hM;cases hnd : Ru.needs d.l i k with
    | false =>
     rw [hnd] at HC HS;go_wp2_with fail;refine HC.out.mono ?_;rintro e w1 ⟨rfl,q,rfl⟩;clear HC;go_wp2;exact ⟨⟨k + 1,by omega,by go_num,by rw [HS.out];rfl,Zad hB q⟩,by simp [intOf];omega⟩
    | true =>
     rw [hnd] at HC HS;cases hdn : (d.st k).isDone with
     | true =>
      rw [hdn] at hd HS;go_wp2_with fail;refine HC.out.mono ?_;rintro e w1 ⟨rfl,q,rfl⟩;clear HC;go_wp2;exact ⟨⟨k + 1,by omega,by go_num,by rw [HS.out];rfl,Zad hB q⟩,by simp [intOf];omega⟩
     | false =>
      rw [hdn] at hd HS;go_wp2_with fail;refine HC.out.mono ?_;rintro e w1 ⟨rfl,q,rfl⟩;clear HC;go_wp2;go_ret;exact ⟨by rw [HR.out,HFin.out (by rw [HS.out];rfl)];rfl,Zad hB q⟩
   ·have k1 : (d.l.length : Int) <= (k : Int) := by omega
    obtain rfl : k = d.l.length := by omega
    clear hM;go_wp2;go_ret;exact ⟨by rw [HR.out,hf];rfl,hB⟩
theorem Zey {w0 W : World} {mb tb : Nat} {tv lv cv : Value} {gs go gh gw : Nat} {d : Bf.Bd} (h : MB w0 W mb tb tv lv cv gs go gh gw d) (hn : d.l.length <= 1000) (hI : ∀ x ∈ d.l,x.ins.length <= 1000000) :
  Calls Tryz.prog 142 #[.pointer (some ⟨mb,0,none⟩)] W fun e w' => ∃ u,e = .returned u /\ w'.ownsRow W.heap.size 3 1 u d.ready.length (d.ready.map nv) /\ Below W.heap.size W w' := by
 have HH := hid1 h;have HN := hid1 fun (V : World) (g : Below W.heap.size W V) (k : Nat) (hk : k < d.l.length) => Zbv (h.below g) hn hI k hk
 obtain ⟨p,cap,rfl,-⟩ := h.row;have c1 := h.c1;have zn : (d.l.length : Int) <= 1000 := by omega
 obtain ⟨i0,hi,hz0,hz1,hz2⟩ := info_parts Tryz.infoInt;clear h;go_enter Tryz.func142,Tryz.ntmps142
 go_wp2;clear c1;go_loopw [3,4] (fun ov iv wr => ∃ k : Nat,k <= d.l.length /\ iv = .int .i64 k /\ wr.ownsRow W.heap.size 3 1 ov (d.readyTo k).length ((d.readyTo k).map nv) /\ Below W.heap.size W wr) (fun _ iv _ => d.l.length - (intOf iv).toNat)
 case atStart => exact ⟨0,Nat.zero_le _,rfl,World.ownsRow_nil _ _ _ _,Below.refl _ _⟩
 case round =>
  obtain ⟨k,hk,rfl,hO,hB⟩ := hrel;have HO := hid1 hO;clear hO;have hM := HH.out.below hB;have c1 := hM.c1;have k0 : (0 : Int) <= (k : Int) := by omega
  by_cases hlt : k < d.l.length
  ·have k1 : (k : Int) < (d.l.length : Int) := by omega
   have HC := hid1 (HN.out wr hB k hlt);have HS := hid1 (Bf.readyTo_succ d k);have hrl := Bf.readyTo_len d k;clear hM;cases hr : d.isReady k with
   | false =>
    rw [hr] at HC HS;go_wp2_with fail;refine HC.out.mono ?_;rintro e w1 ⟨rfl,g1⟩;have hB1 := Zab hB g1;have HO1 := hid1 (Zap HO.out g1);clear HC g1;go_wp2;exact ⟨⟨k + 1,by omega,by go_num,by rw [HS.out];simpa using HO1.out,hB1⟩,by simp [intOf];omega⟩
   | true =>
    rw [hr] at HC HS;go_wp2_with fail;refine HC.out.mono ?_;rintro e w1 ⟨rfl,g1⟩;have hB1 := Zab hB g1;have hrow := Zap HO.out g1;have hml : (d.readyTo k).length + 1 <= maxLen := by unfold maxLen;omega
    have hbz := hB1.size;clear HC g1;go_wp2_with (first
     | (at_builtin;refine wpList_append_own _ rfl _ _ 68 rfl W.heap.size 3 i0 (.int .i64 0) 1 8 Tryz.underlying68 hi hz0 hz1 hz2 rfl (by decide) _ _ _ rfl (hrow.alloc _) ⟨w1.heap.size,0,none⟩ 1 1 [nv k] rfl rfl (cell_one_new _ _ _) (by simp [Value.oneCell']) hml (by omega) (by simp;omega) ?_;intro v' w4 hown' hgrow _)
     | fail)
    exact ⟨⟨k + 1,by omega,by go_num,by rw [HS.out,if_pos trivial,List.length_append,List.map_append];exact hown',Zak hB1 hbz hrow hgrow⟩,by simp [intOf];omega⟩
  ·have k1 : (d.l.length : Int) <= (k : Int) := by omega
   obtain rfl : k = d.l.length := by omega
   clear hM;go_wp2;go_ret;exact ⟨_,rfl,HO.out,hB⟩
end Go.Proofs.YtbgkfmodbofalaaGreatDoor
namespace Go.Proofs.YtbgkfmodbofalaaGreatDoor
open Go.RowKit Go.Shelf Go.Lib
abbrev FailO (gs gw : Nat) (W w : World) : Prop := Only (fun j => j = gs \/ j = gw) W w
theorem FailO.drew {gs gw : Nat} {W w : World} (h : FailO gs gw W w) (q : Nat) : FailO gs gw W (w.drewN q) := ⟨h.os,h.tape,h.output,h.size,h.block⟩
theorem FailO.set {gs gw : Nat} {W w : World} (h : FailO gs gw W w) (i : Nat) (v : Value) : FailO gs gw W (w.setCell ⟨gs,i,none⟩ v) :=
 ⟨h.os,h.tape,h.output,by rw [Zaj];exact h.size,fun j hj hn => (Below.heap_setCell w ⟨gs,i,none⟩ v j (fun e => hn (.inl e))).trans (h.block j hj hn)⟩
theorem MBr.drew {w0 W : World} {mb tb : Nat} {tv lv cv : Value} {gs go gh gw : Nat} {l : List Ru} {fs : Tf.Fs} {vS vO vH vW : Nat -> Value} (h : MBr w0 W mb tb tv lv cv gs go gh gw l fs vS vO vH vW) (q : Nat) : MBr w0 (W.drewN q) mb tb tv lv cv gs go gh gw l fs vS vO vH vW :=
 h.same (Zad h.base q) (Nat.le_refl _) fun _ _ => rfl
theorem Zda {w0 W : World} {mb tb : Nat} {tv lv cv : Value} {gs go gh gw : Nat} {d : Bf.Bd} (h : MB w0 W mb tb tv lv cv gs go gh gw d) (hn : d.l.length <= 1000) (hI : ∀ x ∈ d.l,x.ins.length <= 1000000) (i c : Nat) (hi : i < d.l.length) (hst : d.st i = .waits) :
  Calls Tryz.prog 138 #[.pointer (some ⟨mb,0,none⟩),.int .i64 i,.int .i64 c] W fun e w' => e = .returned (.tuple #[]) /\ MB w0 w' mb tb tv lv cv gs go gh gw (d.fail i c) /\ FailO gs gw W w' := by
 obtain ⟨p,cap,rfl,-⟩ := h.row;have c1 := h.c1;have c2 := h.c2;have c5 := h.c5;have i0 : (0 : Int) <= (i : Int) := by omega
 have i1 : (i : Int) < (d.l.length : Int) := by omega
 have zn : (d.l.length : Int) <= 1000 := by omega
 have cs := (h.rs.2 i hi);have cs1 := cs.1;have cs2 := cs.2;have m1 := h.setS hi (.string ⟨#[102,97,105,108,101,100]⟩);have m2 := m1.setW hi (.int .i64 (c : Nat));have d5 := m1.c5;have cw := (m1.rw.2 i hi);have cw1 := cw.1;have cw2 := cw.2;have o2 : FailO gs gw W ((W.setCell ⟨gs,i,none⟩ (.string ⟨#[102,97,105,108,101,100]⟩)).setCell ⟨gw,i,none⟩ (.int .i64 (c : Nat))) := by
  refine ⟨rfl,rfl,rfl,by rw [Zaj,Zaj];exact Nat.le_refl _,fun j hj hs => ?_⟩
  exact (Below.heap_setCell _ ⟨gw,i,none⟩ _ j (fun e => hs (.inr e))).trans (Below.heap_setCell W ⟨gs,i,none⟩ _ j (fun e => hs (.inl e)))
 have M2 : Hid (MBr w0 ((W.setCell ⟨gs,i,none⟩ (.string ⟨#[102,97,105,108,101,100]⟩)).setCell ⟨gw,i,none⟩ (.int .i64 (c : Nat))) mb tb tv (.slice p d.l.length cap) cv gs go gh gw d.l d.fs (nameV (Bf.setS d.st i (.failed c))) (outV (Bf.setS d.st i (.failed c))) (hitV (Bf.setS d.st i (.failed c))) (whyV (Bf.setS d.st i (.failed c)))) := hid1 (by
  rw [<- Zdj,Zxt (by rw [hst];rfl),Zla (by rw [hst];rfl),<- Zyy]
  exact m2)
 have HO2 := hid1 o2;have HF : Hid (∀ cur,(∀ k,cur k = Bf.spread d.l (Bf.setS d.st i (.failed c)) k) -> ∀ V,MBr w0 V mb tb tv (.slice p d.l.length cap) cv gs go gh gw d.l d.fs (nameV cur) (outV (Bf.setS d.st i (.failed c))) (hitV (Bf.setS d.st i (.failed c))) (whyV (Bf.setS d.st i (.failed c))) -> MB w0 V mb tb tv (.slice p d.l.length cap) cv gs go gh gw (d.fail i c)) := hid1 fun cur hc V hV => by
  have e0 : cur = (d.fail i c).st := funext hc;have keep : ∀ k,((d.fail i c).st k).out = (Bf.setS d.st i (.failed c) k).out /\ ((d.fail i c).st k).hit = (Bf.setS d.st i (.failed c) k).hit /\ ((d.fail i c).st k).why = (Bf.setS d.st i (.failed c) k).why := fun k => by
   show (Bf.spread d.l (Bf.setS d.st i (.failed c)) k).out = _ /\ (Bf.spread d.l (Bf.setS d.st i (.failed c)) k).hit = _ /\ (Bf.spread d.l (Bf.setS d.st i (.failed c)) k).why = _
   unfold Bf.spread;split
   ·rename_i hx
    rw [Bf.St.waits_eq hx.1];exact ⟨rfl,rfl,rfl⟩
   ·exact ⟨rfl,rfl,rfl⟩
  have e1 : outV (d.fail i c).st = outV (Bf.setS d.st i (.failed c)) := funext fun k => by unfold outV;rw [(keep k).1]
  have e2 : hitV (d.fail i c).st = hitV (Bf.setS d.st i (.failed c)) := funext fun k => by unfold hitV;rw [(keep k).2.1]
  have e3 : whyV (d.fail i c).st = whyV (Bf.setS d.st i (.failed c)) := funext fun k => by unfold whyV;rw [(keep k).2.2]
  show MBr w0 V mb tb tv (.slice p d.l.length cap) cv gs go gh gw d.l d.fs (nameV (d.fail i c).st) (outV (d.fail i c).st) (hitV (d.fail i c).st) (whyV (d.fail i c).st)
  rw [e1,e2,e3,<- e0];exact hV
 have hs0 : (Bf.setS d.st i (.failed c) i).isWaits = false := by rw [Bf.setS_same];rfl
 clear h cs cw m1 m2 o2 hst;generalize Bf.setS d.st i (.failed c) = s0 at *;have HRE : Hid (∀ cur,Bf.Round d.l s0 cur d.l.length -> ∀ k,cur k = Bf.spread d.l s0 k) := hid1 fun cur hr => hr.end hi hs0
 clear hs0;go_enter Tryz.func138,Tryz.ntmps138
 go_wp2;clear cs1 cs2 cw1 cw2 d5 c1 c2 c5;generalize hWW : (W.setCell ⟨gs,i,none⟩ (.string ⟨#[102,97,105,108,101,100]⟩)).setCell ⟨gw,i,none⟩ (.int .i64 (c : Nat)) = W2 at *;clear hWW
 go_loopw [6] (fun rv wr => ∃ (r : Nat) (cur : Nat -> Bf.St),r <= d.l.length /\ rv = .int .i64 r /\ Bf.Round d.l s0 cur r /\ MBr w0 wr mb tb tv (.slice p d.l.length cap) cv gs go gh gw d.l d.fs (nameV cur) (outV s0) (hitV s0) (whyV s0) /\ FailO gs gw W wr) (fun rv _ => d.l.length - (intOf rv).toNat)
 case atStart => exact ⟨0,s0,Nat.zero_le _,rfl,Bf.Round.start _ _,M2.out,HO2.out⟩
 case round =>
  clear M2 HO2;obtain ⟨r,cur,hr,rfl,hR,hM,hO⟩ := hrel;have c1 := hM.c1;have r0 : (0 : Int) <= (r : Int) := by omega
  by_cases hrl : r < d.l.length
  ·have r1 : (r : Int) < (d.l.length : Int) := by omega
   have HM0 := hid1 hM;have HO0 := hid1 hO;have HR0 := hid1 hR;clear hM hO hR;go_wp2;clear c1;generalize wr = wa at *
   go_loopw [7] (fun kv wr => ∃ (k : Nat) (cu : Nat -> Bf.St),k <= d.l.length /\ kv = .int .i64 k /\ Bf.Sweep d.l s0 cur cu k 0 /\ MBr w0 wr mb tb tv (.slice p d.l.length cap) cv gs go gh gw d.l d.fs (nameV cu) (outV s0) (hitV s0) (whyV s0) /\ FailO gs gw W wr) (fun kv _ => d.l.length - (intOf kv).toNat)
   case atStart => exact ⟨0,cur,Nat.zero_le _,rfl,Bf.Sweep.start HR0.out.mid,HM0.out,HO0.out⟩
   case round =>
    clear HM0 HO0;obtain ⟨k,cu,hk,rfl,hSw,hM,hO⟩ := hrel;have c1 := hM.c1;have k0 : (0 : Int) <= (k : Int) := by omega
    by_cases hkl : k < d.l.length
    ·have k1 : (k : Int) < (d.l.length : Int) := by omega
     have HM1 := hid1 hM;have HO1 := hid1 hO;have HS1 := hid1 hSw;clear hM hO hSw;go_wp2;clear c1;generalize wr = wb at *
     go_loopw [8] (fun jv wr => ∃ (j : Nat) (cv' : Nat -> Bf.St),j <= d.l.length /\ jv = .int .i64 j /\ Bf.Sweep d.l s0 cur cv' k j /\ MBr w0 wr mb tb tv (.slice p d.l.length cap) cv gs go gh gw d.l d.fs (nameV cv') (outV s0) (hitV s0) (whyV s0) /\ FailO gs gw W wr) (fun jv _ => d.l.length - (intOf jv).toNat)
     case atStart => exact ⟨0,cu,Nat.zero_le _,rfl,HS1.out,HM1.out,HO1.out⟩
     case round =>
      clear HM1 HO1 HS1;obtain ⟨j,x,hj,rfl,hSw,hM,hO⟩ := hrel;have c1 := hM.c1;have c2 := hM.c2;have j0 : (0 : Int) <= (j : Int) := by omega
      by_cases hjl : j < d.l.length
      ·have j1 : (j : Int) < (d.l.length : Int) := by omega
       have cj := (hM.rs.2 j hjl).1;have ck := (hM.rs.2 k hkl).1;have fk := (hM.rs.2 k hkl).2;have HC := hid1 (Zbf (.slice p d.l.length cap) d.l hM.row hI k j hkl hjl);have q1 := Bf.St.name_failed (x j);have q2 := Bf.St.name_left (x j);have q3 := Bf.St.name_waits (x k);have HB : Hid ((x j).isBad = ((x j).isFailed || (x j).isLeft)) := hid1 (Bf.St.bad_eq (x j))
       have HM := hid1 hM;have HO := hid1 hO;have HS := hid1 hSw;clear hM hO hSw;cases hf : (x j).isFailed with
       | true =>
        rw [hf] at q1 HB;clear q2;have hbd : (x j).isBad = true := by rw [HB.out];rfl
        have HBD := hid1 hbd;clear hbd HB;cases hw : (x k).isWaits with
        | false =>
         rw [hw] at q3;have HQ := hid1 (HS.out.miss (by rw [hw];rfl))
         clear HC HS;go_wp2;exact ⟨⟨j + 1,x,by omega,by go_num,HQ.out,HM.out,HO.out⟩,by simp [intOf];omega⟩
        | true =>
         have HW := hid1 hw;rw [hw] at q3;cases hnd : Ru.needs d.l k j with
         | false =>
          have HQ := hid1 (HS.out.miss (by rw [hnd];simp))
          rw [hnd] at HC;clear HS;go_wp2_with fail;refine HC.out.mono ?_;rintro e w1 ⟨rfl,q,rfl⟩;clear HC;go_wp2;exact ⟨⟨j + 1,x,by omega,by go_num,HQ.out,HM.out.drew q,HO.out.drew q⟩,by simp [intOf];omega⟩
         | true =>
          have HQ := hid1 (HS.out.hit hw HBD.out hnd);have HM4 := hid1 fun q => (HM.out.drew q).setS hkl (.string (ba Bf.St.left.name))
          have HO4 := hid1 fun q => (HO.out.drew q).set k (.string (ba Bf.St.left.name))
          rw [Zdj] at HM4;rw [hnd] at HC;clear HS;go_wp2_with fail;refine HC.out.mono ?_;rintro e w1 ⟨rfl,q,rfl⟩;clear HC;go_wp2;exact ⟨⟨j + 1,_,by omega,by go_num,HQ.out,HM4.out q,HO4.out q⟩,by simp [intOf];omega⟩
       | false =>
        cases hlf : (x j).isLeft with
        | true =>
         rw [hf] at q1;rw [hf,hlf] at HB;rw [hlf] at q2;have hbd : (x j).isBad = true := by rw [HB.out];rfl
         have HBD := hid1 hbd;clear hbd HB;cases hw : (x k).isWaits with
         | false =>
          rw [hw] at q3;have HQ := hid1 (HS.out.miss (by rw [hw];rfl))
          clear HC HS;go_wp2;exact ⟨⟨j + 1,x,by omega,by go_num,HQ.out,HM.out,HO.out⟩,by simp [intOf];omega⟩
         | true =>
          have HW := hid1 hw;rw [hw] at q3;cases hnd : Ru.needs d.l k j with
          | false =>
           have HQ := hid1 (HS.out.miss (by rw [hnd];simp))
           rw [hnd] at HC;clear HS;go_wp2_with fail;refine HC.out.mono ?_;rintro e w1 ⟨rfl,q,rfl⟩;clear HC;go_wp2;exact ⟨⟨j + 1,x,by omega,by go_num,HQ.out,HM.out.drew q,HO.out.drew q⟩,by simp [intOf];omega⟩
          | true =>
           have HQ := hid1 (HS.out.hit hw HBD.out hnd);have HM4 := hid1 fun q => (HM.out.drew q).setS hkl (.string (ba Bf.St.left.name))
           have HO4 := hid1 fun q => (HO.out.drew q).set k (.string (ba Bf.St.left.name))
           rw [Zdj] at HM4;rw [hnd] at HC;clear HS;go_wp2_with fail;refine HC.out.mono ?_;rintro e w1 ⟨rfl,q,rfl⟩;clear HC;go_wp2;exact ⟨⟨j + 1,_,by omega,by go_num,HQ.out,HM4.out q,HO4.out q⟩,by simp [intOf];omega⟩
        | false =>
         rw [hf] at q1;rw [hf,hlf] at HB;rw [hlf] at q2;cases hw : (x k).isWaits with
         | false =>
          rw [hw] at q3;have HQ := hid1 (HS.out.miss (by rw [hw];rfl))
          clear HC HS;go_wp2;exact ⟨⟨j + 1,x,by omega,by go_num,HQ.out,HM.out,HO.out⟩,by simp [intOf];omega⟩
         | true =>
          rw [hw] at q3;have HQ := hid1 (HS.out.miss (by rw [hw,HB.out];rfl))
          clear HC HS;go_wp2;exact ⟨⟨j + 1,x,by omega,by go_num,HQ.out,HM.out,HO.out⟩,by simp [intOf];omega⟩
      ·have j1 : (d.l.length : Int) <= (j : Int) := by omega
       obtain rfl : j = d.l.length := by omega
       have HM := hid1 hM;have HO := hid1 hO;have HS := hid1 hSw;clear hM hO hSw c2;go_wp2;exact ⟨⟨k + 1,x,by omega,by go_num,HS.out.row,HM.out,HO.out⟩,by simp [intOf];omega⟩
    ·have k1 : (d.l.length : Int) <= (k : Int) := by omega
     obtain rfl : k = d.l.length := by omega
     have HM := hid1 hM;have HO := hid1 hO;have HS := hid1 hSw;clear hM hO hSw;go_wp2;exact ⟨⟨r + 1,cu,by omega,by go_num,HR0.out.next HS.out,HM.out,HO.out⟩,by simp [intOf];omega⟩
  ·have r1 : (d.l.length : Int) <= (r : Int) := by omega
   obtain rfl : r = d.l.length := by omega
   have HM := hid1 hM;have HO := hid1 hO;have HR := hid1 hR;clear hM hO hR;go_wp2;go_end0
   exact ⟨rfl,HF.out cur (HRE.out cur HR.out) _ HM.out,HO.out⟩
end Go.Proofs.YtbgkfmodbofalaaGreatDoor
namespace Go.Proofs.YtbgkfmodbofalaaGreatDoor
open Go.RowKit Go.Shelf Go.Lib
theorem Zvr {w0 W : World} {mb tb : Nat} {tv lv cv : Value} {gs go gh gw : Nat} {d : Bf.Bd} (h : MB w0 W mb tb tv lv cv gs go gh gw d) (i : Int) (hi : i < 0 \/ (d.l.length : Int) <= i) :
  Calls Tryz.prog 72 #[.pointer (some ⟨mb,0,none⟩),.int .i64 i] W fun e w' => e = .returned (.tuple #[.bool false,.int .i64 6]) /\ Below W.heap.size W w' := by
 obtain ⟨p,cap,rfl,-⟩ := h.row;have c1 := h.c1;clear h;by_cases hneg : i < 0
 ·go_enter Tryz.func72,Tryz.ntmps72
  go_wp2;go_ret2;exact ⟨rfl,Below.refl _ _⟩
 ·have i0 : 0 <= i := by omega
  have i1 : (d.l.length : Int) <= i := by omega
  go_enter Tryz.func72,Tryz.ntmps72
  go_wp2;go_ret2;exact ⟨rfl,Below.refl _ _⟩
theorem Zvs {w0 W : World} {mb tb : Nat} {tv lv cv : Value} {gs go gh gw : Nat} {d : Bf.Bd} (h : MB w0 W mb tb tv lv cv gs go gh gw d) (hn : d.l.length <= 1000) (hI : ∀ x ∈ d.l,x.ins.length <= 1000000) (i : Nat) (hi : i < d.l.length) (hr : d.isReady i = false) (act : Bf.Act) (c : Bf.Ca) :
  Calls Tryz.prog 72 #[.pointer (some ⟨mb,0,none⟩),.int .i64 i] W fun e w' => e = .returned (.tuple #[.bool (Bf.runN act c d i).hit,.int .i64 ((Bf.runN act c d i).code : Nat)]) /\ (Bf.runN act c d i).d = d /\ (Bf.runN act c d i).c = c /\ Below W.heap.size W w' := by
 have HR := hid1 (Zbv h hn hI i hi);rw [hr] at HR;obtain ⟨p,cap,rfl,-⟩ := h.row;have c1 := h.c1;have c2 := h.c2;have cs := (h.rs.2 i hi).1;have i0 : (0 : Int) <= (i : Int) := by omega
 have i1 : (i : Int) < (d.l.length : Int) := by omega
 have q1 := Bf.St.name_no (d.st i);have q2 := Bf.St.name_waits (d.st i);have q3 : (d.st i).name.isEmpty = (d.st i).isNo := by cases d.st i <;> rfl
 clear h;cases h1 : (d.st i).isNo with
 | true =>
  rw [h1] at q1 q3;have HE : Hid (Bf.runN act c d i = ⟨false,6,d,c⟩) := hid1 (by unfold Bf.runN;rw [if_pos h1])
  rw [HE.out];go_enter Tryz.func72,Tryz.ntmps72
  go_wp2;go_ret2;exact ⟨rfl,trivial,trivial,Below.refl _ _⟩
 | false =>
  rw [h1] at q1 q3;cases h2 : (d.st i).isWaits with
  | false =>
   rw [h2] at q2;have HE : Hid (Bf.runN act c d i = ⟨false,12,d,c⟩) := hid1 (by unfold Bf.runN;rw [if_neg (by rw [h1];simp),if_pos h2])
   rw [HE.out];go_enter Tryz.func72,Tryz.ntmps72
   go_wp2;go_ret2;exact ⟨rfl,trivial,trivial,Below.refl _ _⟩
  | true =>
   rw [h2] at q2;have HE : Hid (Bf.runN act c d i = ⟨false,11,d,c⟩) := hid1 (by unfold Bf.runN;rw [if_neg (by rw [h1];simp),if_neg (by rw [h2];simp),if_pos hr])
   rw [HE.out];go_enter Tryz.func72,Tryz.ntmps72
   go_wp2_with fail;refine HR.out.mono ?_;rintro e w1 ⟨rfl,g1⟩;clear HR;go_wp2;go_ret2;exact ⟨rfl,trivial,trivial,g1⟩
end Go.Proofs.YtbgkfmodbofalaaGreatDoor
