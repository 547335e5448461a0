import Derived.Test.YtbgkfmodbofalaaGreatDoorPR35
import Derived.Test.YtbgkfmodbofalaaGreatDoorPR32
set_option maxRecDepth 100000
set_option maxHeartbeats 8000000
namespace Go.Proofs.YtbgkfmodbofalaaGreatDoor
section
open Go.RowKit Go.Shelf Go.Lib Go.Maps
open Tf (Fs)
structure Both (B : Nat) (w : World) (T M : Nat) (fs : Fs) (o : Option Nat) (v : Value) : Prop where
 t : TreeAt B w T fs o
 m : RTreeAt B w M fs v
 well : Tf.Well pathB fs
 tm : T ≠ M
 om : o ≠ some M
 vt : v.ownBlock ≠ some T
 ov : ∀ j,o = some j -> v.ownBlock ≠ some j
theorem TreeAt.map_lt {B : Nat} {w : World} {tb : Nat} {fs : Fs} {o : Option Nat} (h : TreeAt B w tb fs o) {j : Nat} (e : o = some j) : j < w.heap.size := by
 subst e;exact h.isMap.2.2.lt
theorem RTreeAt.row_lt {B : Nat} {w : World} {tb : Nat} {fs : Fs} {v : Value} (h : RTreeAt B w tb fs v) {j : Nat} (e : v.ownBlock = some j) : j < w.heap.size := by
 rcases h.row.2 with ⟨rfl,_⟩ | ⟨g,cap,cur,rfl,_,hg,_⟩
 ·cases e
 ·cases e
  exact (Array.getElem?_eq_some_iff.1 hg).1
theorem Both.below {B : Nat} {w w' : World} {T M : Nat} {fs : Fs} {o : Option Nat} {v : Value} (h : Both B w T M fs o v) (hb : Below w.heap.size w w') : Both B w' T M fs o v :=
 ⟨h.t.below hb,h.m.below hb,h.well,h.tm,h.om,h.vt,h.ov⟩
structure Half (B : Nat) (w w1 : World) (T M : Nat) (fs fs' : Fs) (o o' : Option Nat) (v : Value) : Prop where
 t : TreeAt B w1 T fs' o'
 m : RTreeAt B w1 M fs v
 on : OldNew w o o'
 size : w.heap.size <= w1.heap.size
theorem Both.half {B : Nat} {w w1 : World} {T M : Nat} {fs fs' : Fs} {o o' : Option Nat} {v : Value} (h : Both B w T M fs o v) (ht : TreeAt B w1 T fs' o') (hon : OldNew w o o') (hk : Kept (tS T o) w w1) : Half B w w1 T M fs fs' o o' v :=
 ⟨ht,h.m.kept hk (fun e => e.elim (fun e => h.tm e.symm) h.om) (fun j e hs => hs.elim (fun e2 => h.vt (e2 ▸ e)) (fun e2 => h.ov j e2 e)),hon,hk.size⟩
theorem Half.both {B : Nat} {w w1 w2 : World} {T M : Nat} {fs fs' : Fs} {o o' : Option Nat} {v v' : Value} (hh : Half B w w1 T M fs fs' o o' v) (h : Both B w T M fs o v) (hm : RTreeAt B w2 M fs' v') (hon : RowON w1 v v') (hk : Kept (mS M v) w1 w2) (hw : Tf.Well pathB fs') : Both B w2 T M fs' o' v' := by
 have hM := h.m.lt;have hT := h.t.lt;have hs := hh.size;have om' : o' ≠ some M := by
  rcases hh.on with rfl | ⟨j,rfl,hj⟩
  ·exact h.om
  ·intro e
   have := Option.some.inj e;omega
 have ov1 : ∀ j,o' = some j -> v.ownBlock ≠ some j := by
  intro j e e2
  rcases hh.on with rfl | ⟨i,rfl,hi⟩
  ·exact h.ov j e e2
  ·have := Option.some.inj e;have := h.m.row_lt e2;omega
 refine ⟨hh.t.kept hk (fun e => e.elim h.tm (fun e => h.vt e)) (fun j e hs => hs.elim (fun e2 => om' (e2 ▸ e)) (fun e2 => ov1 j e e2)),hm,hw,h.tm,om',?_,?_⟩
 ·rcases hon with e | hn
  ·rw [e];exact h.vt
  ·intro e
   have := hn T e;omega
 ·intro j e
  rcases hon with e2 | hn
  ·rw [e2];exact ov1 j e
  ·intro e2
   have := hn j e2;have := hh.t.map_lt e;omega
end
section
open Go.RowKit Go.Shelf Go.Lib
open Tf (Fs)
def FIRow (w : World) (v : Value) (l : Fs) : Prop :=
 ∃ p cap,v = .slice p l.length cap /\ (l ≠ [] -> ∃ g o,p = some ⟨g,o,none⟩ /\ g < w.heap.size /\ ∀ j (hj : j < l.length),w.cell? ⟨g,o + j * 2,none⟩ = some (.string (ba l[j].1)) /\ w.cell? ⟨g,o + j * 2 + 1,none⟩ = some (.string (ba l[j].2)))
theorem FIRow.below {w w' : World} {v : Value} {l : Fs} (h : FIRow w v l) (hb : Below w.heap.size w w') : FIRow w' v l := by
 obtain ⟨p,cap,e,h1⟩ := h;refine ⟨p,cap,e,fun hl => ?_⟩
 obtain ⟨g,o,e,hg,hc⟩ := h1 hl;exact ⟨g,o,e,Nat.lt_of_lt_of_le hg hb.size,fun j hj => ⟨Zaa (hc j hj).1 hb,Zaa (hc j hj).2 hb⟩⟩
structure ShortF (l : Fs) : Prop where
 few : l.length <= 30
 path : ∀ f ∈ l,f.1.length <= 100
 bytes : ∀ f ∈ l,f.2.length <= 4000
def Tf.taken (l : Fs) : Fs := l.foldl (fun t f => Tf.putF pathB t f.1 f.2) []
theorem Tf.taken_snoc (l : Fs) (f : List UInt8 × List UInt8) : Tf.taken (l ++ [f]) = Tf.putF pathB (Tf.taken l) f.1 f.2 := by simp [Tf.taken]
theorem Tf.putF_mem {fs : Fs} {p b : List UInt8} {f : List UInt8 × List UInt8} (h : f ∈ Tf.putF pathB fs p b) : f ∈ fs \/ f = (p,b) := by
 unfold Tf.putF at h;split at h
 ·rcases Tf.mem_put.1 h with h1 | h1
  ·exact .inr h1
  ·exact .inl h1.1
 ·exact .inl h
theorem Tf.taken_mem : ∀ (l : Fs) (f : List UInt8 × List UInt8),f ∈ Tf.taken l -> f ∈ l := by
 have key : ∀ (l t : Fs) (f : List UInt8 × List UInt8),f ∈ l.foldl (fun t f => Tf.putF pathB t f.1 f.2) t -> f ∈ t \/ f ∈ l := by
  intro l
  induction l with
  | nil => intro t f h;exact .inl h
  | cons x r ih =>
   intro t f h
   rcases ih _ f h with h1 | h1
   ·rcases Tf.putF_mem h1 with h2 | h2
    ·exact .inl h2
    ·exact .inr (by rw [h2];simp)
   ·exact .inr (List.mem_cons_of_mem _ h1)
 intro l f h
 rcases key l [] f h with h1 | h1
 ·cases h1
 ·exact h1
theorem Tf.putF_len (fs : Fs) (p b : List UInt8) : (Tf.putF pathB fs p b).length <= fs.length + 1 := by
 unfold Tf.putF;split
 ·unfold Tf.put;rw [Tf.length_ins];have := Tf.length_del_le fs p;omega
 ·omega
theorem Tf.taken_len : ∀ (l : Fs),(Tf.taken l).length <= l.length := by
 have key : ∀ (l t : Fs),(l.foldl (fun t f => Tf.putF pathB t f.1 f.2) t).length <= t.length + l.length := by
  intro l
  induction l with
  | nil => intro t;simp
  | cons x r ih =>
   intro t
   have h1 := ih (Tf.putF pathB t x.1 x.2);have h2 := Tf.putF_len t x.1 x.2;simp only [List.foldl_cons,List.length_cons];omega
 intro l
 have := key l [];simpa [Tf.taken] using this
end
section
open Go.RowKit Go.Shelf Go.Lib
theorem Zlw {w : World} (v : Value) (l : List Ru) (many : Nat) (hmany : many <= 40) (hrow : RRow w v l) :
  Calls Tryz.prog 41 #[v,.int .i64 many] w fun e w' => ∃ r : Int,e = .returned (.int .i64 r) /\ w' = w /\ (r = 1 \/ (r = 0 /\ (l.length <= many \/ l.length = 41) /\ ∀ x ∈ l,x.Small)) := by
 obtain ⟨p,cap,rfl,hcap,hnn,hin⟩ := hrow;have HI := hid1 hin;clear hin hnn;have zM : (many : Int) <= 40 := by omega
 by_cases hm : l.length <= many \/ l.length = 41
 ·have HM := hid1 hm;have hm' : (l.length : Int) <= (many : Int) \/ ((many : Int) < (l.length : Int) /\ ((l.length : Int) != 41) = false) := by
   rcases hm with h | h
   ·exact .inl (by omega)
   ·exact .inr ⟨by omega,by simp [h]⟩
  have hl : l.length <= 41 := by omega
  have zl : (l.length : Int) <= 41 := by omega
  clear hm;rcases hm' with hm' | ⟨hm',hm2⟩
  all_goals
   go_enter Tryz.func41,Tryz.ntmps41
   go_wp2;go_loopw [5] (fun i wr => ∃ k : Nat,k <= l.length /\ i = .int .i64 k /\ (∀ j (hj : j < l.length),j < k -> l[j].Small) /\ w = wr) (fun i _ => l.length - (intOf i).toNat)
   case atStart => exact ⟨0,Nat.zero_le _,rfl,fun j hj h => by omega,rfl⟩
   case round =>
    obtain ⟨k,hk,rfl,hz,rfl⟩ := hrel;have HZ := hid1 hz;clear hz;have c0 : (0 : Int) <= (k : Int) := by omega
    by_cases hlt : k < l.length
    ·have c1 : (k : Int) < (l.length : Int) := by omega
     obtain ⟨g',o,rfl,hg,hcur⟩ := HI.out (by intro e;rw [e] at hlt;simp at hlt)
     obtain ⟨u0,u1,u2,u,u3,ux⟩ := hcur k hlt;have HT := hid1 (Zfh u l[k].ins 12 300 (by omega) (by omega) ux.irow)
     have HN : Hid (l[k].Small -> ∀ j (hj : j < l.length),j < k + 1 -> l[j].Small) := hid1 fun hs j hj hjk => by
      rcases Nat.lt_or_ge j k with h | h
      ·exact HZ.out j hj h
      ·obtain rfl : j = k := by omega
       exact hs
     have HU := hid1 ux;clear hcur HI HZ ux;generalize l[k] = y at *;obtain ⟨p3,cap3,rfl,_⟩ := HU.out;by_cases h1 : 100 < y.out.length
     ·have z1 : (100 : Int) < (y.out.length : Int) := by omega
      clear HT HN;go_wp2;go_ret;exact ⟨1,rfl,rfl,.inl rfl⟩
     by_cases h2 : 60 < y.kind.length
     ·have z1 : (y.out.length : Int) <= (100 : Int) := by omega
      have z2 : (60 : Int) < (y.kind.length : Int) := by omega
      clear HT HN;go_wp2;go_ret;exact ⟨1,rfl,rfl,.inl rfl⟩
     by_cases h3 : 150 < y.word.length
     ·have z1 : (y.out.length : Int) <= (100 : Int) := by omega
      have z2 : (y.kind.length : Int) <= (60 : Int) := by omega
      have z3 : (150 : Int) < (y.word.length : Int) := by omega
      clear HT HN;go_wp2;go_ret;exact ⟨1,rfl,rfl,.inl rfl⟩
     have z1 : (y.out.length : Int) <= (100 : Int) := by omega
     have z2 : (y.kind.length : Int) <= (60 : Int) := by omega
     have z3 : (y.word.length : Int) <= (150 : Int) := by omega
     go_wp2_with fail;refine HT.out.mono ?_;rintro e w1 ⟨r,rfl,rfl,rfl | ⟨rfl,hy1,hy2⟩⟩
     ·clear HT HN;go_wp2;go_ret;exact ⟨1,rfl,rfl,.inl rfl⟩
     ·have HNN := hid1 (HN.out ⟨by omega,by omega,by omega,hy1,hy2⟩)
      clear HT HN hy2;go_wp2;exact ⟨⟨k + 1,by omega,by go_num,HNN.out,trivial⟩,by simp [intOf];omega⟩
    ·have c1 : (l.length : Int) <= (k : Int) := by omega
     have HN : Hid (∀ x ∈ l,x.Small) := hid1 fun x hx => by
      obtain ⟨j,hj,rfl⟩ := List.getElem_of_mem hx;exact HZ.out j hj (by omega)
     clear HI HZ;go_wp2;go_ret;exact ⟨0,rfl,rfl,.inr ⟨rfl,HM.out,HN.out⟩⟩
 ·have z1 : (many : Int) < (l.length : Int) := by omega
  have z2 : ((l.length : Int) != 41) = true := by simp;omega
  clear hm HI;go_enter Tryz.func41,Tryz.ntmps41
  go_wp2;go_ret;exact ⟨1,rfl,rfl,.inl rfl⟩
end
section
open Go.RowKit Go.Shelf Go.Lib
theorem Tryz.infoRule : (Tryz.prog.info? 90).map (fun i => (i.zero,i.size,i.bytes)) = some (some (.agg #[.string ⟨#[]⟩,.string ⟨#[]⟩,.string ⟨#[]⟩,.slice none 0 0]),4,72) := by kernel_rfl
theorem Zxm {w : World} {base : Nat} {e : TypeId} {size : Nat} {v : Value} {n : Nat} {xs : List Value} (h : w.ownsRow base e size v n xs) : ∀ k,v.ownBlock = some k -> base <= k := by
 intro k hk
 rcases h.2 with ⟨rfl,_⟩ | ⟨g,cap,cur,rfl,hb,_⟩
 ·cases hk
 ·cases hk;exact hb
def Zaw (l : List (Ru × Value)) : List Value := l.flatMap fun x => [.string (ba x.1.out),.string (ba x.1.kind),.string (ba x.1.word),x.2]
theorem Zmh (l : List (Ru × Value)) (x : Ru × Value) : Zaw (l ++ [x]) = Zaw l ++ [.string (ba x.1.out),.string (ba x.1.kind),.string (ba x.1.word),x.2] := by simp [Zaw]
theorem Zjm : ∀ (l : List (Ru × Value)) (j : Nat) (h : j < l.length),(Zaw l)[j * 4]? = some (.string (ba l[j].1.out)) /\ (Zaw l)[j * 4 + 1]? = some (.string (ba l[j].1.kind)) /\ (Zaw l)[j * 4 + 2]? = some (.string (ba l[j].1.word)) /\ (Zaw l)[j * 4 + 3]? = some l[j].2
 | x :: r,0,_ => by simp [Zaw]
 | x :: r,j + 1,h => by
  have ih := Zjm r j (by simpa using h)
  have e : Zaw (x :: r) = .string (ba x.1.out) :: .string (ba x.1.kind) :: .string (ba x.1.word) :: x.2 :: Zaw r := by simp [Zaw]
  rw [e,show (j + 1) * 4 = j * 4 + 1 + 1 + 1 + 1 by omega]
  simpa [Nat.add_assoc] using ih
def XT (w : World) (v : Value) (l : List (List UInt8)) : Prop := XRow w v l /\ TRow w v l
theorem XT.below {w w' : World} {v : Value} {l : List (List UInt8)} (h : XT w v l) (hb : Below w.heap.size w w') : XT w' v l := ⟨h.1.below hb,h.2.below hb⟩
theorem XT.grown {w w1 : World} {v : Value} {l : List (List UInt8)} {base e : Nat} {size n : Nat} {u : Value} {xs : List Value} (h : XT w v l) (hrow : w.ownsRow base e size u n xs) (he : e ≠ 9) (hg : w.grownBy w1 u.ownBlock) : XT w1 v l := by
 obtain ⟨⟨p,cap,rfl,h0,hn,h1⟩,⟨p2,cap2,e2,h02,h2⟩⟩ := h;obtain ⟨rfl,rfl⟩ : p = p2 /\ cap = cap2 := by simpa using e2
 have key : ∀ (g : Nat) (cur : Array Value),w.heap[g]? = some (Obj.cells cur 9 (0,0)) -> w1.heap[g]? = some (Obj.cells cur 9 (0,0)) := fun g cur hgc => by
  refine (hg.block g (Array.getElem?_eq_some_iff.1 hgc).1 ?_).trans hgc
  rcases hrow.2 with ⟨rfl,_⟩ | ⟨b,c,cu,rfl,_,hb,_⟩
  ·simp [Value.ownBlock]
  ·simp only [Value.ownBlock,ne_eq,Option.some.injEq];rintro rfl;rw [hgc] at hb;simp at hb;exact he hb.2.symm
 refine ⟨⟨p,cap,rfl,h0,hn,fun hl => ?_⟩,⟨p,cap,rfl,h02,fun hl => ?_⟩⟩
 ·obtain ⟨g,cur,rfl,hgc,hc⟩ := h2 hl;have := key g cur hgc;exact ⟨g,0,rfl,(Array.getElem?_eq_some_iff.1 this).1,fun j hj => by rw [Nat.zero_add];exact Zac this (hc j hj)⟩
 ·obtain ⟨g,cur,rfl,hgc,hc⟩ := h2 hl;exact ⟨g,cur,rfl,key g cur hgc,hc⟩
theorem RRow.of_owns {w : World} {base : Nat} {v : Value} {l : List (Ru × Value)} {n : Nat} (h : w.ownsRow base 90 4 v n (Zaw l)) (hn : n = l.length) (hx : ∀ x ∈ l,XRow w x.2 x.1.ins) : RRow w v (l.map Prod.fst) := by
 subst hn;rcases h.2 with ⟨rfl,hn⟩ | ⟨g,cap,cur,rfl,_,hb,h1,_,_,h4⟩
 ·obtain rfl : l = [] := by simpa using hn
  exact RRow.nil w
 ·refine ⟨some ⟨g,0,none⟩,cap,by simp,by simpa using h1,fun h => (by cases h),fun _ => ⟨g,0,rfl,(Array.getElem?_eq_some_iff.1 hb).1,fun j hj => ?_⟩⟩
  have hj' : j < l.length := by simpa using hj
  have key : ∀ i x,i < l.length * 4 -> (Zaw l)[i]? = some x -> w.cell? ⟨g,i,none⟩ = some x := fun i x hi hx => by
   have := congrArg (fun y => y[i]?) h4
   simp only [List.getElem?_take,hi,if_true,hx,Array.getElem?_toList] at this
   exact Zac hb this
  obtain ⟨a0,a1,a2,a3⟩ := Zjm l j hj';rw [Nat.zero_add,List.getElem_map];exact ⟨key _ _ (by omega) a0,key _ _ (by omega) a1,key _ _ (by omega) a2,_,key _ _ (by omega) a3,hx _ (List.getElem_mem hj')⟩
theorem Zyh (W : World) (x0 x1 x2 x3 : Value) (t : TypeId) (n : Nat) (hn : W.heap.size = n) (j : Nat) (u : Value) (h : [x0,x1,x2,x3][j]? = some u) : (W.alloc (.cells #[x0,x1,x2,x3] t)).cell? ((⟨n,0,none⟩ : Addr).add j) = some u := by
 subst hn;rw [Zct,Nat.zero_add,World.cell?_alloc_at _ _ _ _ rfl];simpa using h
theorem Zjc {w : World} (v : Value) (l : List Ru) (hl : l.length <= 1000) (hrow : RRow w v l) (h12 : ∀ x ∈ l,x.ins.length <= 12) :
  Calls Tryz.prog 43 #[v] w fun e w' => ∃ v',e = .returned v' /\ RRow w' v' l /\ Below w.heap.size w w' := by
 obtain ⟨i0,hi,hz0,hz1,hz2⟩ := info_parts Tryz.infoRule;obtain ⟨p,cap,rfl,hcap,hnn,hin⟩ := hrow;have HI := hid1 hin;have H12 := hid1 h12;clear hin hnn h12;have zl : (l.length : Int) <= 1000 := by omega
 have n1 : World.ownsRow w w.heap.size 90 4 (.slice none 0 0) 0 (Zaw []) := World.ownsRow_nil _ _ _ _;go_enter Tryz.func43,Tryz.ntmps43
 go_wp2;go_loopw [3,4] (fun out i wr => ∃ dn : List (Ru × Value),dn.length <= l.length /\ dn.map Prod.fst = l.take dn.length /\ i = .int .i64 dn.length /\ wr.ownsRow w.heap.size 90 4 out dn.length (Zaw dn) /\ (∀ x ∈ dn,XT wr x.2 x.1.ins) /\ Below w.heap.size w wr) (fun _ i _ => l.length - (intOf i).toNat)
 case atStart => exact ⟨[],by simp,by simp,rfl,n1,by simp,Below.refl _ _⟩
 case round =>
  obtain ⟨dn,hk,hdn,rfl,hown,hxt,hB⟩ := hrel;have HD := hid1 hdn;have HXT := hid1 hxt;clear hdn hxt;have c0 : (0 : Int) <= (dn.length : Int) := by omega
  by_cases hlt : dn.length < l.length
  ·have c1 : (dn.length : Int) < (l.length : Int) := by omega
   obtain ⟨g',o,rfl,hg,hcur⟩ := HI.out (by intro e;rw [e] at hlt;simp at hlt)
   obtain ⟨a0,a1,a2,u,a3,ax⟩ := hcur dn.length hlt;have d3 := Zaa a3 hB;have HO := hid1 (Zkc u l[dn.length].ins (ax.below hB) (H12.out _ (List.getElem_mem hlt)));have HU := hid1 ax;have HDN : Hid (∀ y : Value,(dn ++ [(l[dn.length],y)]).map Prod.fst = l.take (dn.length + 1)) := hid1 fun y => by
    rw [List.map_append,HD.out,List.take_succ_eq_append_getElem hlt];rfl
   clear hcur HI HD ax;generalize l[dn.length] = y at *;obtain ⟨p3,cap3,rfl,-⟩ := HU.out;go_wp2_with fail;refine HO.out.mono ?_;rintro e w1 ⟨v1,rfl,hx1,ht1,hb1⟩;have HXT1 : Hid (∀ x ∈ dn,XT w1 x.2 x.1.ins) := hid1 fun x hx => (HXT.out x hx).below hb1
   have HX1 : Hid (XT w1 v1 y.ins) := hid1 ⟨hx1,ht1⟩;have hB1 := Zab hB hb1;have hown1 : w1.ownsRow w.heap.size 90 4 u3 dn.length (Zaw dn) := hown.kept (row := none) ⟨hb1.os,hb1.tape,hb1.output,hb1.size,fun k hk _ => hb1.block k hk⟩ (by cases u3.ownBlock <;> simp)
   have d0 := Zaa a0 hB1;have d1 := Zaa a1 hB1;have d2 := Zaa a2 hB1;obtain ⟨p4,cap4,rfl,-⟩ := hx1;clear hown HXT HO ht1 d3 a0 a1 a2 a3 hb1 hB;have hownd : w1.drew.ownsRow w.heap.size 90 4 u3 dn.length (Zaw dn) := hown1;have hsz := hB1.size;go_wp2
   go_region_law (refine step_append_lies _ rfl (.tmp 18) (.tmp 36) 66 rfl w.heap.size 90 i0 (.agg #[.string ⟨#[]⟩,.string ⟨#[]⟩,.string ⟨#[]⟩,.slice none 0 0]) 4 72 Tryz.underlying66 hi hz0 hz1 hz2 rfl (by decide) _ _ _ rfl (hownd.alloc _) ⟨w1.heap.size,0,none⟩ 1 1 [.string (ba y.out),.string (ba y.kind),.string (ba y.word),.slice p4 y.ins.length cap4] rfl rfl (Zyh _ _ _ _ _ _ _ (by simp)) (by simp [Value.oneCell']) (by decide) (by unfold maxLen;omega) (by omega) (by simp;omega) _ rfl ?_;intro g cap5 w2 hown2 hgrow0 hat hlt1;(have hgrow : (w1.alloc (Obj.cells #[Value.string (ba y.out),Value.string (ba y.kind),Value.string (ba y.word),Value.slice p4 y.ins.length cap4] 90)).drew.grownBy w2 u3.ownBlock := hgrow0);clear hgrow0 hat hlt1)
   all_goals
    go_wp2;refine ⟨⟨dn ++ [(y,.slice p4 y.ins.length cap4)],?_,?_,by simp,?_,?_,?_⟩,?_⟩
    rotate_right
    ·simp [intOf];try omega
    ·simp;try omega
    ·have := HDN.out (.slice p4 y.ins.length cap4);simpa using this
    ·rw [Zmh];simpa using hown2
    ·intro x hx
     have hXd : ∀ (v : Value) (ls : List (List UInt8)),XT w1 v ls -> XT w2 v ls := fun v ls h => by
      have hb2 : Below w1.heap.size w1 (w1.alloc (Obj.cells #[Value.string (ba y.out),Value.string (ba y.kind),Value.string (ba y.word),Value.slice p4 y.ins.length cap4] 90)).drew := ((Below.refl _ w1).alloc (Nat.le_refl _) _).drew;exact (h.below hb2).grown (hownd.alloc _) (by decide) hgrow
     rcases List.mem_append.1 hx with h | h
     ·exact hXd _ _ (HXT1.out x h)
     ·obtain rfl := List.mem_singleton.1 h;exact hXd _ _ HX1.out
    ·exact ((hB1.alloc hsz _).drew).grown hgrow (by simp;omega) (Zxm hownd)
  ·have c1 : (l.length : Int) <= (dn.length : Int) := by omega
   have HN : Hid (RRow wr u3 l) := hid1 (by
    have := RRow.of_owns hown rfl (fun x hx => (HXT.out x hx).1)
    rwa [HD.out,List.take_of_length_le (by omega)] at this)
   clear HI HD;go_wp2;go_ret;exact ⟨_,rfl,HN.out,hB⟩
end
section
namespace Bf
theorem Zrn (act : Act) : ∀ (n : Nat) (c : Ca) (d : Bd),d.waits < n -> (allF act n c d).1.ready = []
 | 0,_,_,h => by omega
 | n + 1,c,d,h => by
  unfold allF;cases hr : d.ready with
  | nil => exact hr
  | cons i r =>
   have hm := mem_ready.1 (show i ∈ d.ready by rw [hr];simp)
   have := (go_less act c d i hm.1 hm.2).1;exact Zrn act n _ _ (by omega)
end Bf
end
section
namespace Bf
noncomputable def allL (act : Act) : Nat -> Ca -> Bd -> List Nat
 | 0,_,_ => []
 | f + 1,c,d =>
  match d.ready with
  | [] => []
  | i :: _ => i :: allL act f (go act c d i).c (go act c d i).d
theorem Zic (act : Act) : ∀ (f f' : Nat) (c : Ca) (d : Bd),d.waits < f -> d.waits < f' -> allL act f c d = allL act f' c d
 | 0,_,_,_,h,_ => by omega
 | _,0,_,_,_,h => by omega
 | f + 1,f' + 1,c,d,h,h' => by
  unfold allL;cases hr : d.ready with
  | nil => rfl
  | cons i r =>
   have hm := mem_ready.1 (show i ∈ d.ready by rw [hr];simp)
   have := (go_less act c d i hm.1 hm.2).1;simp only;rw [Zic act f f' _ _ (by omega) (by omega)]
theorem allL_nil (act : Act) (c : Ca) (d : Bd) (h : d.ready = []) : allL act (d.waits + 1) c d = [] := by
 unfold allL;rw [h]
theorem allL_cons (act : Act) (c : Ca) (d : Bd) {i : Nat} {r : List Nat} (h : d.ready = i :: r) : allL act (d.waits + 1) c d = i :: allL act ((go act c d i).d.waits + 1) (go act c d i).c (go act c d i).d := by
 have hm := mem_ready.1 (show i ∈ d.ready by rw [h];simp)
 have := (go_less act c d i hm.1 hm.2).1;conv => lhs;unfold allL
 rw [h];simp only;rw [Zic act d.waits ((go act c d i).d.waits + 1) _ _ (by omega) (by omega)]
end Bf
end
section
namespace Bf
def pickAt (p : Int) (n : Nat) : Nat := if p < -9223372036854775807 then 0 else p.natAbs % n
theorem pickAt_lt {p : Int} {n : Nat} (h : 0 < n) : pickAt p n < n := by
 unfold pickAt;split
 ·exact h
 ·exact Nat.mod_lt _ h
structure Pk where
 d : Bd
 c : Ca
 xs : List Nat
noncomputable def pstep (act : Act) (s : Pk) (p : Int) : Pk :=
 if s.d.ready = [] then s else
  let k := s.d.ready.getD (pickAt p s.d.ready.length) 0
  ⟨(go act s.c s.d k).d,(go act s.c s.d k).c,s.xs ++ [k]⟩
noncomputable def picks (act : Act) (c : Ca) (d : Bd) (ps : List Int) : Pk := ps.foldl (pstep act) ⟨d,c,[]⟩
theorem picks_snoc (act : Act) (c : Ca) (d : Bd) (ps : List Int) (p : Int) : picks act c d (ps ++ [p]) = pstep act (picks act c d ps) p := by simp [picks]
theorem pstep_none {act : Act} {s : Pk} {p : Int} (h : s.d.ready = []) : pstep act s p = s := by unfold pstep;rw [if_pos h]
theorem pstep_some {act : Act} {s : Pk} {p : Int} (h : s.d.ready ≠ []) (hk : pickAt p s.d.ready.length < s.d.ready.length) : pstep act s p = ⟨(go act s.c s.d s.d.ready[pickAt p s.d.ready.length]).d,(go act s.c s.d s.d.ready[pickAt p s.d.ready.length]).c,s.xs ++ [s.d.ready[pickAt p s.d.ready.length]]⟩ := by
 unfold pstep;have e : s.d.ready.getD (pickAt p s.d.ready.length) 0 = s.d.ready[pickAt p s.d.ready.length] := by
  rw [List.getD_eq_getElem?_getD,List.getElem?_eq_getElem hk]
  rfl
 rw [if_neg h,e]
noncomputable def pickRun (act : Act) (c : Ca) (d : Bd) (ps : List Int) : Pk :=
 let s := picks act c d ps
 ⟨(all act s.c s.d).1,(all act s.c s.d).2,s.xs ++ allL act (s.d.waits + 1) s.c s.d⟩
end Bf
end
section
namespace Bf
noncomputable def fin (act : Act) (s : Pk) (ps : List Int) : Pk :=
 let t := ps.foldl (pstep act) s
 ⟨(all act t.c t.d).1,(all act t.c t.d).2,t.xs ++ allL act (t.d.waits + 1) t.c t.d⟩
theorem pickRun_fin (act : Act) (c : Ca) (d : Bd) (ps : List Int) : pickRun act c d ps = fin act ⟨d,c,[]⟩ ps := rfl
theorem Zyk (act : Act) (s : Pk) (p : Int) (ps : List Int) : fin act s (p :: ps) = fin act (pstep act s p) ps := rfl
theorem Znp {act : Act} {s : Pk} (h : s.d.ready = []) : ∀ ps : List Int,ps.foldl (pstep act) s = s
 | [] => rfl
 | p :: r => by rw [List.foldl_cons,pstep_none h];exact Znp h r
theorem fin_none {act : Act} {s : Pk} (h : s.d.ready = []) (ps : List Int) : fin act s ps = s := by
 unfold fin;simp only;rw [Znp h,all_nil act s.c s.d h,allL_nil act s.c s.d h,List.append_nil]
theorem Zpa (n : Nat) : pickAt 0 n = 0 := by unfold pickAt;simp
theorem Zzn {act : Act} {s : Pk} (h : s.d.ready ≠ []) : fin act s [] = fin act (pstep act s 0) [] := by
 obtain ⟨i,r,hr⟩ := List.exists_cons_of_ne_nil h;have e : pstep act s 0 = ⟨(go act s.c s.d i).d,(go act s.c s.d i).c,s.xs ++ [i]⟩ := by
  unfold pstep;rw [if_neg h,Zpa,hr];rfl
 rw [e];unfold fin;simp only [List.foldl_nil];rw [all_cons act s.c s.d hr,allL_cons act s.c s.d hr,List.append_assoc];rfl
theorem allL_len (act : Act) : ∀ (f : Nat) (c : Ca) (d : Bd),(allL act f c d).length <= d.waits
 | 0,_,_ => by simp [allL]
 | f + 1,c,d => by
  unfold allL;cases hr : d.ready with
  | nil => simp
  | cons i r =>
   have hm := mem_ready.1 (show i ∈ d.ready by rw [hr];simp)
   have h1 := (go_less act c d i hm.1 hm.2).1;have h2 := allL_len act f (go act c d i).c (go act c d i).d;simp only [List.length_cons];omega
def turn (ps : List Int) (j : Nat) : Int := ps.getD j 0
theorem fin_turn {act : Act} {s : Pk} (h : s.d.ready ≠ []) (ps : List Int) (j : Nat) : fin act s (ps.drop j) = fin act (pstep act s (turn ps j)) (ps.drop (j + 1)) := by
 unfold turn;by_cases hj : j < ps.length
 ·rw [List.drop_eq_getElem_cons hj,Zyk,List.getD_eq_getElem?_getD,List.getElem?_eq_getElem hj]
  rfl
 ·rw [List.drop_eq_nil_of_le (by omega),List.drop_eq_nil_of_le (by omega),List.getD_eq_getElem?_getD,List.getElem?_eq_none (by omega)]
  exact Zzn h
end Bf
end
section
open Go.RowKit
def Bf.twice (xs ys : List Nat) (i k : Nat) : Nat := (xs.take i).count k + (ys.take i).count k
theorem ZRow.below {w w' : World} {v : Value} {l : List Int} (h : ZRow w v l) (hb : Below w.heap.size w w') : ZRow w' v l := by
 obtain ⟨p,cap,e,h1⟩ := h;refine ⟨p,cap,e,fun hl => ?_⟩
 obtain ⟨g,o,e,hg,hc⟩ := h1 hl;exact ⟨g,o,e,Nat.lt_of_lt_of_le hg hb.size,fun j hj => Zaa (hc j hj) hb⟩
theorem ZRow.old {w : World} {v : Value} {l : List Int} (h : ZRow w v l) (hl : l ≠ []) {g o n c : Nat} (e : v = .slice (some ⟨g,o,none⟩) n c) : g < w.heap.size := by
 obtain ⟨p,cap,e',h1⟩ := h;obtain ⟨g',o',rfl,hg,-⟩ := h1 hl;rw [e] at e';simp only [Value.slice.injEq,Option.some.injEq,Addr.mk.injEq] at e';omega
end
section
open Go.RowKit Go.Shelf Go.Lib
namespace Bf
def size (p : Int) : Nat := if p < -9223372036854775807 then 0 else p.natAbs
end Bf
theorem Zpd (p : Int) (h0 : -9223372036854775808 <= p) (h1 : p <= 9223372036854775807) (w : World) : Calls Tryz.prog 199 #[.int .i64 p] w fun e w' => e = .returned (.int .i64 (Bf.size p : Nat)) /\ w' = w := by
 by_cases c : p < -9223372036854775807
 ·obtain rfl : p = -9223372036854775808 := by omega
  have hw : wrap64 9223372036854775808 = -9223372036854775808 := by kernel_rfl
  go_enter Tryz.func199,Tryz.ntmps199
  go_wp2;go_ret;exact ⟨rfl,rfl⟩
 ·have e : (Bf.size p : Int) = p.natAbs := by unfold Bf.size;rw [if_neg c]
  rw [e];by_cases d : p < 0
  ·have e2 : (p.natAbs : Int) = -p := by omega
   rw [e2];have d1 : p <= -p := by omega
   have d2 : (0 : Int) <= -p := by omega
   clear e e2;go_enter Tryz.func199,Tryz.ntmps199
   go_wp2;go_ret;exact ⟨rfl,rfl⟩
  ·have e2 : (p.natAbs : Int) = p := by omega
   rw [e2];have d1 : -p <= p := by omega
   have d2 : (0 : Int) <= p := by omega
   clear e e2;go_enter Tryz.func199,Tryz.ntmps199
   go_wp2;go_ret;exact ⟨rfl,rfl⟩
end
end Go.Proofs.YtbgkfmodbofalaaGreatDoor
