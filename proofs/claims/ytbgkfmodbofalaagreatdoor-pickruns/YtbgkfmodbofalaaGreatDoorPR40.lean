import Derived.Test.YtbgkfmodbofalaaGreatDoorPR36
import Derived.Orders
import Derived.Tactics
set_option maxRecDepth 100000
set_option maxHeartbeats 16000000
namespace Go.Proofs.YtbgkfmodbofalaaGreatDoor
open Go.RowKit Go.Shelf Go.Lib
open Tf (Fs)
theorem Zgf {w : World} (v : Value) (l : Fs) (hrow : FIRow w v l) :
  Calls Tryz.prog 86 #[v] w fun e w' => ∃ b,e = .returned (.bool b) /\ w' = w /\ (b = true \/ ShortF l) := by
 obtain ⟨p,cap,rfl,hin⟩ := hrow;have HI := hid1 hin;clear hin;by_cases h30 : 30 < l.length
 ·have z : (30 : Int) < (l.length : Int) := by omega
  go_enter Tryz.func86,Tryz.ntmps86
  go_wp2;go_ret;exact ⟨true,rfl,rfl,.inl rfl⟩
 ·have z : (l.length : Int) <= (30 : Int) := by omega
  go_enter Tryz.func86,Tryz.ntmps86
  go_wp2;go_loopw [3,4] (fun nv' iv wr => ∃ (k n : Nat),k <= l.length /\ iv = .int .i64 k /\ nv' = .int .i64 n /\ n <= 4000 /\ (∀ j (hj : j < l.length),j < k -> l[j].1.length <= 100 /\ l[j].2.length <= 4000) /\ w = wr) (fun _ iv _ => l.length - (intOf iv).toNat)
  case atStart => exact ⟨0,0,Nat.zero_le _,rfl,rfl,Nat.zero_le _,fun j _ h => by omega,rfl⟩
  case round =>
   obtain ⟨k,n,hk,rfl,rfl,hn,hs,rfl⟩ := hrel;have HS := hid1 hs;clear hs;have k0 : (0 : Int) <= (k : Int) := by omega
   have zn : (n : Int) <= 4000 := by omega
   have zn0 : (0 : Int) <= (n : Int) := by omega
   by_cases hlt : k < l.length
   ·have k1 : (k : Int) < (l.length : Int) := by omega
    obtain ⟨g,o,rfl,hg,hc⟩ := HI.out (by intro e;rw [e] at hlt;simp at hlt)
    have d0 := (hc k hlt).1;have d1 := (hc k hlt).2;have HNx : Hid (l[k].1.length <= 100 -> l[k].2.length <= 4000 -> ∀ j (hj : j < l.length),j < k + 1 -> l[j].1.length <= 100 /\ l[j].2.length <= 4000) := hid1 fun h1 h2 j hj hjk => by
     by_cases e : j = k
     ·subst e;exact ⟨h1,h2⟩
     ·exact HS.out j hj (by omega)
    clear hc HI HS;generalize l[k] = y at *;obtain ⟨y1,y2⟩ := y;simp only at d0 d1 HNx;by_cases h1 : 4000 < y2.length
    ·have z1 : (4000 : Int) < (y2.length : Int) := by omega
     go_wp2;go_ret;exact ⟨true,rfl,rfl,.inl rfl⟩
    ·have z1 : (y2.length : Int) <= (4000 : Int) := by omega
     by_cases h2 : 100 < y1.length
     ·have z2 : (100 : Int) < (y1.length : Int) := by omega
      go_wp2;go_ret;exact ⟨true,rfl,rfl,.inl rfl⟩
     ·have z2 : (y1.length : Int) <= (100 : Int) := by omega
      by_cases h3 : 4000 < n + y2.length
      ·have z3 : (4000 : Int) < (n : Int) + (y2.length : Int) := by omega
       go_wp2;go_ret;exact ⟨true,rfl,rfl,.inl rfl⟩
      ·have z3 : (n : Int) + (y2.length : Int) <= (4000 : Int) := by omega
       have HQ := hid1 (HNx.out (by omega) (by omega))
       clear HNx;go_wp2;exact ⟨⟨k + 1,n + y2.length,by omega,by go_num,by go_num,by omega,HQ.out,trivial⟩,by simp [intOf];omega⟩
   ·have k1 : (l.length : Int) <= (k : Int) := by omega
    have HQ : Hid (ShortF l) := hid1 ⟨by omega,fun f hf => by
     obtain ⟨j,hj,rfl⟩ := List.getElem_of_mem hf;exact (HS.out j hj (by omega)).1,fun f hf => by
     obtain ⟨j,hj,rfl⟩ := List.getElem_of_mem hf;exact (HS.out j hj (by omega)).2⟩
    clear HS HI;go_wp2;go_ret;exact ⟨false,rfl,rfl,.inr HQ.out⟩
theorem Zho {w : World} {es : Nat -> Value} (hE : TErr w es) (v : Value) (l : Fs) (hrow : FIRow w v l) (hs : ShortF l) :
  Calls Tryz.prog 87 #[v] w fun e w' => ∃ T M o u,e = .returned (.tuple #[Ptr T,Ptr M]) /\ Both w.heap.size w' T M (Tf.taken l) o u /\ Below w.heap.size w w' := by
 obtain ⟨p,cap,rfl,hin⟩ := hrow;have HI := hid1 hin;have HE := hid1 hE;have HNw := hid1 (Zok w);have HS := hid1 hs;have hfew := hs.few;have zl : (l.length : Int) <= 30 := by omega
 clear hin hE hs;go_enter Tryz.func87,Tryz.ntmps87
 go_wp2_with fail;refine HNw.out.mono ?_;rintro e w1 ⟨rfl,hT,g1⟩;have a1 : Below w1.heap.size w1 (w1.alloc (.cells #[.slice none 0 0] 38)) := (Below.refl _ w1).alloc (Nat.le_refl _) _;have hz1 : w.heap.size < w1.heap.size := hT.lt;have hT2 := hT.below a1;have hB0 : Both w.heap.size (w1.alloc (.cells #[.slice none 0 0] 38)) w.heap.size w1.heap.size (Tf.taken []) none (.slice none 0 0) :=
  ⟨hT2,⟨g1.size,by simp,by simp,World.ownsRow_nil _ _ _ _,by simp [Value.ownBlock],fun _ => rfl⟩,Tf.Well.nil _,by omega,by simp,by simp [Value.ownBlock],fun j e => by cases e⟩
 have G2 := Zab g1 a1;have HB0 := hid1 (And.intro hB0 G2);clear HNw hT g1 a1 hT2 hB0 G2;go_wp2;go_loopw [6] (fun iv wr => ∃ (k : Nat) (o : Option Nat) (u : Value),k <= l.length /\ iv = .int .i64 k /\ Both w.heap.size wr w.heap.size w1.heap.size (Tf.taken (l.take k)) o u /\ Below w.heap.size w wr) (fun iv _ => l.length - (intOf iv).toNat)
 case atStart => exact ⟨0,none,_,Nat.zero_le _,rfl,HB0.out.1,HB0.out.2⟩
 case round =>
  clear HB0;obtain ⟨k,o,u,hk,rfl,hBo,hB⟩ := hrel;have k0 : (0 : Int) <= (k : Int) := by omega
  by_cases hlt : k < l.length
  ·have k1 : (k : Int) < (l.length : Int) := by omega
   obtain ⟨g,oo,rfl,hg,hc⟩ := HI.out (by intro e;rw [e] at hlt;simp at hlt)
   have d0 := (hB.cell (p := ⟨g,oo + k * 2,none⟩) hg).trans (hc k hlt).1;have d1 := (hB.cell (p := ⟨g,oo + k * 2 + 1,none⟩) hg).trans (hc k hlt).2;have HTk : Hid (Tf.taken (l.take (k + 1)) = Tf.putF pathB (Tf.taken (l.take k)) l[k].1 l[k].2) := hid1 (by
    rw [List.take_succ_eq_append_getElem hlt,Tf.taken_snoc])
   have hp := HS.out.path _ (List.getElem_mem hlt);have hlen := Tf.taken_len (l.take k);rw [List.length_take] at hlen;have hps : ∀ f ∈ Tf.taken (l.take k),f.1.length <= 1000000 := fun f hf => by
    have := HS.out.path f (List.mem_of_mem_take (Tf.taken_mem _ f hf));omega
   have HP1 := hid1 (Ztx (w := wr.drew) (hBo.below (Zad (Below.refl _ wr) 1)).t ((HE.out.below hB).below (Zad (Below.refl _ wr) 1)) hps (by omega) l[k].1 l[k].2 (by omega))
   have HD := hid1 fun (V : World) (gV : Below w.heap.size w V) => And.intro ((gV.cell (p := ⟨g,oo + k * 2,none⟩) hg).trans (hc k hlt).1) ((gV.cell (p := ⟨g,oo + k * 2 + 1,none⟩) hg).trans (hc k hlt).2)
   clear hc;generalize l[k] = y at *;obtain ⟨y1,y2⟩ := y;simp only at d0 d1 HTk HP1 HD hp;have HBo := hid1 (hBo.below (Zad (Below.refl _ wr) 1));have hB' : Below w.heap.size w wr.drew := hB.drew;clear hBo;go_wp2;go_region_held3 (fun w' => w'.cell? ⟨g,oo + k * 2,none⟩ = some (.string (ba y1)) /\ w'.cell? ⟨g,oo + k * 2 + 1,none⟩ = some (.string (ba y2))) (first | go_keep | fail)
    (first | (go_at_call 22;refine HP1.out.mono ?_;rintro e w5 ⟨rfl,⟨o5,hon5,hT5⟩,hb5,hk5⟩;(have G5 := hB'.trans hb5);(have dd := HD.out w5 G5);(have e0 := dd.1);(have e1 := dd.2)) | fail)
   all_goals
    have hh := HBo.out.half hT5 hon5 hk5;have hdr : Below w5.heap.size w5 w5.drew := Zad (Below.refl _ w5) 1;have hh' : Half w.heap.size wr.drew w5.drew w.heap.size w1.heap.size (Tf.taken (l.take k)) (Tf.putF pathB (Tf.taken (l.take k)) y1 y2) o o5 u := ⟨hh.t.below hdr,hh.m.below hdr,hh.on,hh.size⟩;have HP2 := hid1 (Zov hh'.m HBo.out.well y1 y2 (by omega))
    have HH := hid1 hh';have G5' : Below w.heap.size w w5.drew := G5.drew;clear hh hh' hT5 hon5 hk5 hb5 hdr;go_wp2;go_region_held3 (fun w' => w'.cell? ⟨g,oo + k * 2,none⟩ = some (.string (ba y1)) /\ w'.cell? ⟨g,oo + k * 2 + 1,none⟩ = some (.string (ba y2))) (first | go_keep | fail)
     (first | (go_at_call 23;refine HP2.out.mono ?_;rintro e w6 ⟨rfl,⟨u6,hon6,hT6⟩,hb6,hk6⟩;(have G6 := G5'.trans hb6);(have dd6 := HD.out w6 G6);(have x0 := dd6.1);(have x1 := dd6.2)) | fail)
    all_goals
     have hbo := HH.out.both HBo.out hT6 hon6 hk6 (HBo.out.well.putF y1 y2);have HB6 := hid1 hbo;clear hbo hT6 hon6 hk6 hb6;go_wp2;exact ⟨⟨k + 1,o5,u6,by omega,by go_num,by rw [HTk.out];exact HB6.out,G6⟩,by simp [intOf];omega⟩
  ·have k1 : (l.length : Int) <= (k : Int) := by omega
   obtain rfl : k = l.length := by omega
   have HQ := hid1 hBo;rw [List.take_length] at HQ;clear hBo;go_wp2;go_ret2;exact ⟨_,_,o,u,rfl,HQ.out,hB⟩
end Go.Proofs.YtbgkfmodbofalaaGreatDoor
namespace Go.Proofs.YtbgkfmodbofalaaGreatDoor
open Go.RowKit Go.Shelf Go.Lib
theorem Ztp (c : Int) (w : World) : Calls Tryz.prog 91 #[.nilIface,.int .i64 c] w fun e w' => e = .returned (.bool (decide (0 = c))) /\ w' = w := by
 by_cases h : 0 = c
 ·subst h;go_enter Tryz.func91,Tryz.ntmps91
  go_wp2_with fail;refine (Zrp _).mono ?_;rintro e w' ⟨rfl,rfl⟩;go_wp2;go_ret;exact ⟨rfl,rfl⟩
 ·have hb : ((0 : Int) == c) = false := by simpa using h
  have hd : decide (0 = c) = false := by simpa using h
  rw [hd];go_enter Tryz.func91,Tryz.ntmps91
  go_wp2_with fail;refine (Zrp _).mono ?_;rintro e w' ⟨rfl,rfl⟩;go_wp2;go_ret;exact ⟨rfl,rfl⟩
theorem Zto (c : Int) (x : Addr) (es : Nat -> Addr) (cx : Array Value) (tx : TypeId) (w : World) (hE : E12 w es) (hx : w.heap[x.block]? = some (.cells cx tx (0,0))) :
  Calls Tryz.prog 91 #[.iface 407 (.pointer (some x)),.int .i64 c] w fun e w' => e = .returned (.bool (decide (codeOf es x = c))) /\ Below w.heap.size w w' := by
 have HC : Hid (Calls Tryz.prog 96 #[.iface 407 (.pointer (some x))] w fun e w' => e = .returned (.tuple #[.int .i64 (codeOf es x),.int .i64 (-1)]) /\ Below w.heap.size w w') := Zyx x es cx tx w hE hx
 generalize codeOf es x = y at *;clear hE hx;by_cases h : y = c
 ·subst h;have hd : decide (y = y) = true := by simp
  rw [hd];go_enter Tryz.func91,Tryz.ntmps91
  go_wp2_with fail;refine HC.out.mono ?_;rintro e w' ⟨rfl,hb⟩;go_wp2;go_ret;exact ⟨rfl,hb⟩
 ·have hb : (y == c) = false := by simpa using h
  have hd : decide (y = c) = false := by simpa using h
  rw [hd];go_enter Tryz.func91,Tryz.ntmps91
  go_wp2_with fail;refine HC.out.mono ?_;rintro e w' ⟨rfl,hb⟩;go_wp2;go_ret;exact ⟨rfl,hb⟩
theorem Zwr (k : Nat) (hk : k < 12) (es : Nat -> Addr) (w : World) (hE : E12 w es) :
  Calls Tryz.prog 91 #[.iface 407 (.pointer (some (es k))),.int .i64 ((k : Int) + 1)] w fun e w' => e = .returned (.bool true) /\ Below w.heap.size w w' := by
 obtain ⟨c,t,hr⟩ := hE.rows k hk;have := Zto ((k : Int) + 1) (es k) es c t w hE hr;rwa [Zwt hE k hk,show decide ((k : Int) + 1 = (k : Int) + 1) = true from decide_eq_true rfl] at this
theorem Zpz (w : World) : Calls Tryz.prog 91 #[.nilIface,.int .i64 0] w fun e w' => e = .returned (.bool true) /\ Below w.heap.size w w' :=
 (Ztp 0 w).mono fun _ _ ⟨he,hw⟩ => ⟨he,hw ▸ Below.refl _ _⟩
theorem Zws (c : Nat) (hc : c = 0 \/ ∃ k,k < 12 /\ c = k + 1) (es : Nat -> Addr) (w : World) (hE : E12 w es) :
  Calls Tryz.prog 91 #[erOf es c,.int .i64 (c : Int)] w fun e w' => e = .returned (.bool true) /\ Below w.heap.size w w' := by
 rcases hc with rfl | ⟨k,hk,rfl⟩
 ·exact Zpz w
 ·exact Zwr k hk es w hE
end Go.Proofs.YtbgkfmodbofalaaGreatDoor
namespace Go.Proofs.YtbgkfmodbofalaaGreatDoor
open Go
section
variable {P : Program} {ops : Array Oper} {Q : Exit -> Act -> World -> Prop} {md : Region.Mode}
def flags (L : Array Bool) : Nat -> Bool := fun j => L.getD j false
def setF (F : Nat -> Bool) (i : Nat) : Nat -> Bool := fun j => if j = i then true else F j
theorem Znq {L : Array Bool} {i : Nat} (hi : i < L.size) : flags (L.setIfInBounds i true) = setF (flags L) i := by
 funext j
 unfold flags setF;by_cases e : j = i
 ·subst e;rw [if_pos rfl,Array.getD_eq_getD_getElem?,Array.getElem?_setIfInBounds_self_of_lt hi];rfl
 ·rw [if_neg e,Array.getD_eq_getD_getElem?,Array.getElem?_setIfInBounds_ne (fun x => e x.symm)]
  exact (Array.getD_eq_getD_getElem? ..).symm
def unl (F : Nat -> Bool) : Nat -> Nat
 | 0 => 0
 | n + 1 => unl F n + (if F n = true then 0 else 1)
theorem Zub {F : Nat -> Bool} {i : Nat} : ∀ {n : Nat},i < n -> F i = false -> unl (setF F i) n + 1 = unl F n
 | 0,h,_ => by omega
 | n + 1,h,hf => by
  unfold unl;by_cases e : i = n
  ·subst e;have : ∀ m,m <= i -> unl (setF F i) m = unl F m := by
    intro m
    induction m with
    | zero => intro _;rfl
    | succ m ih =>
     intro hm
     unfold unl;rw [ih (by omega)]
     have : setF F i m = F m := by unfold setF;rw [if_neg (by omega)]
     rw [this]
   rw [this i (Nat.le_refl _),hf];have : setF F i i = true := by unfold setF;rw [if_pos rfl]
   rw [this];simp
  ·have ih := Zub (n := n) (by omega) hf
   have : setF F i n = F n := by unfold setF;rw [if_neg fun x => e x.symm]
   rw [this];omega
theorem Zqq {F : Nat -> Bool} : ∀ {n : Nat},unl F n = 0 -> ∀ i,i < n -> F i = true
 | 0,_,i,hi => by omega
 | n + 1,h,i,hi => by
  unfold unl at h;by_cases e : i = n
  ·subst e;cases hf : F i with
   | true => rfl
   | false => rw [hf] at h;simp at h
  ·exact Zqq (n := n) (by omega) i (by omega)
theorem Zty {n : Nat} (hn : ops.size = n) (hdag : ∀ (i : Nat) (o : Oper),ops[i]? = some o -> ∀ e ∈ o.after.toList,e.on < i) (I : (Nat -> Bool) -> Act -> World -> Prop)
  (hstep : ∀ F a w (i : Nat) (o : Oper),ops[i]? = some o -> I F a w -> F i = false -> (∀ e ∈ o.after.toList,Region.binds md e = true -> F e.on = true) -> wpOp P ops Q i (fun a' w' => I (setF F i) a' w') a w)
  (hend : ∀ F a w,I F a w -> (∀ i,i < n -> F i = true) -> Q .normal a w) :
  ∀ (fuel : Nat) (L : Array Bool) (a : Act) (w : World),L.size = n -> unl (flags L) n <= fuel -> I (flags L) a w -> wpAny P md ops Q fuel L a w := by
 have hready : ∀ (L : Array Bool),L.size = n -> Region.ready md ops L = [] -> ∀ i,i < n -> flags L i = true := by
  intro L hL h i
  induction i using Nat.strongRecOn with
  | _ i ih =>
   intro hi
   cases hf : flags L i with
   | true => rfl
   | false =>
    exfalso
    have hm : i ∈ Region.ready md ops L := by
     unfold Region.ready;rw [List.mem_filter,List.mem_range];refine ⟨by omega,?_⟩
     have hl : L.getD i true = false := by
      unfold flags at hf;rw [Array.getD_eq_getD_getElem?,Array.getElem?_eq_getElem (by omega)] at hf ⊢
      simpa using hf
     obtain ⟨o,ho⟩ : ∃ o,ops[i]? = some o := ⟨_,Array.getElem?_eq_getElem (by omega)⟩
     rw [hl,ho];simp only [Bool.not_false,Bool.true_and,Option.map_some,Option.getD_some];rw [Array.all_eq_true_iff_forall_mem];intro e he
     have hlt := hdag i o ho e (by simpa using he)
     have := ih e.on hlt (by omega)
     unfold flags at this;rw [this];simp
    rw [h] at hm;cases hm
 intro fuel
 induction fuel with
 | zero =>
  intro L a w hL hu hI
  have hall := Zqq (F := flags L) (n := n) (by omega)
  refine ⟨?_,hend _ a w hI hall⟩;unfold Region.ready;rw [List.filter_eq_nil_iff];intro i hi
  have := hall i (by have := List.mem_range.1 hi;omega)
  have hl : L.getD i true = true := by
   unfold flags at this;rw [Array.getD_eq_getD_getElem?] at this ⊢;cases hx : L[i]? with
   | none => rfl
   | some b => rw [hx] at this;simpa using this
  rw [hl];simp
 | succ fuel ih =>
  intro L a w hL hu hI
  refine ⟨fun h => hend _ a w hI (hready L hL h),fun i hi => ?_⟩
  unfold Region.ready at hi;rw [List.mem_filter,List.mem_range] at hi;obtain ⟨hlt,hp⟩ := hi;rw [Bool.and_eq_true] at hp;obtain ⟨h1,h2⟩ := hp;have hl : flags L i = false := by
   unfold flags;rw [Array.getD_eq_getD_getElem?] at h1 ⊢;rw [Array.getElem?_eq_getElem (by omega)] at h1 ⊢
   simpa using h1
  obtain ⟨o,ho⟩ : ∃ o,ops[i]? = some o := ⟨_,Array.getElem?_eq_getElem hlt⟩
  rw [ho] at h2;simp only [Option.map_some,Option.getD_some] at h2;rw [Array.all_eq_true_iff_forall_mem] at h2;refine wpOp_mono (fun a' w' h' => ih _ a' w' (by simpa using hL) ?_ ?_) (hstep (flags L) a w i o ho hI hl fun e he hb => ?_)
  ·have := Zub (F := flags L) (i := i) (n := n) (by omega) hl
   rw [Znq (by omega)]
   omega
  ·rw [Znq (by omega)]
   exact h'
  ·have := h2 e (by simpa using he)
   rw [hb] at this;simpa [flags] using this
end
end Go.Proofs.YtbgkfmodbofalaaGreatDoor
