import Derived.Test.YtdljhggillgpfaaGreatDoorSA45
set_option maxRecDepth 100000
set_option maxHeartbeats 8000000
namespace Go.Proofs.YtdljhggillgpfaaGreatDoor
open Go.RowKit Go.Shelf Go.Lib
variable {es : Nat → Addr} {At : (Nat → Prop) → World → Value → Nat → Cf.Ens → Prop} {BAt : (Nat → Prop) → World → Value → Value → Bf.Bd → Prop}
theorem Sc.leaves_few {l : List Ru} (h : SheetOk l) : (Sc.leavesL l).length ≤ 100000 ∧ ∀ x ∈ Sc.leavesL l,x.length ≤ 100000 := by
 unfold Sc.leavesL
 split
 ·rename_i e
  have hr := e.choose_spec
  generalize e.choose = r at hr
  have hm : ∀ x ∈ r,∃ y ∈ l,x ∈ y.ins := fun x hx => ((hr.mem x).1 hx).1
  refine ⟨?_,fun x hx => ?_⟩
  ·have h1 := Cf.nodup_len (b := l.flatMap Ru.ins) hr.once fun x hx => List.mem_flatMap.2 (hm x hx)
   have h2 : ∀ k : List Ru,(∀ x ∈ k,x.ins.length ≤ 12) → (k.flatMap Ru.ins).length ≤ k.length * 12 := fun k => by
    induction k with
    | nil => intro _;simp
    | cons x k ih =>
     intro hk
     have a := hk x (by simp)
     have b := ih fun y hy => hk y (by simp [hy])
     simp only [List.flatMap_cons,List.length_append,List.length_cons]
     omega
   have h3 := h2 l fun x hx => (h.small x hx).many
   have := h.len
   omega
  ·obtain ⟨y,hy,hxy⟩ := hm x hx
   have := (h.small y hy).ins x hxy
   omega
 ·simp
theorem Sc.order_few {l : List Ru} (h : SheetOk l) : (Sc.orderL l).length ≤ 100000 ∧ ∀ x ∈ Sc.orderL l,x.length ≤ 100000 := by
 unfold Sc.orderL
 cases ho : Ru.order l allB1 with
 | none => simp
 | some o =>
  obtain ⟨hnd,hlt⟩ := Ru.order_nodup ho
  have h1 := Cf.nodup_len (b := List.range l.length) hnd fun x hx => List.mem_range.2 (hlt x hx)
  rw [List.length_range] at h1
  have := h.len
  refine ⟨by simp;omega,fun x hx => ?_⟩
  simp only [Option.getD_some,List.mem_map] at hx
  obtain ⟨i,hi,rfl⟩ := hx
  have h2 := hlt i hi
  have e : l.getD i ⟨[],[],[],[]⟩ = l[i] := by simp [List.getD_eq_getElem?_getD,h2]
  rw [e]
  have := (h.small _ (List.getElem_mem h2)).out
  omega
theorem Sc.files_few {fs : Tf.Fs} (h : Tf.Well pathB fs) : (fs.map Prod.fst).length ≤ 100000 ∧ ∀ x ∈ fs.map Prod.fst,x.length ≤ 100000 := by
 have := h.few
 refine ⟨by simp;omega,fun x hx => ?_⟩
 obtain ⟨f,hf,rfl⟩ := List.mem_map.1 hx
 have := pathLen (h.each f hf).1
 omega
theorem TRow.cap {w : World} {v : Value} {l : List (List UInt8)} (h : TRow w v l) : CapRow v := by
 obtain ⟨p,cap,rfl,h0,_⟩ := h
 exact fun p n c e => by cases e;exact h0
theorem alone_calls (HC : Caches0 es At) (HB : Builds es Af.actO At BAt) {B : Nat} {W : World} {pb yb : Nat} {L : YL} {y : Bf.Yd} {sv : Value} {RS : Nat → Prop} (h : ScAt At B W pb yb L y sv RS) {m : Int} (hB : ScB B W es m) (n : List UInt8) :
  Calls Tryz.prog 35 #[Ptr pb,.string (ba n)] W (Does es At B W pb yb L RS (Sc.aloneY y n) (Sc.aloneA y n)) := by
 have c0 := h.c0
 have hok := h.ok
 have HCl := hid1 (spclear_calls HC h hB)
 have HMk := hid1 (spmakeOf_calls HC HB h hB (.slice none 0 0) [] (XRow.nil W) (by simp) (by simp))
 have HD := hid1 fun (w' : World) (g : Below W.heap.size W w') (a : Sc.An) (t : List UInt8) (ev : Value) (hv : CmdV w' es a t ev) => Does.same HC h g hv
 have HRw := hid1 fun (v : Value) (l : List (List UInt8)) (hl : l.length ≤ 100000 ∧ ∀ x ∈ l,x.length ≤ 100000) (V : World) (hr : IRow V v l) (hk : CapRow v) => row_calls v l hl.1 hl.2 V hr hk
 have HSt : Hid (Calls Tryz.prog 55 #[Ptr yb] W fun e w' => ∃ u,e = .returned u ∧ IRow w' u (Bf.stale y.fs y.os y.l) ∧ CapRow u ∧ Below W.heap.size W w') := hid1 ((yStaleH_calls HC h.yard hB.y.want hok.fs hok.l).mono fun e w' ⟨u,e1,⟨B',hr⟩,g⟩ => ⟨u,e1,hr.ir,hr.cap,g⟩)
 have HOr := hid1 (sporder_calls h hB)
 have HLv := hid1 (spleaves_calls h hB)
 have HTr := hid1 (yTree_calls h.yard)
 have HPa : Hid (Calls Tryz.prog 59 #[Ptr L.tb] W fun e w' => ∃ u,e = .returned u ∧ IRow w' u (y.fs.map Prod.fst) ∧ CapRow u ∧ Below W.heap.size W w') := hid1 ((Paths_calls h.yard.t hok.fs.rises (by have := hok.fs.few;omega)).mono fun e w' ⟨u,e1,ho,g⟩ => ⟨u,e1,(TRow.of_owns ho).irow,(TRow.of_owns ho).cap,g⟩)
 have hfS : (Bf.stale y.fs y.os y.l).length ≤ 100000 ∧ ∀ x ∈ Bf.stale y.fs y.os y.l,x.length ≤ 100000 := by
  have := Pl.stale_few (fs := y.fs) (os := y.os) hok.l.len fun x hx => (hok.l.small x hx).out
  exact ⟨by omega,fun x hx => by have := this.2 x hx;omega⟩
 have hfO := Sc.order_few hok.l
 have hfL := Sc.leaves_few hok.l
 have hfF := Sc.files_few hok.fs
 have hx := hB.text
 have HE := hid1 fun (V : World) (g : Below W.heap.size W V) => Does.err (es := es) HC h g (c := 0) (by omega) []
 simp only [erOf] at hx HE
 clear h hB HC HB hok
 by_cases e1 : n = [99,108,101,97,114]
 ·subst e1
  have eY : Sc.aloneY y [99,108,101,97,114] = Sc.takeY y [] := by simp [Sc.aloneY]
  have eA : Sc.aloneA y [99,108,101,97,114] = Sc.takeA [] := by simp [Sc.aloneA]
  rw [eY,eA]
  clear HMk HSt HOr HLv HTr HPa HRw HD HE hx hfS hfO hfL hfF
  clear eY eA
  generalize Sc.takeY y [] = ty at *
  generalize Sc.takeA [] = ta at *
  go_enter Tryz.func35,Tryz.ntmps35
  go_wp2_with fail
  refine HCl.out.mono ?_
  rintro e w1 ⟨t,ev,rfl,hd⟩
  have HF : Hid (Does es At B W pb yb L RS ty ta _ w1) := hid1 ⟨t,ev,rfl,hd⟩
  clear hd HCl
  go_wp2
  go_ret2
  exact HF.out
 by_cases e2 : n = [109,97,107,101]
 ·subst e2
  have eY : Sc.aloneY y [109,97,107,101] = Sc.makeY y [] := by simp [Sc.aloneY]
  have eA : Sc.aloneA y [109,97,107,101] = Sc.makeA y [] := by simp [Sc.aloneA]
  rw [eY,eA]
  clear HCl HSt HOr HLv HTr HPa HRw HD HE hx hfS hfO hfL hfF
  clear eY eA
  generalize Sc.makeY y [] = ty at *
  generalize Sc.makeA y [] = ta at *
  go_enter Tryz.func35,Tryz.ntmps35
  go_wp2_with fail
  refine HMk.out.mono ?_
  rintro e w1 ⟨t,ev,rfl,hd⟩
  have HF : Hid (Does es At B W pb yb L RS ty ta _ w1) := hid1 ⟨t,ev,rfl,hd⟩
  clear hd HMk
  go_wp2
  go_ret2
  exact HF.out
 by_cases e3 : n = [115,116,97,108,101]
 ·subst e3
  have eY : Sc.aloneY y [115,116,97,108,101] = y := by simp [Sc.aloneY]
  have eA : Sc.aloneA y [115,116,97,108,101] = (Sc.row (Bf.stale y.fs y.os y.l),0) := by simp [Sc.aloneA]
  rw [eY,eA]
  clear HCl HMk HOr HLv HTr HPa HE hx hfO hfL hfF
  clear eY eA
  have HR1 := hid1 fun (v : Value) => HRw.out v (Bf.stale y.fs y.os y.l) hfS
  clear HRw hfS
  generalize Bf.stale y.fs y.os y.l = l at *
  have HD1 := hid1 fun (w' : World) (g : Below W.heap.size W w') => HD.out w' g (Sc.row l,0) (Sc.row l) .nilIface (.fine _)
  clear HD
  generalize hrl : Sc.row l = rl at *
  clear hrl
  go_enter Tryz.func35,Tryz.ntmps35
  go_wp2_with fail
  refine HSt.out.mono ?_
  rintro e w1 ⟨u,rfl,hr,hk,g1⟩
  have HR2 := hid1 (HR1.out u w1 hr hk)
  obtain ⟨pu,cu,rfl,-⟩ := hr
  clear HR1 hk HSt
  go_wp2_with fail
  refine HR2.out.mono ?_
  rintro e w2 ⟨rfl,g2⟩
  have HF := hid1 (HD1.out w2 (below_then g1 g2))
  clear HR2 HD1
  go_wp2
  go_ret2
  exact HF.out
 by_cases e4 : n = [111,114,100,101,114]
 ·subst e4
  have eY : Sc.aloneY y [111,114,100,101,114] = y := by simp [Sc.aloneY]
  have eA : Sc.aloneA y [111,114,100,101,114] = (Sc.row (Sc.orderL y.l),0) := by simp [Sc.aloneA]
  rw [eY,eA]
  clear HCl HMk HSt HLv HTr HPa HE hx hfS hfL hfF
  clear eY eA
  have HR1 := hid1 fun (v : Value) => HRw.out v (Sc.orderL y.l) hfO
  clear HRw hfO
  generalize Sc.orderL y.l = l at *
  have HD1 := hid1 fun (w' : World) (g : Below W.heap.size W w') => HD.out w' g (Sc.row l,0) (Sc.row l) .nilIface (.fine _)
  clear HD
  generalize hrl : Sc.row l = rl at *
  clear hrl
  go_enter Tryz.func35,Tryz.ntmps35
  go_wp2_with fail
  refine HOr.out.mono ?_
  rintro e w1 ⟨u,rfl,hr,hk,g1⟩
  have HR2 := hid1 (HR1.out u w1 hr hk)
  obtain ⟨pu,cu,rfl,-⟩ := hr
  clear HR1 hk HOr
  go_wp2_with fail
  refine HR2.out.mono ?_
  rintro e w2 ⟨rfl,g2⟩
  have HF := hid1 (HD1.out w2 (below_then g1 g2))
  clear HR2 HD1
  go_wp2
  go_ret2
  exact HF.out
 by_cases e5 : n = [108,101,97,118,101,115]
 ·subst e5
  have eY : Sc.aloneY y [108,101,97,118,101,115] = y := by simp [Sc.aloneY]
  have eA : Sc.aloneA y [108,101,97,118,101,115] = (Sc.row (Sc.leavesL y.l),0) := by simp [Sc.aloneA]
  rw [eY,eA]
  clear HCl HMk HSt HOr HTr HPa HE hx hfS hfO hfF
  clear eY eA
  have HR1 := hid1 fun (v : Value) => HRw.out v (Sc.leavesL y.l) hfL
  clear HRw hfL
  generalize Sc.leavesL y.l = l at *
  have HD1 := hid1 fun (w' : World) (g : Below W.heap.size W w') => HD.out w' g (Sc.row l,0) (Sc.row l) .nilIface (.fine _)
  clear HD
  generalize hrl : Sc.row l = rl at *
  clear hrl
  go_enter Tryz.func35,Tryz.ntmps35
  go_wp2_with fail
  refine HLv.out.mono ?_
  rintro e w1 ⟨u,rfl,hr,hk,g1⟩
  have HR2 := hid1 (HR1.out u w1 hr hk)
  obtain ⟨pu,cu,rfl,-⟩ := hr
  clear HR1 hk HLv
  go_wp2_with fail
  refine HR2.out.mono ?_
  rintro e w2 ⟨rfl,g2⟩
  have HF := hid1 (HD1.out w2 (below_then g1 g2))
  clear HR2 HD1
  go_wp2
  go_ret2
  exact HF.out
 by_cases e6 : n = [102,105,108,101,115]
 ·subst e6
  have eY : Sc.aloneY y [102,105,108,101,115] = y := by simp [Sc.aloneY]
  have eA : Sc.aloneA y [102,105,108,101,115] = (Sc.row (y.fs.map Prod.fst),0) := by simp [Sc.aloneA]
  rw [eY,eA]
  clear HCl HMk HSt HOr HLv HE hx hfS hfO hfL
  clear eY eA
  have HR1 := hid1 fun (v : Value) => HRw.out v (y.fs.map Prod.fst) hfF
  clear HRw hfF
  generalize y.fs.map Prod.fst = l at *
  have HD1 := hid1 fun (w' : World) (g : Below W.heap.size W w') => HD.out w' g (Sc.row l,0) (Sc.row l) .nilIface (.fine _)
  clear HD
  generalize hrl : Sc.row l = rl at *
  clear hrl
  go_enter Tryz.func35,Tryz.ntmps35
  go_wp2_with fail
  refine HTr.out.mono ?_
  rintro e w0 ⟨rfl,rfl⟩
  clear HTr
  go_wp2_with fail
  refine HPa.out.mono ?_
  rintro e w1 ⟨u,rfl,hr,hk,g1⟩
  have HR2 := hid1 (HR1.out u w1 hr hk)
  obtain ⟨pu,cu,rfl,-⟩ := hr
  clear HR1 hk HPa
  go_wp2_with fail
  refine HR2.out.mono ?_
  rintro e w2 ⟨rfl,g2⟩
  have HF := hid1 (HD1.out w2 (below_then g1 g2))
  clear HR2 HD1
  go_wp2
  go_ret2
  exact HF.out
 have eY : Sc.aloneY y n = y := by simp [Sc.aloneY,e1,e2]
 have eA : Sc.aloneA y n = ([],1) := by simp [Sc.aloneA,e1,e2,e3,e4,e5,e6]
 rw [eY,eA]
 clear HCl HMk HSt HOr HLv HTr HPa HRw HD hfS hfO hfL hfF
 clear eY eA
 have z1 : (n == [99,108,101,97,114]) = false := by simpa using e1
 have z2 : (n == [109,97,107,101]) = false := by simpa using e2
 have z3 : (n == [115,116,97,108,101]) = false := by simpa using e3
 have z4 : (n == [111,114,100,101,114]) = false := by simpa using e4
 have z5 : (n == [108,101,97,118,101,115]) = false := by simpa using e5
 have z6 : (n == [102,105,108,101,115]) = false := by simpa using e6
 clear e1 e2 e3 e4 e5 e6
 have HF := hid1 (HE.out W.drew (Below.refl _ W).drew)
 clear HE
 go_enter Tryz.func35,Tryz.ntmps35
 go_wp2
 go_region
 go_wp2
 go_ret2
 exact HF.out
end Go.Proofs.YtdljhggillgpfaaGreatDoor
namespace Go.Proofs.YtdljhggillgpfaaGreatDoor
open Go.RowKit Go.Shelf Go.Lib
variable {es : Nat → Addr} {At : (Nat → Prop) → World → Value → Nat → Cf.Ens → Prop} {BAt : (Nat → Prop) → World → Value → Value → Bf.Bd → Prop}
theorem splitX_calls (s : List UInt8) (hs : s.length ≤ 1000000) (m : Int) (w : World) (hm : w.cell? ⟨13,0,none⟩ = some (.int .i64 m)) :
  Calls Tryz.prog 47 #[.string (ba s),.string ⟨#[32]⟩] w fun e w' => ∃ v,e = .returned v ∧ XRow w' v (cutB 32 s) ∧ Below w.heap.size w w' := by
 have := Tryz.strings_Split (ba s) (ba [32]) m w (by rw [ba_size];omega) hm (by rw [ba_size];simp)
 rw [splitB_cut,count_cut] at this
 refine this.mono ?_
 rintro e w' ⟨rfl,rfl⟩
 have hrc := row_cells w (cutB 32 s)
 refine ⟨_,rfl,⟨_,_,rfl,Nat.le_refl _,(fun h => by cases h),fun _ => ⟨_,0,rfl,by simp,fun j hj => by rw [Nat.zero_add];exact hrc j hj⟩⟩,(Below.refl _ w).alloc (Nat.le_refl _) _⟩
theorem of_calls (HC : Caches0 es At) (HB : Builds es Af.actO At BAt) {B : Nat} {W : World} {pb yb : Nat} {L : YL} {y : Bf.Yd} {sv : Value} {RS : Nat → Prop} (h : ScAt At B W pb yb L y sv RS) {m : Int} (hB : ScB B W es m) (n s : List UInt8) (hs : s.length ≤ 90000) (hmk : n = [109,97,107,101] → s.length ≤ 900) :
  Calls Tryz.prog 34 #[Ptr pb,.string (ba n),.string (ba s)] W (Does es At B W pb yb L RS (Sc.ofY y n s) (Sc.ofA y n s)) := by
 have HPt := hid1 (putText_calls HC h hB s (by omega))
 have HRu := hid1 (addRule_calls HC h hB s hs)
 have HSp := hid1 (splitX_calls s (by omega) m W hB.max)
 have HMk : Hid (s.length ≤ 900 → ∀ (V : World) (v : Value),Below W.heap.size W V → XRow V v (cutB 32 s) → Calls Tryz.prog 46 #[v,.func (.func 48) #[Ptr pb] #[]] V (Does es At B W pb yb L RS (if (cutB 32 s).all pathB = true then Sc.makeY y (cutB 32 s) else y) (if (cutB 32 s).all pathB = true then Sc.makeA y (cutB 32 s) else ([],1)))) := hid1 fun h9 V v g hv => by
  have hl := cutB_len 32 s
  have hp : ∀ p ∈ cutB 32 s,p.length ≤ 1000000 := fun p hp => by
   have h1 := Rd.cutB_each 32 s p hp
   omega
  refine (onPaths_calls HC (h.below HC g) (hB.trans (g.mono h.bw)) v (cutB 32 s) hv.irow (by omega) hp 48 (enters_of Tryz.func48 (by kernel_rfl) rfl) (Sc.makeY y (cutB 32 s)) (Sc.makeA y (cutB 32 s)) (hid1 fun hall V2 g2 => ?_)).mono fun e w' hd => Does.ahead h.bw g hd
  exact spmakeOf_calls HC HB ((h.below HC g).below HC g2) ((hB.trans (g.mono h.bw)).trans (g2.mono (h.below HC g).bw)) v (cutB 32 s) (hv.below g2) (by omega) fun p hp => by have := pathLen (List.all_eq_true.1 hall p hp);omega
 have HDr := hid1 (onPath_m HC h hB s (by omega) 50 (enters_of Tryz.func50 (by kernel_rfl) rfl) _ _ (hid1 fun _ V g => spdrop_calls HC (h.below HC g) (hB.trans (g.mono h.bw)) s (by omega)))
 have HSh := hid1 (onPath_m HC h hB s (by omega) 51 (enters_of Tryz.func51 (by kernel_rfl) rfl) _ _ (hid1 fun _ V g => spshow_calls HC (h.below HC g) (hB.trans (g.mono h.bw)) s (by omega)))
 have HWa := hid1 (onPath_m HC h hB s (by omega) 52 (enters_of Tryz.func52 (by kernel_rfl) rfl) _ _ (hid1 fun hp V g => spwant_calls HC (h.below HC g) (hB.trans (g.mono h.bw)) s (by have := pathLen hp;omega)))
 rw [ite_self] at HSh HWa
 have hx := hB.text
 have HE := hid1 fun (V : World) (g : Below W.heap.size W V) => Does.err (es := es) HC h g (c := 0) (by omega) []
 simp only [erOf] at hx HE
 clear h hB HC HB hs
 by_cases e1 : n = [112,117,116]
 ·subst e1
  have eY : Sc.ofY y [112,117,116] s = (Sc.putY y s) := by unfold Sc.ofY;rw [if_pos rfl]
  have eA : Sc.ofA y [112,117,116] s = (Sc.putA y s) := by unfold Sc.ofA;rw [if_pos rfl]
  rw [eY,eA]
  clear HRu HSp HMk hmk HDr HSh HWa HE hx eY eA
  generalize Sc.putY y s = ty at *
  generalize Sc.putA y s = ta at *
  go_enter Tryz.func34,Tryz.ntmps34
  go_wp2_with fail
  refine HPt.out.mono ?_
  rintro e w1 ⟨t,ev,rfl,hd⟩
  have HF : Hid (Does es At B W pb yb L RS ty ta _ w1) := hid1 ⟨t,ev,rfl,hd⟩
  clear hd HPt
  go_wp2
  go_ret2
  exact HF.out
 by_cases e2 : n = [114,117,108,101]
 ·subst e2
  have eY : Sc.ofY y [114,117,108,101] s = (Sc.ruleY y s) := by unfold Sc.ofY;rw [if_neg (by decide),if_pos rfl]
  have eA : Sc.ofA y [114,117,108,101] s = (Sc.ruleA y s) := by unfold Sc.ofA;rw [if_neg (by decide),if_pos rfl]
  rw [eY,eA]
  clear HPt HSp HMk hmk HDr HSh HWa HE hx eY eA
  generalize Sc.ruleY y s = ty at *
  generalize Sc.ruleA y s = ta at *
  go_enter Tryz.func34,Tryz.ntmps34
  go_wp2_with fail
  refine HRu.out.mono ?_
  rintro e w1 ⟨t,ev,rfl,hd⟩
  have HF : Hid (Does es At B W pb yb L RS ty ta _ w1) := hid1 ⟨t,ev,rfl,hd⟩
  clear hd HRu
  go_wp2
  go_ret2
  exact HF.out
 by_cases e3 : n = [109,97,107,101]
 ·subst e3
  have eY : Sc.ofY y [109,97,107,101] s = (if (cutB 32 s).all pathB then Sc.makeY y (cutB 32 s) else y) := by unfold Sc.ofY;rw [if_neg (by decide),if_neg (by decide),if_pos rfl]
  have eA : Sc.ofA y [109,97,107,101] s = (if (cutB 32 s).all pathB then Sc.makeA y (cutB 32 s) else ([],1)) := by unfold Sc.ofA;rw [if_neg (by decide),if_neg (by decide),if_pos rfl]
  rw [eY,eA]
  clear HPt HRu HDr HSh HWa HE hx eY eA
  have HM2 := hid1 (HMk.out (hmk rfl))
  clear HMk hmk
  generalize (if (cutB 32 s).all pathB = true then Sc.makeY y (cutB 32 s) else y) = ty at *
  generalize (if (cutB 32 s).all pathB = true then Sc.makeA y (cutB 32 s) else ([],1)) = ta at *
  generalize cutB 32 s = l at *
  go_enter Tryz.func34,Tryz.ntmps34
  go_wp2_with fail
  refine HSp.out.mono ?_
  rintro e w0 ⟨v,rfl,hv,g0⟩
  have HM3 := hid1 (HM2.out w0 v g0 hv)
  obtain ⟨pv,cv,rfl,-⟩ := hv
  clear HSp HM2
  go_wp2_with fail
  refine HM3.out.mono ?_
  rintro e w1 ⟨t,ev,rfl,hd⟩
  have HF : Hid (Does es At B W pb yb L RS ty ta _ w1) := hid1 ⟨t,ev,rfl,hd⟩
  clear hd HM3
  go_wp2
  go_ret2
  exact HF.out
 by_cases e4 : n = [100,114,111,112]
 ·subst e4
  have eY : Sc.ofY y [100,114,111,112] s = (if pathB s then { y with fs := Tf.del y.fs s } else y) := by unfold Sc.ofY;rw [if_neg (by decide),if_neg (by decide),if_neg (by decide),if_pos rfl]
  have eA : Sc.ofA y [100,114,111,112] s = (if pathB s then (if Tf.hasP y.fs s then (Sc.ok,0) else ([],6)) else ([],1)) := by unfold Sc.ofA;rw [if_neg (by decide),if_neg (by decide),if_neg (by decide),if_pos rfl]
  rw [eY,eA]
  clear HPt HRu HSp HMk hmk HSh HWa HE hx eY eA
  generalize (if pathB s = true then { y with fs := Tf.del y.fs s } else y) = ty at *
  generalize (if pathB s = true then (if Tf.hasP y.fs s = true then (Sc.ok,0) else ([],6)) else ([],1)) = ta at *
  go_enter Tryz.func34,Tryz.ntmps34
  go_wp2_with fail
  refine HDr.out.mono ?_
  rintro e w1 ⟨t,ev,rfl,hd⟩
  have HF : Hid (Does es At B W pb yb L RS ty ta _ w1) := hid1 ⟨t,ev,rfl,hd⟩
  clear hd HDr
  go_wp2
  go_ret2
  exact HF.out
 by_cases e5 : n = [115,104,111,119]
 ·subst e5
  have eY : Sc.ofY y [115,104,111,119] s = (y) := by unfold Sc.ofY;rw [if_neg (by decide),if_neg (by decide),if_neg (by decide),if_neg (by decide)]
  have eA : Sc.ofA y [115,104,111,119] s = (if pathB s then Sc.showA y s else ([],1)) := by unfold Sc.ofA;rw [if_neg (by decide),if_neg (by decide),if_neg (by decide),if_neg (by decide),if_pos rfl]
  rw [eY,eA]
  clear HPt HRu HSp HMk hmk HDr HWa HE hx eY eA
  generalize (if pathB s = true then Sc.showA y s else ([],1)) = ta at *
  go_enter Tryz.func34,Tryz.ntmps34
  go_wp2_with fail
  refine HSh.out.mono ?_
  rintro e w1 ⟨t,ev,rfl,hd⟩
  have HF : Hid (Does es At B W pb yb L RS y ta _ w1) := hid1 ⟨t,ev,rfl,hd⟩
  clear hd HSh
  go_wp2
  go_ret2
  exact HF.out
 by_cases e6 : n = [119,97,110,116]
 ·subst e6
  have eY : Sc.ofY y [119,97,110,116] s = (y) := by unfold Sc.ofY;rw [if_neg (by decide),if_neg (by decide),if_neg (by decide),if_neg (by decide)]
  have eA : Sc.ofA y [119,97,110,116] s = (if pathB s then Sc.wantA y s else ([],1)) := by unfold Sc.ofA;rw [if_neg (by decide),if_neg (by decide),if_neg (by decide),if_neg (by decide),if_neg (by decide),if_pos rfl]
  rw [eY,eA]
  clear HPt HRu HSp HMk hmk HDr HSh HE hx eY eA
  generalize (if pathB s = true then Sc.wantA y s else ([],1)) = ta at *
  go_enter Tryz.func34,Tryz.ntmps34
  go_wp2_with fail
  refine HWa.out.mono ?_
  rintro e w1 ⟨t,ev,rfl,hd⟩
  have HF : Hid (Does es At B W pb yb L RS y ta _ w1) := hid1 ⟨t,ev,rfl,hd⟩
  clear hd HWa
  go_wp2
  go_ret2
  exact HF.out
 have eY : Sc.ofY y n s = y := by unfold Sc.ofY;rw [if_neg e1,if_neg e2,if_neg e3,if_neg e4]
 have eA : Sc.ofA y n s = ([],1) := by unfold Sc.ofA;rw [if_neg e1,if_neg e2,if_neg e3,if_neg e4,if_neg e5,if_neg e6]
 rw [eY,eA]
 clear HPt HRu HSp HMk hmk HDr HSh HWa eY eA
 have z1 : (n == [112,117,116]) = false := by simpa using e1
 have z2 : (n == [114,117,108,101]) = false := by simpa using e2
 have z3 : (n == [109,97,107,101]) = false := by simpa using e3
 have z4 : (n == [100,114,111,112]) = false := by simpa using e4
 have z5 : (n == [115,104,111,119]) = false := by simpa using e5
 have z6 : (n == [119,97,110,116]) = false := by simpa using e6
 clear e1 e2 e3 e4 e5 e6
 have HF := hid1 (HE.out W.drew (Below.refl _ W).drew)
 clear HE
 go_enter Tryz.func34,Tryz.ntmps34
 go_wp2
 go_region
 go_wp2
 go_ret2
 exact HF.out
end Go.Proofs.YtdljhggillgpfaaGreatDoor
namespace Go.Proofs.YtdljhggillgpfaaGreatDoor
open Go.RowKit Go.Shelf Go.Lib
variable {es : Nat → Addr} {At : (Nat → Prop) → World → Value → Nat → Cf.Ens → Prop} {BAt : (Nat → Prop) → World → Value → Value → Bf.Bd → Prop}
theorem Sc.wellnil : Tf.Well pathB [] := ⟨List.Pairwise.nil,by simp,fun f hf => by simp at hf,fun f hf => by simp at hf⟩
theorem Sc.ok0 : Sc.y0.Ok := ⟨Sc.wellnil,Sc.wellnil,SheetOk.nil,by omega,by omega,Cf.Ok.nil _,fun e he => by simp at he⟩
theorem newPlayer_calls (HC : Caches0 es At) (W : World) :
  Calls Tryz.prog 14 #[] W fun e w' => ∃ pb yb L,e = .returned (Ptr pb) ∧ Below W.heap.size W w' ∧ ScAt At W.heap.size w' pb yb L Sc.y0 (.slice none 0 0) (fun _ => False) := by
 have HN := hid1 (yNew_calls HC W 8 (by omega) (by omega))
 have HCs := hid1 HC
 clear HC
 go_enter Tryz.func14,Tryz.ntmps14
 go_wp2_with fail
 refine HN.out.mono ?_
 rintro e w1 ⟨yb,L,rfl,g1,hy1⟩
 have HY := hid1 hy1
 have HG := hid1 g1
 clear HN hy1 g1
 go_wp2
 go_ret
 have gA : Below w1.heap.size w1 (w1.alloc (.cells #[Ptr yb,.slice none 0 0] 60)) := (Below.refl _ w1).alloc (Nat.le_refl _) _
 have rA := row_newW w1 (.cells #[Ptr yb,.slice none 0 0] 60)
 have hz := HG.out.size
 refine ⟨w1.heap.size,yb,{ L with k := L.more w1.heap.size 9 },rfl,below_then HG.out gA,(HY.out.retag HCs.out 9).below HCs.out gA,Sc.ok0,rA,hz,fun V _ _ => RRow.nil V,fun _ h => h.elim,L.more_new (Nat.le_refl _),fun _ h => h.elim,fun j hj => L.more_new (by have := gA.size;omega),fun _ h => h.elim⟩
structure Sc.Fit (s : List UInt8) : Prop where
 len : s.length ≤ 90000
 make : (Lib.cut s [32]).1 = [109,97,107,101] → s.length ≤ 900
noncomputable def Sc.cmdA (y : Bf.Yd) (s : List UInt8) : Sc.An := if (Lib.cut s [32]).2.2 then Sc.ofA y (Lib.cut s [32]).1 (Lib.cut s [32]).2.1 else Sc.aloneA y (Lib.cut s [32]).1
theorem command_calls (HC : Caches0 es At) (HB : Builds es Af.actO At BAt) {B : Nat} {W : World} {pb yb : Nat} {L : YL} {y : Bf.Yd} {sv : Value} {RS : Nat → Prop} (h : ScAt At B W pb yb L y sv RS) {m : Int} (hB : ScB B W es m) (s : List UInt8) (hs : Sc.Fit s) :
  Calls Tryz.prog 25 #[Ptr pb,.string (ba s)] W (Does es At B W pb yb L RS (Sc.step y s) (Sc.cmdA y s)) := by
 have hcl : (Lib.cut s [32]).1.length ≤ s.length ∧ (Lib.cut s [32]).2.1.length ≤ s.length := by
  unfold Lib.cut
  split
  ·refine ⟨?_,?_⟩ <;> simp <;> omega
  ·simp
 have hmk : (Lib.cut s [32]).1 = [109,97,107,101] → (Lib.cut s [32]).2.1.length ≤ 900 := fun e => by have := hs.make e;omega
 have h9 := hs.len
 have HCt := hid1 (rcut_calls s [32] (by omega) m W hB.max)
 have HAl := hid1 fun (V : World) (g : Below W.heap.size W V) (n : List UInt8) => (alone_calls HC HB (h.below HC g) (hB.trans (g.mono h.bw)) n).mono fun e w' hd => Does.ahead h.bw g hd
 have HOf := hid1 fun (V : World) (g : Below W.heap.size W V) (n s : List UInt8) (hs : s.length ≤ 90000) (hmk : n = [109,97,107,101] → s.length ≤ 900) => (of_calls HC HB (h.below HC g) (hB.trans (g.mono h.bw)) n s hs hmk).mono fun e w' hd => Does.ahead h.bw g hd
 unfold Sc.step Sc.cmdA
 clear h hB HC HB hs
 generalize Lib.cut s [32] = ct at *
 obtain ⟨n,w,is⟩ := ct
 simp only at hcl hmk HCt ⊢
 cases is with
 | true =>
  simp only [if_true]
  have HOf1 := hid1 fun (V : World) (g : Below W.heap.size W V) => HOf.out V g n w (by omega) hmk
  clear HAl HOf hmk hcl h9
  generalize Sc.ofY y n w = ty at *
  generalize Sc.ofA y n w = ta at *
  go_enter Tryz.func25,Tryz.ntmps25
  go_wp2_with fail
  refine HCt.out.mono ?_
  rintro e w1 ⟨rfl,g1⟩
  have HF := hid1 (HOf1.out w1 g1)
  clear HCt HOf1
  go_wp2_with fail
  refine HF.out.mono ?_
  rintro e w2 ⟨t,ev,rfl,hd⟩
  have HD : Hid (Does es At B W pb yb L RS ty ta _ w2) := hid1 ⟨t,ev,rfl,hd⟩
  clear HF hd
  go_wp2
  go_ret2
  exact HD.out
 | false =>
  simp only [Bool.false_eq_true,if_false]
  have HAl1 := hid1 fun (V : World) (g : Below W.heap.size W V) => HAl.out V g n
  clear HAl HOf hmk hcl h9
  generalize Sc.aloneY y n = ty at *
  generalize Sc.aloneA y n = ta at *
  go_enter Tryz.func25,Tryz.ntmps25
  go_wp2_with fail
  refine HCt.out.mono ?_
  rintro e w1 ⟨rfl,g1⟩
  have HF := hid1 (HAl1.out w1 g1)
  clear HCt HAl1
  go_wp2_with fail
  refine HF.out.mono ?_
  rintro e w2 ⟨t,ev,rfl,hd⟩
  have HD : Hid (Does es At B W pb yb L RS ty ta _ w2) := hid1 ⟨t,ev,rfl,hd⟩
  clear HF hd
  go_wp2
  go_ret2
  exact HD.out
def Goes (At : (Nat → Prop) → World → Value → Nat → Cf.Ens → Prop) (B : Nat) (W : World) (pb yb : Nat) (L : YL) (RS : Nat → Prop) (y' : Bf.Yd) (w' : World) : Prop :=
 Below B W w' ∧ ∃ L' sv' RS',ScAt At B w' pb yb L' y' sv' RS' ∧ ScStep W w' L L' pb ∧ ∀ j,RS' j → j < W.heap.size → RS j
theorem answer_calls (HC : Caches0 es At) (HB : Builds es Af.actO At BAt) {B : Nat} {W : World} {pb yb : Nat} {L : YL} {y : Bf.Yd} {sv : Value} {RS : Nat → Prop} (h : ScAt At B W pb yb L y sv RS) {m : Int} (hB : ScB B W es m) (s : List UInt8) (hs : Sc.Fit s) :
  Calls Tryz.prog 15 #[Ptr pb,.string (ba s)] W fun e w' => e = .returned (.string (ba (Sc.ans y s))) ∧ Goes At B W pb yb L RS (Sc.step y s) w' := by
 have HCm := hid1 (command_calls HC HB h hB s hs)
 have HCs := hid1 HC
 have HBs := hid1 hB
 have HA : Hid (Sc.ans y s = Sc.told (Sc.cmdA y s)) := hid1 rfl
 rw [HA.out]
 clear h hB HC HB hs HA
 generalize Sc.cmdA y s = a at *
 generalize Sc.step y s = y' at *
 obtain ⟨at1,ac⟩ := a
 have HT0 : Hid (ac = 0 → Sc.told (at1,ac) = at1) := hid1 fun h => by subst h;rfl
 have HT1 : Hid (ac ≠ 0 → Sc.told (at1,ac) = Sc.errT ac) := hid1 fun h => if_neg h
 generalize Sc.told (at1,ac) = tt at *
 go_enter Tryz.func15,Tryz.ntmps15
 go_wp2_with fail
 refine HCm.out.mono ?_
 rintro e w1 ⟨t,ev,rfl,g1,⟨⟨p,hE⟩,ht⟩,hgo⟩
 have HGo := hid1 hgo
 have HG1 := hid1 g1
 clear HCm hgo
 by_cases hc : ac = 0
 ·subst hc
  have e1 := hE.zero rfl
  have e2 := ht rfl
  simp only at e2
  have e3 := HT0.out rfl
  subst e1 e2 e3
  clear hE ht HT0 HT1 g1
  go_wp2
  go_ret
  exact ⟨rfl,HG1.out,HGo.out⟩
 ·have e3 := HT1.out hc
  have hB1 := HBs.out.trans g1
  have HTx := hid1 (textOf_calls hB1.e12.es hB1.tx ev (ac,p) hE hc)
  obtain ⟨t1,u1,rfl⟩ := hE.face hc
  clear hE ht HT0 HT1 g1 hB1
  simp only at HTx
  rw [← e3] at HTx
  clear e3
  go_wp2_with fail
  refine HTx.out.mono ?_
  rintro e w2 ⟨rfl,g2⟩
  have HG2 := hid1 g2
  clear HTx g2
  go_wp2
  go_ret
  obtain ⟨L',sv',RS',h1,h2,h3⟩ := HGo.out
  exact ⟨rfl,HG1.out.trans (HG2.out.mono h1.bw),L',sv',RS',h1.below HCs.out HG2.out,h2.trans (.below L' pb HG2.out),h3⟩
end Go.Proofs.YtdljhggillgpfaaGreatDoor
namespace Go.Proofs.YtdljhggillgpfaaGreatDoor
open Go.RowKit Go.Shelf Go.Lib
namespace Sc
theorem fit_short {s : List UInt8} (h : s.length ≤ 900) : Fit s := ⟨by omega,fun _ => h⟩
theorem fit_rule {s : List UInt8} (h : s.length ≤ 80000) : Fit ([114,117,108,101,32] ++ s) := ⟨by simp;omega,fun e => by
 exfalso
 unfold Lib.cut at e
 split at e
 ·generalize (Lib.index _ _).toNat = k at e
  cases k <;> simp at e
 ·simp at e⟩
theorem join_snoc2 (l : List (List UInt8)) (h : l ≠ []) (x : List UInt8) : Lib.join (l ++ [x]) [32] = Lib.join l [32] ++ [32] ++ x := by
 cases l with
 | nil => exact absurd rfl h
 | cons a r =>
  rw [List.cons_append,Lib.join_cons,Lib.join_cons]
  simp [Lib.joinTail]
end Sc
theorem JoinedI_calls {W : World} (v : Value) (ls : List (List UInt8)) (hr : IRow W v ls) (hn : ls.length ≤ 40) (hx : ∀ x ∈ ls,x.length ≤ 100) :
  Calls Tryz.prog 21 #[v] W fun e w' => e = .returned (.string (ba (Lib.join ls [32]))) ∧ w' = W := by
 obtain ⟨p,cap,rfl,hin⟩ := hr
 have HI := hid1 hin
 have HX := hid1 hx
 clear hin hx
 go_enter Tryz.func21,Tryz.ntmps21
 go_wp2
 go_loopw [3,4] (fun ov iv wr => ∃ k : Nat,k ≤ ls.length ∧ iv = .int .i64 k ∧ ov = .string (ba (Lib.join (ls.take k) [32])) ∧ wr = W) (fun _ iv _ => ls.length - (intOf iv).toNat)
 case atStart => exact ⟨0,Nat.zero_le _,rfl,rfl,rfl⟩
 case round =>
  obtain ⟨k,hk,rfl,rfl,rfl⟩ := hrel
  have k0 : (0 : Int) ≤ (k : Int) := by omega
  by_cases hlt : k < ls.length
  ·have k1 : (k : Int) < (ls.length : Int) := by omega
   obtain ⟨g,o,rfl,hg,hc⟩ := HI.out (by intro e;rw [e] at hlt;simp at hlt)
   have d := hc k hlt
   have hxl := HX.out _ (List.getElem_mem hlt)
   have HTk : Hid (ls.take (k + 1) = ls.take k ++ [ls[k]]) := hid1 (List.take_succ_eq_append_getElem hlt)
   have hjl := Pl.join_few (ls := ls.take k) (fun x hx => HX.out x (List.mem_of_mem_take hx))
   have hkl : (ls.take k).length = k := by simp;omega
   rw [hkl] at hjl
   have zj : (ba (Lib.join (ls.take k) [32])).size ≤ 4040 := by rw [ba_size];omega
   clear hc HI HX hg
   generalize ls[k] = x at *
   have zx : (ba x).size ≤ 100 := by rw [ba_size];exact hxl
   by_cases hz : k = 0
   ·have HN : Hid ((∃ k' : Nat,k' ≤ ls.length ∧ Value.int .i64 ((k : Int) + 1) = Value.int .i64 (k' : Nat) ∧ Value.string (ba (Lib.join (ls.take k) [32]) ++ ba x) = .string (ba (Lib.join (ls.take k') [32])) ∧ True) ∧ ls.length - (intOf (Value.int .i64 ((k : Int) + 1))).toNat < ls.length - (intOf (Value.int .i64 (k : Int))).toNat) := hid1 (by
     refine ⟨⟨k + 1,by omega,by go_num,?_,trivial⟩,by simp [intOf];omega⟩
     rw [HTk.out,hz,List.take_zero,List.nil_append,ba_cat]
     simp [Lib.join,List.intercalate])
    have kz : ¬ ((0 : Int) < (k : Int)) := by omega
    generalize ba (Lib.join (ls.take k) [32]) = sx at *
    clear hz HTk hjl hkl
    go_wp2
    exact HN.out
   ·have HN : Hid ((∃ k' : Nat,k' ≤ ls.length ∧ Value.int .i64 ((k : Int) + 1) = Value.int .i64 (k' : Nat) ∧ Value.string (ba (Lib.join (ls.take k) [32]) ++ (⟨#[32]⟩ : ByteArray) ++ ba x) = .string (ba (Lib.join (ls.take k') [32])) ∧ True) ∧ ls.length - (intOf (Value.int .i64 ((k : Int) + 1))).toNat < ls.length - (intOf (Value.int .i64 (k : Int))).toNat) := hid1 (by
     refine ⟨⟨k + 1,by omega,by go_num,?_,trivial⟩,by simp [intOf];omega⟩
     rw [HTk.out,Sc.join_snoc2 _ (by intro e;rw [e] at hkl;simp at hkl;omega),show (⟨#[32]⟩ : ByteArray) = ba [32] from rfl,ba_cat,ba_cat])
    have kz : (0 : Int) < (k : Int) := by omega
    have kz' : 0 < k := by omega
    generalize ba (Lib.join (ls.take k) [32]) = sx at *
    clear hz HTk hjl hkl
    go_wp2
    exact HN.out
  ·obtain rfl : k = ls.length := by omega
   rw [List.take_length]
   clear HI HX
   go_wp2
   go_ret
   exact ⟨rfl,rfl⟩
end Go.Proofs.YtdljhggillgpfaaGreatDoor
