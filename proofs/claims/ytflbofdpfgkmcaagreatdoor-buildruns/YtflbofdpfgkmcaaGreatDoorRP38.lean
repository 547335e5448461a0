import Derived.Test.YtflbofdpfgkmcaaGreatDoorRP37
set_option maxRecDepth 100000
set_option maxHeartbeats 16000000
namespace Go.Proofs.YtflbofdpfgkmcaaGreatDoor
open Go.RowKit Go.Shelf Go.Lib
theorem NewBuild_calls {w : World} {B : Nat} {tb : Nat} {fs : Tf.Fs} {tv : Value} (h : RTreeAt B w tb fs tv) (hfs : fs.length ≤ 1000) (p : Option Addr) (cap : Nat) (l : List Ru) (hrow : RRow w (.slice p l.length cap) l) (hn : l.length ≤ 1000) (hI : ∀ x ∈ l,x.ins.length ≤ 1000000) (vo : Value) (outs : List (List UInt8)) (hro : IRow w vo outs) (hno : outs.length ≤ 1000) (hall : ∀ j (hj : j < outs.length),∃ x ∈ l,x.out = outs[j]) (cp : Option Addr) :
  Calls Tryz.prog 65 #[Ptr tb,.slice p l.length cap,vo,.pointer cp] w fun e w' => ∃ mb tb' tv' gs go gh gw,e = .returned (.pointer (some ⟨mb,0,none⟩)) ∧ MB w w' mb tb' tv' (.slice p l.length cap) (.pointer cp) gs go gh gw (Bf.init fs l outs) := by
 have HNe := hid1 fun (V : World) (g : Below w.heap.size w V) => NeededOf_calls (.slice p l.length cap) l (hrow.below g) hn hI vo outs (hro.below g) hno
 have HRow := hid1 hrow
 have HAll := hid1 hall
 clear hrow hro hall
 go_enter Tryz.func65,Tryz.ntmps65
 go_wp2
 refine wp_region_any (by kernel_rfl) ?_
 refine wpAny_inv (n := 15) rfl ?dag (fun F a W => ∃ tb' tv' gs go gh gw mb v10 v16 v17 v18 v19 v20 v21 v22 v23 v24 v25 v26 v27 v28 v29,a = NFr (Ptr tb) (.slice p l.length cap) vo (.pointer cp) l.length v10 v16 v17 v18 v19 v20 v21 v22 v23 v24 v25 v26 v27 v28 v29 ∧ NB w tb fs p cap cp l.length F W tb' tv' gs go gh gw mb v10 v16 v17 v18 v19 v20 v21 v22 v23 v24 v25 v26 v27 v28 v29) ?step ?fin _ _ _ _ (by simp) ?cnt ?ini
 case dag =>
  intro i o ho
  exact match i,ho with
  | 0,ho => by
   obtain rfl := Option.some.inj ho
   decide
  | 1,ho => by
   obtain rfl := Option.some.inj ho
   decide
  | 2,ho => by
   obtain rfl := Option.some.inj ho
   decide
  | 3,ho => by
   obtain rfl := Option.some.inj ho
   decide
  | 4,ho => by
   obtain rfl := Option.some.inj ho
   decide
  | 5,ho => by
   obtain rfl := Option.some.inj ho
   decide
  | 6,ho => by
   obtain rfl := Option.some.inj ho
   decide
  | 7,ho => by
   obtain rfl := Option.some.inj ho
   decide
  | 8,ho => by
   obtain rfl := Option.some.inj ho
   decide
  | 9,ho => by
   obtain rfl := Option.some.inj ho
   decide
  | 10,ho => by
   obtain rfl := Option.some.inj ho
   decide
  | 11,ho => by
   obtain rfl := Option.some.inj ho
   decide
  | 12,ho => by
   obtain rfl := Option.some.inj ho
   decide
  | 13,ho => by
   obtain rfl := Option.some.inj ho
   decide
  | 14,ho => by
   obtain rfl := Option.some.inj ho
   decide
  | k + 15,ho => by simp at ho
 case cnt => decide
 case ini =>
  refine ⟨0,undef,0,0,0,0,0,undef,undef,undef,undef,undef,undef,undef,undef,undef,undef,undef,undef,undef,undef,undef,rfl,?_⟩
  exact {
   base := ⟨rfl,rfl,rfl,Nat.le_refl _,fun _ _ => rfl⟩
   a16 := fun f => by cases f
   a18 := fun f => by cases f
   a19 := fun f => by cases f
   a21 := fun f => by cases f
   a23 := fun f => by cases f
   a25 := fun f => by cases f
   a27 := fun f => by cases f
   tr := fun f => by cases f
   s := fun f => by cases f
   o := fun f => by cases f
   h := fun f => by cases f
   y := fun f => by cases f
   d1 := fun f => by cases f
   d2 := fun f => by cases f
   d3 := fun f => by cases f
   d4 := fun f => by cases f
   d5 := fun f => by cases f
   d6 := fun f => by cases f
   e1 := fun f => by cases f
   e2 := fun f => by cases f
   e3 := fun f => by cases f
   e4 := fun f => by cases f
   c12 := fun f => by cases f
   c13 := fun f => by cases f
   c14 := fun f => by cases f
   b := fun f => by cases f
   x := fun f => by cases f
   z := fun f => by cases f
  }
 case step =>
  intro F a W i o ho hI hF hd
  obtain ⟨tb',tv',gs,go,gh,gw,mb,v10,v16,v17,v18,v19,v20,v21,v22,v23,v24,v25,v26,v27,v28,v29,rfl,hN⟩ := hI
  exact match i,ho,hF,hd with
  | 0,ho,hF,hd => by
   obtain rfl := Option.some.inj ho
   refine wpOp_plain rfl rfl (wp_mv (.inl rfl) ?_)
   exact ⟨tb',tv',gs,go,gh,gw,mb,v10,Ptr tb,v17,v18,v19,v20,v21,v22,v23,v24,v25,v26,v27,v28,v29,rfl,hN.step0⟩
  | 1,ho,hF,hd => by
   obtain rfl := Option.some.inj ho
   obtain rfl := hN.a16 (hd { on := 0,ground := Ground.data } (by simp) rfl)
   refine wpOp_plain rfl rfl (wp_fn rfl (enters_of Tryz.func114 (by kernel_rfl) rfl) (CopyTree_calls (h.below hN.base) hfs) ?_)
   rintro e w' ⟨tv1,rfl,ht,hb⟩
   exact ⟨_,rfl,⟨W.heap.size,tv1,gs,go,gh,gw,mb,v10,Ptr tb,Ptr W.heap.size,v18,v19,v20,v21,v22,v23,v24,v25,v26,v27,v28,v29,rfl,hN.step1 hF hb ht⟩⟩
  | 2,ho,hF,hd => by
   obtain rfl := Option.some.inj ho
   refine wpOp_plain rfl rfl (wp_mv (.inl rfl) ?_)
   exact ⟨tb',tv',gs,go,gh,gw,mb,v10,v16,v17,.slice p l.length cap,v19,v20,v21,v22,v23,v24,v25,v26,v27,v28,v29,rfl,hN.step2 hF⟩
  | 3,ho,hF,hd => by
   obtain rfl := Option.some.inj ho
   refine wpOp_plain rfl rfl (wp_mv (.inl rfl) ?_)
   exact ⟨tb',tv',gs,go,gh,gw,mb,v10,v16,v17,v18,.int .i64 l.length,v20,v21,v22,v23,v24,v25,v26,v27,v28,v29,rfl,hN.step3⟩
  | 4,ho,hF,hd => by
   obtain rfl := Option.some.inj ho
   obtain ⟨i0,hi,hz0,hz1,hz2⟩ := info_parts Tryz.infoStr
   refine wpOp_plain rfl rfl (wp_mk (B := 0) (n := l.length) rfl Tryz.underlying45 hi hz0 hz1 rfl (hN.a19 (hd { on := 3,ground := Ground.data } (by simp) rfl)) (by rw [hz2];omega) (by unfold maxLen;omega) (Nat.zero_le _) ?_)
   intro w' hp hb _
   exact ⟨tb',tv',W.heap.size,go,gh,gw,mb,v10,v16,v17,v18,v19,SL W.heap.size l.length,v21,v22,v23,v24,v25,v26,v27,v28,v29,rfl,hN.step4 hF hb hp⟩
  | 5,ho,hF,hd => by
   obtain rfl := Option.some.inj ho
   refine wpOp_plain rfl rfl (wp_mv (.inl rfl) ?_)
   exact ⟨tb',tv',gs,go,gh,gw,mb,v10,v16,v17,v18,v19,v20,.int .i64 l.length,v22,v23,v24,v25,v26,v27,v28,v29,rfl,hN.step5⟩
  | 6,ho,hF,hd => by
   obtain rfl := Option.some.inj ho
   obtain ⟨i0,hi,hz0,hz1,hz2⟩ := info_parts Tryz.infoStr
   refine wpOp_plain rfl rfl (wp_mk (B := 0) (n := l.length) rfl Tryz.underlying45 hi hz0 hz1 rfl (hN.a21 (hd { on := 5,ground := Ground.data } (by simp) rfl)) (by rw [hz2];omega) (by unfold maxLen;omega) (Nat.zero_le _) ?_)
   intro w' hp hb _
   exact ⟨tb',tv',gs,W.heap.size,gh,gw,mb,v10,v16,v17,v18,v19,v20,v21,SL W.heap.size l.length,v23,v24,v25,v26,v27,v28,v29,rfl,hN.step6 hF hb hp⟩
  | 7,ho,hF,hd => by
   obtain rfl := Option.some.inj ho
   refine wpOp_plain rfl rfl (wp_mv (.inl rfl) ?_)
   exact ⟨tb',tv',gs,go,gh,gw,mb,v10,v16,v17,v18,v19,v20,v21,v22,.int .i64 l.length,v24,v25,v26,v27,v28,v29,rfl,hN.step7⟩
  | 8,ho,hF,hd => by
   obtain rfl := Option.some.inj ho
   obtain ⟨i0,hi,hz0,hz1,hz2⟩ := info_parts Tryz.infoBool
   refine wpOp_plain rfl rfl (wp_mk (B := 0) (n := l.length) rfl Tryz.underlying80 hi hz0 hz1 rfl (hN.a23 (hd { on := 7,ground := Ground.data } (by simp) rfl)) (by rw [hz2];omega) (by unfold maxLen;omega) (Nat.zero_le _) ?_)
   intro w' hp hb _
   exact ⟨tb',tv',gs,go,W.heap.size,gw,mb,v10,v16,v17,v18,v19,v20,v21,v22,v23,SL W.heap.size l.length,v25,v26,v27,v28,v29,rfl,hN.step8 hF hb hp⟩
  | 9,ho,hF,hd => by
   obtain rfl := Option.some.inj ho
   refine wpOp_plain rfl rfl (wp_mv (.inl rfl) ?_)
   exact ⟨tb',tv',gs,go,gh,gw,mb,v10,v16,v17,v18,v19,v20,v21,v22,v23,v24,.int .i64 l.length,v26,v27,v28,v29,rfl,hN.step9⟩
  | 10,ho,hF,hd => by
   obtain rfl := Option.some.inj ho
   obtain ⟨i0,hi,hz0,hz1,hz2⟩ := info_parts Tryz.infoInt
   refine wpOp_plain rfl rfl (wp_mk (B := 0) (n := l.length) rfl Tryz.underlying68 hi hz0 hz1 rfl (hN.a25 (hd { on := 9,ground := Ground.data } (by simp) rfl)) (by rw [hz2];omega) (by unfold maxLen;omega) (Nat.zero_le _) ?_)
   intro w' hp hb _
   exact ⟨tb',tv',gs,go,gh,W.heap.size,mb,v10,v16,v17,v18,v19,v20,v21,v22,v23,v24,v25,SL W.heap.size l.length,v27,v28,v29,rfl,hN.step10 hF hb hp⟩
  | 11,ho,hF,hd => by
   obtain rfl := Option.some.inj ho
   refine wpOp_plain rfl rfl (wp_mv (.inl rfl) ?_)
   exact ⟨tb',tv',gs,go,gh,gw,mb,v10,v16,v17,v18,v19,v20,v21,v22,v23,v24,v25,v26,.pointer cp,v28,v29,rfl,hN.step11 hF⟩
  | 12,ho,hF,hd => by
   obtain rfl := Option.some.inj ho
   have D1 := (hd { on := 1,ground := Ground.data } (by simp) rfl)
   have D2 := (hd { on := 2,ground := Ground.data } (by simp) rfl)
   have D4 := (hd { on := 4,ground := Ground.data } (by simp) rfl)
   have D6 := (hd { on := 6,ground := Ground.data } (by simp) rfl)
   have D8 := (hd { on := 8,ground := Ground.data } (by simp) rfl)
   have D10 := (hd { on := 10,ground := Ground.data } (by simp) rfl)
   have D11 := (hd { on := 11,ground := Ground.data } (by simp) rfl)
   obtain rfl := hN.a18 D2
   obtain rfl := hN.a27 D11
   obtain ⟨rfl,t2⟩ := hN.tr D1
   obtain ⟨rfl,s2⟩ := hN.s D4
   obtain ⟨rfl,o2⟩ := hN.o D6
   obtain ⟨rfl,h2⟩ := hN.h D8
   obtain ⟨rfl,y2⟩ := hN.y D10
   refine wpOp_plain rfl rfl (wp_bd (cells := #[Ptr tb',.slice p l.length cap,SL gs l.length,SL go l.length,SL gh l.length,SL gw l.length,.pointer cp]) rfl (by kernel_rfl) ?_)
   exact ⟨tb',tv',gs,go,gh,gw,mb,v10,v16,Ptr tb',.slice p l.length cap,v19,SL gs l.length,v21,SL go l.length,v23,SL gh l.length,v25,SL gw l.length,.pointer cp,_,v29,rfl,hN.step12 ⟨D1,D2,D4,D6,D8,D10,D11⟩⟩
  | 13,ho,hF,hd => by
   obtain rfl := Option.some.inj ho
   have D12 := (hd { on := 12,ground := Ground.data } (by simp) rfl)
   obtain ⟨D1,D2,D4,D6,D8,D10,D11⟩ := hN.c12 D12
   obtain rfl := hN.a18 D2
   obtain rfl := hN.a27 D11
   obtain ⟨rfl,t2⟩ := hN.tr D1
   obtain ⟨rfl,s2⟩ := hN.s D4
   obtain ⟨rfl,o2⟩ := hN.o D6
   obtain ⟨rfl,h2⟩ := hN.h D8
   obtain ⟨rfl,y2⟩ := hN.y D10
   obtain rfl := hN.b D12
   refine wpOp_plain rfl rfl (wp_bx rfl rfl (by kernel_rfl) ?_)
   exact ⟨tb',tv',gs,go,gh,gw,W.heap.size,v10,v16,Ptr tb',.slice p l.length cap,v19,SL gs l.length,v21,SL go l.length,v23,SL gh l.length,v25,SL gw l.length,.pointer cp,_,.pointer (some ⟨W.heap.size,0,none⟩),rfl,hN.step13 hF ((Below.refl _ W).alloc (Nat.le_refl _) _) (by simp) D12 ⟨by simp,by simp,by simp,by simp,by simp,by simp,by simp⟩⟩
  | 14,ho,hF,hd => by
   obtain rfl := Option.some.inj ho
   refine wpOp_plain rfl rfl (wp_mv (.inr rfl) ?_)
   exact ⟨tb',tv',gs,go,gh,gw,mb,v29,v16,v17,v18,v19,v20,v21,v22,v23,v24,v25,v26,v27,v28,v29,rfl,hN.step14 (hd { on := 13,ground := Ground.data } (by simp) rfl)⟩
  | k + 15,ho,_,_ => by simp at ho
 case fin =>
  intro F a W hI hall
  obtain ⟨tb',tv',gs,go,gh,gw,mb,v10,v16,v17,v18,v19,v20,v21,v22,v23,v24,v25,v26,v27,v28,v29,rfl,hN⟩ := hI
  obtain ⟨rfl,t2⟩ := hN.tr (hall 1 (by omega))
  obtain rfl := hN.a16 (hall 0 (by omega))
  obtain rfl := hN.a18 (hall 2 (by omega))
  obtain rfl := hN.a19 (hall 3 (by omega))
  obtain rfl := hN.a21 (hall 5 (by omega))
  obtain rfl := hN.a23 (hall 7 (by omega))
  obtain rfl := hN.a25 (hall 9 (by omega))
  obtain rfl := hN.a27 (hall 11 (by omega))
  obtain ⟨rfl,s1,s2⟩ := hN.s (hall 4 (by omega))
  obtain ⟨rfl,o1,o2⟩ := hN.o (hall 6 (by omega))
  obtain ⟨rfl,h1,h2⟩ := hN.h (hall 8 (by omega))
  obtain ⟨rfl,y1,y2⟩ := hN.y (hall 10 (by omega))
  obtain rfl := hN.b (hall 12 (by omega))
  obtain ⟨rfl,x1,x2,⟨k0,k1,k2,k3,k4,k5,k6⟩,x3,x4,x5,x6⟩ := hN.x (hall 13 (by omega))
  obtain rfl := hN.z (hall 14 (by omega))
  have M0 : MBr w W mb tb' tv' (.slice p l.length cap) (.pointer cp) gs go gh gw l fs (fun _ => .string ⟨#[]⟩) (fun _ => .string ⟨#[]⟩) (fun _ => .bool false) (fun _ => .int .i64 0) :=
   ⟨hN.base,HRow.out,⟨x1,s1,o1,h1,y1⟩,k0,k1,k2,k3,k4,k5,k6,s2,o2,h2,y2,t2,⟨hN.d1 (hall 4 (by omega)) (hall 6 (by omega)),hN.d2 (hall 4 (by omega)) (hall 8 (by omega)),hN.d3 (hall 4 (by omega)) (hall 10 (by omega)),hN.d4 (hall 6 (by omega)) (hall 8 (by omega)),hN.d5 (hall 6 (by omega)) (hall 10 (by omega)),hN.d6 (hall 8 (by omega)) (hall 10 (by omega))⟩,⟨x3,x4,x5,x6⟩,fun j hj => ⟨hN.e1 (hall 1 (by omega)) (hall 4 (by omega)) j hj,hN.e2 (hall 1 (by omega)) (hall 6 (by omega)) j hj,hN.e3 (hall 1 (by omega)) (hall 8 (by omega)) j hj,hN.e4 (hall 1 (by omega)) (hall 10 (by omega)) j hj⟩⟩
  have HM := hid1 M0
  have HNb := hid1 (HNe.out W hN.base)
  clear hN k0 k1 k2 k3 k4 k5 k6 s2 o2 h2 y2 t2 M0 hall HNe
  unfold NFr
  go_wp2_with fail
  refine HNb.out.mono ?_
  rintro e w2 ⟨u,r,rfl,g2,hr⟩
  have HM2 := hid1 (HM.out.below g2)
  clear HNb
  rcases hr with ⟨k,rfl,hk,q1,q2,rfl⟩ | ⟨rfl,q1,g,f,rfl,hO,hNd⟩
  ·exfalso
   obtain ⟨x,hx,e⟩ := HAll.out k hk
   exact q1 x hx e
  ·have HOf := hid1 hO
   have HNd := hid1 hNd
   clear hO hNd q1
   have hgg := (World.ownsRow.lt HOf.out g rfl).1
   have hgs : gs < W.heap.size := HM.out.rs.1
   have HC : Hid (∀ j,j < l.length → w2.cell? ⟨g,j,none⟩ = some (.bool (f j))) := hid1 fun j hj => HOf.out.cell hj
   clear HOf
   go_wp2
   go_loopw [13] (fun iv wr => ∃ k : Nat,k ≤ l.length ∧ iv = .int .i64 k ∧ MBr w wr mb tb' tv' (.slice p l.length cap) (.pointer cp) gs go gh gw l fs (fun j => if j < k ∧ f j = true then .string ⟨#[119,97,105,116,115]⟩ else .string ⟨#[]⟩) (fun _ => .string ⟨#[]⟩) (fun _ => .bool false) (fun _ => .int .i64 0) ∧ ∀ j,j < l.length → wr.cell? ⟨g,j,none⟩ = some (.bool (f j))) (fun iv _ => l.length - (intOf iv).toNat)
   case atStart =>
    refine ⟨0,Nat.zero_le _,rfl,?_,HC.out⟩
    have e : (fun j : Nat => if j < 0 ∧ f j = true then (.string ⟨#[119,97,105,116,115]⟩ : Value) else .string ⟨#[]⟩) = fun _ => .string ⟨#[]⟩ := funext fun j => if_neg fun x => by omega
    rw [e]
    exact HM2.out
   case round =>
    clear HM HM2 HC
    obtain ⟨k,hk,rfl,hM,hC⟩ := hrel
    have k0 : (0 : Int) ≤ (k : Int) := by omega
    by_cases hkl : k < l.length
    ·have k1 : (k : Int) < (l.length : Int) := by omega
     have ck := hC k hkl
     have c2 := hM.c2
     have r1 := (hM.rs.2 k hkl).1
     have r2 := (hM.rs.2 k hkl).2
     have HMk := hid1 hM
     have HCk := hid1 hC
     cases hfk : f k with
     | false =>
      rw [hfk] at ck
      have HNx : Hid (MBr w wr mb tb' tv' (.slice p l.length cap) (.pointer cp) gs go gh gw l fs (fun j => if j < k + 1 ∧ f j = true then .string ⟨#[119,97,105,116,115]⟩ else .string ⟨#[]⟩) (fun _ => .string ⟨#[]⟩) (fun _ => .bool false) (fun _ => .int .i64 0)) := hid1 (by
       have e : (fun j : Nat => if j < k + 1 ∧ f j = true then (.string ⟨#[119,97,105,116,115]⟩ : Value) else .string ⟨#[]⟩) = fun j => if j < k ∧ f j = true then .string ⟨#[119,97,105,116,115]⟩ else .string ⟨#[]⟩ := funext fun j => by
        by_cases e : j = k
        ·subst e
         rw [hfk]
         simp
        ·have : (j < k + 1 ∧ f j = true) ↔ (j < k ∧ f j = true) := ⟨fun x => ⟨by have := x.1;omega,x.2⟩,fun x => ⟨by have := x.1;omega,x.2⟩⟩
         simp only [this]
       rw [e]
       exact hM)
      clear hM hC c2 r1 r2
      go_wp2
      exact ⟨⟨k + 1,by omega,by go_num,HNx.out,HCk.out⟩,by simp [intOf];omega⟩
     | true =>
      rw [hfk] at ck
      have HNx : Hid (MBr w (wr.setCell ⟨gs,k,none⟩ (.string ⟨#[119,97,105,116,115]⟩)) mb tb' tv' (.slice p l.length cap) (.pointer cp) gs go gh gw l fs (fun j => if j < k + 1 ∧ f j = true then .string ⟨#[119,97,105,116,115]⟩ else .string ⟨#[]⟩) (fun _ => .string ⟨#[]⟩) (fun _ => .bool false) (fun _ => .int .i64 0)) := hid1 (by
       have m1 := hM.setS hkl (.string ⟨#[119,97,105,116,115]⟩)
       have e : upd (fun j : Nat => if j < k ∧ f j = true then (.string ⟨#[119,97,105,116,115]⟩ : Value) else .string ⟨#[]⟩) k (.string ⟨#[119,97,105,116,115]⟩) = fun j => if j < k + 1 ∧ f j = true then .string ⟨#[119,97,105,116,115]⟩ else .string ⟨#[]⟩ := funext fun j => by
        unfold upd
        by_cases e : j = k
        ·subst e
         rw [hfk]
         simp
        ·have : (j < k + 1 ∧ f j = true) ↔ (j < k ∧ f j = true) := ⟨fun x => ⟨by have := x.1;omega,x.2⟩,fun x => ⟨by have := x.1;omega,x.2⟩⟩
         rw [if_neg e]
         simp only [this]
       rw [e] at m1
       exact m1)
      have HCx : Hid (∀ j,j < l.length → (wr.setCell ⟨gs,k,none⟩ (.string ⟨#[119,97,105,116,115]⟩)).cell? ⟨g,j,none⟩ = some (.bool (f j))) := hid1 fun j hj => (World.cell?_of_block (a := ⟨g,j,none⟩) (Below.heap_setCell wr ⟨gs,k,none⟩ _ g (by show g ≠ gs;omega))).trans (hC j hj)
      clear hM hC
      go_wp2
      exact ⟨⟨k + 1,by omega,by go_num,HNx.out,HCx.out⟩,by simp [intOf];omega⟩
    ·have k1 : (l.length : Int) ≤ (k : Int) := by omega
     obtain rfl : k = l.length := by omega
     have HMk := hid1 hM
     clear hM hC
     go_wp2
     go_ret
     refine ⟨mb,tb',tv',gs,go,gh,gw,rfl,?_⟩
     have hm := HMk.out
     have e1 : (fun j : Nat => if j < l.length ∧ f j = true then (.string ⟨#[119,97,105,116,115]⟩ : Value) else .string ⟨#[]⟩) = nameV (Bf.init fs l outs).st := funext fun j => by
      show _ = Value.string (ba (if Bf.need l outs j = true then Bf.St.waits else Bf.St.no).name)
      by_cases hj : j < l.length
      ·rw [Bf.need_eq HNd.out hj]
       by_cases hf : f j = true
       ·rw [if_pos ⟨hj,hf⟩,if_pos hf];rfl
       ·rw [if_neg fun x => hf x.2,if_neg hf];rfl
      ·rw [if_neg fun x => hj x.1,Bf.need_out (by omega)];rfl
     have e2 : (fun _ : Nat => (.string ⟨#[]⟩ : Value)) = outV (Bf.init fs l outs).st := funext fun j => by
      show _ = Value.string (ba (if Bf.need l outs j = true then Bf.St.waits else Bf.St.no).out)
      split <;> rfl
     have e3 : (fun _ : Nat => (.bool false : Value)) = hitV (Bf.init fs l outs).st := funext fun j => by
      show _ = Value.bool (if Bf.need l outs j = true then Bf.St.waits else Bf.St.no).hit
      split <;> rfl
     have e4 : (fun _ : Nat => (.int .i64 0 : Value)) = whyV (Bf.init fs l outs).st := funext fun j => by
      show _ = Value.int .i64 ((if Bf.need l outs j = true then Bf.St.waits else Bf.St.no).why : Nat)
      split <;> rfl
     rw [e1,e2,e3,e4] at hm
     exact hm
open Go.RowKit Go.Shelf Go.Lib Go.Maps
open Tf (Fs)
theorem isPath_hid (p : List UInt8) (hp : p.length ≤ 1000000) (x : Bool) (h : pathB p = x) (w : World) : Hid (Calls Tryz.prog 79 #[.string (ba p)] w fun e w' => e = .returned (.bool x) ∧ Below w.heap.size w w') := by
 have := IsPath_calls p hp w
 rw [← pathB_R,h] at this
 exact this
theorem rPut_name (w : World) (tb : Nat) (p b : List UInt8) (hp : p.length ≤ 1000000) (hn : pathB p = false) :
  Calls Tryz.prog 18 #[Ptr tb,.string (ba p),.string (ba b)] w fun e w' => e = .returned (.int .i64 4) ∧ Below w.heap.size w w' := by
 have HI := isPath_hid p hp false hn w
 clear hn
 go_enter Tryz.func18,Tryz.ntmps18
 go_wp2_with fail
 refine HI.out.mono ?_
 rintro e w1 ⟨rfl,g1⟩
 go_wp2
 go_ret
 exact ⟨rfl,g1⟩
theorem rPut_bound (w : World) (tb : Nat) (p b : List UInt8) (hp : p.length ≤ 1000000) (hn : pathB p = true) (hb : 2000 < b.length) :
  Calls Tryz.prog 18 #[Ptr tb,.string (ba p),.string (ba b)] w fun e w' => e = .returned (.int .i64 2) ∧ Below w.heap.size w w' := by
 have HI := isPath_hid p hp true hn w
 have z : (2000 : Int) < (b.length : Int) := by omega
 clear hn hb
 go_enter Tryz.func18,Tryz.ntmps18
 go_wp2_with fail
 refine HI.out.mono ?_
 rintro e w1 ⟨rfl,g1⟩
 go_wp2
 go_ret
 exact ⟨rfl,g1⟩
theorem first_clash : ∀ {fs : Fs} {p : List UInt8},Tf.clash fs p = true → ∃ k,∃ hk : k < fs.length,(Tf.above fs[k].1 p || Tf.above p fs[k].1) = true ∧ ∀ j (hj : j < fs.length),j < k → (Tf.above fs[j].1 p || Tf.above p fs[j].1) = false
 | f :: r,p,h => by
  cases hf : (Tf.above f.1 p || Tf.above p f.1) with
  | true => exact ⟨0,by simp,hf,fun j _ h => absurd h (Nat.not_lt_zero _)⟩
  | false =>
   have hr : Tf.clash r p = true := by
    unfold Tf.clash at h ⊢
    rw [List.any_cons,hf,Bool.false_or] at h
    exact h
   obtain ⟨k,hk,h1,h2⟩ := first_clash hr
   refine ⟨k + 1,by simpa using hk,h1,fun j hj hjk => ?_⟩
   cases j with
   | zero => exact hf
   | succ j => exact h2 j (by simpa using hj) (by omega)
theorem rPut_clash {B : Nat} {w : World} {tb : Nat} {fs : Fs} {v : Value} (h : RTreeAt B w tb fs v) (hlen : ∀ f ∈ fs,f.1.length ≤ 1000000) (hfew : fs.length ≤ 1000) (p b : List UInt8) (hp : p.length ≤ 1000000) (hn : pathB p = true) (hb : b.length ≤ 2000) (hc : Tf.clash fs p = true) :
  Calls Tryz.prog 18 #[Ptr tb,.string (ba p),.string (ba b)] w fun e w' => e = .returned (.int .i64 7) ∧ Below w.heap.size w w' := by
 have HI := isPath_hid p hp true hn w
 have HA : Hid (∀ (a c : List UInt8),a.length ≤ 1000000 → c.length ≤ 1000000 → ∀ W,Calls Tryz.prog 80 #[.string (ba a),.string (ba c)] W fun e w' => e = .returned (.bool (Tf.above a c)) ∧ w' = W) := fun a c ha hc W => rabove_calls a c ha hc W
 obtain ⟨k0,hk0,hcl,hno⟩ := first_clash hc
 have z : (b.length : Int) ≤ 2000 := by omega
 have zn : (fs.length : Int) ≤ 1000 := by omega
 clear hn hb hc
 go_enter Tryz.func18,Tryz.ntmps18
 go_wp2_with fail
 refine HI.out.mono ?_
 rintro e w1 ⟨rfl,g1⟩
 have h1 := h.below g1
 have hcell := h1.cell
 obtain ⟨pa,cap,rfl,hcap,hin⟩ := FRow.of_owns h1.row
 clear HI h h1
 go_wp2
 go_loopw [8] (fun i wr => ∃ k : Nat,k ≤ k0 ∧ i = .int .i64 k ∧ wr = w1) (fun i _ => k0 - (intOf i).toNat)
 case atStart => exact ⟨0,Nat.zero_le _,rfl,rfl⟩
 case round =>
  obtain ⟨k,hk,rfl,rfl⟩ := hrel
  have hlt : k < fs.length := by omega
  obtain ⟨g,cur,rfl,hg,hcur⟩ := hin (by intro e;rw [e] at hlt;simp at hlt)
  have hx := cell_of_row hg (hcur k hlt).1
  have hxl := hlen _ (List.getElem_mem hlt)
  have c1 : (k : Int) < (fs.length : Int) := by omega
  have c0 : (0 : Int) ≤ (k : Int) := by omega
  have A1 : Hid (∀ W,Calls Tryz.prog 80 #[.string (ba p),.string (ba fs[k].1)] W fun e w' => e = .returned (.bool (Tf.above p fs[k].1)) ∧ w' = W) := HA.out p _ hp hxl
  have A2 : Hid (∀ W,Calls Tryz.prog 80 #[.string (ba fs[k].1),.string (ba p)] W fun e w' => e = .returned (.bool (Tf.above fs[k].1 p)) ∧ w' = W) := HA.out _ p hxl hp
  have hor : (Tf.above fs[k].1 p || Tf.above p fs[k].1) = decide (k = k0) := by
   rcases Nat.lt_or_ge k k0 with h2 | h2
   ·rw [hno k hlt h2];simp;omega
   ·obtain rfl : k = k0 := by omega
    rw [hcl];simp
  clear hin hcur hg
  generalize fs[k].1 = x at *
  cases a1 : Tf.above p x with
  | true =>
   rw [a1] at A1 hor
   clear A2
   go_wp2_with fail
   refine (A1.out _).mono ?_
   rintro e w' ⟨rfl,rfl⟩
   go_wp2
   go_ret
   exact ⟨rfl,g1⟩
  | false =>
   rw [a1] at A1 hor
   cases a2 : Tf.above x p with
   | true =>
    rw [a2] at A2
    go_wp2_with fail
    refine (A1.out _).mono ?_
    rintro e w' ⟨rfl,rfl⟩
    go_wp2_with fail
    refine (A2.out _).mono ?_
    rintro e w' ⟨rfl,rfl⟩
    go_wp2
    go_ret
    exact ⟨rfl,g1⟩
   | false =>
    rw [a2] at A2 hor
    have hkk : k ≠ k0 := by intro e;subst e;simp at hor
    go_wp2_with fail
    refine (A1.out _).mono ?_
    rintro e w' ⟨rfl,rfl⟩
    go_wp2_with fail
    refine (A2.out _).mono ?_
    rintro e w' ⟨rfl,rfl⟩
    go_wp2
    go_roundw
    case rel => exact ⟨k + 1,by omega,by go_num,by first | rfl | trivial⟩
    case measure => simp [intOf];omega
theorem ins_mid (x : List UInt8 × List UInt8) : ∀ (l1 l2 : Fs),(∀ f ∈ l1,bytesBefore f.1 x.1 = true) → (∀ f ∈ l2,bytesBefore x.1 f.1 = true) → Tf.ins x (l1 ++ l2) = l1 ++ x :: l2
 | [],[],_,_ => rfl
 | [],f :: r,_,h => by
  show Tf.ins x (f :: r) = _
  unfold Tf.ins
  rw [if_pos (h f (by simp))]
  rfl
 | f :: r,l2,h1,h2 => by
  show Tf.ins x (f :: (r ++ l2)) = _
  unfold Tf.ins
  have hb := h1 f (by simp)
  rw [if_neg (by
   intro e
   have := WideShapes.bytes_trans _ _ _ hb e
   rw [WideAt.bytes_irrefl] at this
   cases this),ins_mid x r l2 (fun g hg => h1 g (List.mem_cons_of_mem _ hg)) h2]
  rfl
theorem rises_ne {fs : Fs} (hr : Tf.Rises fs) {i j : Nat} (hi : i < fs.length) (hj : j < fs.length) (hij : i ≠ j) : fs[i].1 ≠ fs[j].1 := by
 intro e
 rcases Nat.lt_or_ge i j with h | h
 ·have := List.pairwise_iff_getElem.1 hr i j hi hj h
  rw [e,WideAt.bytes_irrefl] at this
  cases this
 ·have := List.pairwise_iff_getElem.1 hr j i hj hi (by omega)
  rw [e,WideAt.bytes_irrefl] at this
  cases this
theorem put_set {fs : Fs} (hr : Tf.Rises fs) {k : Nat} (hk : k < fs.length) (b : List UInt8) : Tf.put fs fs[k].1 b = fs.set k (fs[k].1,b) := by
 have hd : Tf.del fs fs[k].1 = fs.take k ++ fs.drop (k + 1) := by
  have e : fs = fs.take k ++ fs[k] :: fs.drop (k + 1) := by rw [List.getElem_cons_drop,List.take_append_drop]
  unfold Tf.del
  conv => lhs;arg 2;rw [e]
  rw [List.filter_append,List.filter_cons_of_neg (by simp)]
  congr 1
  ·rw [List.filter_eq_self]
   intro f hf
   obtain ⟨j,hj,rfl⟩ := List.mem_iff_getElem.1 hf
   rw [List.length_take] at hj
   rw [List.getElem_take]
   simpa using rises_ne hr (by omega) hk (by omega)
  ·rw [List.filter_eq_self]
   intro f hf
   obtain ⟨j,hj,rfl⟩ := List.mem_iff_getElem.1 hf
   rw [List.length_drop] at hj
   rw [List.getElem_drop]
   simpa using rises_ne hr (by omega) hk (by omega)
 unfold Tf.put
 rw [hd,ins_mid (fs[k].1,b) (fs.take k) (fs.drop (k + 1)) (fun f hf => hr.before_at hk f hf) (fun f hf => ?_),List.set_eq_take_append_cons_drop,if_pos hk]
 obtain ⟨j,hj,rfl⟩ := List.mem_iff_getElem.1 hf
 rw [List.length_drop] at hj
 rw [List.getElem_drop]
 exact List.pairwise_iff_getElem.1 hr k (k + 1 + j) hk (by omega) (by omega)
theorem put_new {fs : Fs} (hr : Tf.Rises fs) {p b : List UInt8} (ht : Tf.hasP fs p = false) {k : Nat} (hk : k ≤ fs.length) (hb : ∀ j (hj : j < fs.length),j < k → bytesBefore fs[j].1 p = true) (ha : ∀ (hj : k < fs.length),bytesBefore fs[k].1 p = false) :
  Tf.put fs p b = fs.take k ++ (p,b) :: fs.drop k := by
 unfold Tf.put
 rw [Tf.del_none ht]
 conv => lhs;arg 2;rw [← List.take_append_drop k fs]
 refine ins_mid _ _ _ (fun f hf => ?_) (fun f hf => ?_)
 ·obtain ⟨j,hj,rfl⟩ := List.mem_iff_getElem.1 hf
  rw [List.length_take] at hj
  rw [List.getElem_take]
  exact hb j (by omega) (by omega)
 ·obtain ⟨j,hj,rfl⟩ := List.mem_iff_getElem.1 hf
  rw [List.length_drop] at hj
  rw [List.getElem_drop]
  have hkl : k < fs.length := by omega
  have h1 : bytesBefore p fs[k].1 = true := by
   rcases WideAt.bytes_total fs[k].1 p (fun e => by
    have := List.any_eq_false.1 ht _ (List.getElem_mem hkl)
    simp [e] at this) with h | h
   ·rw [ha hkl] at h;cases h
   ·exact h
  cases j with
  | zero => simpa using h1
  | succ j => exact WideShapes.bytes_trans _ _ _ h1 (List.pairwise_iff_getElem.1 hr k (k + (j + 1)) hkl (by omega) (by omega))
theorem entCells_set : ∀ (fs : Fs) (k : Nat) (x : List UInt8 × List UInt8),k < fs.length → ((entCells fs).set (k * 2) (.string (ba x.1))).set (k * 2 + 1) (.string (ba x.2)) = entCells (fs.set k x)
 | f :: r,0,x,_ => by simp [entCells]
 | f :: r,k + 1,x,h => by
  have ih := entCells_set r k x (by simpa using h)
  have e1 : entCells (f :: r) = .string (ba f.1) :: .string (ba f.2) :: entCells r := by simp [entCells]
  have e2 : entCells (f :: r.set k x) = .string (ba f.1) :: .string (ba f.2) :: entCells (r.set k x) := by simp [entCells]
  rw [List.set_cons_succ,e1,e2,← ih,show (k + 1) * 2 = k * 2 + 1 + 1 by omega]
  rfl
theorem rPut_full {B : Nat} {w : World} {tb : Nat} {fs : Fs} {v : Value} (h : RTreeAt B w tb fs v) (hlen : ∀ f ∈ fs,f.1.length ≤ 1000000) (hfew : fs.length ≤ 1000) (p b : List UInt8) (hp : p.length ≤ 1000000) (hn : pathB p = true) (hb : b.length ≤ 2000) (hc : Tf.clash fs p = false) (ht : Tf.hasP fs p = false) (h60 : 60 ≤ fs.length) :
  Calls Tryz.prog 18 #[Ptr tb,.string (ba p),.string (ba b)] w fun e w' => e = .returned (.int .i64 8) ∧ Below w.heap.size w w' := by
 have HI := isPath_hid p hp true hn w
 have HA : Hid (∀ (a c : List UInt8),a.length ≤ 1000000 → c.length ≤ 1000000 → ∀ W,Calls Tryz.prog 80 #[.string (ba a),.string (ba c)] W fun e w' => e = .returned (.bool (Tf.above a c)) ∧ w' = W) := fun a c ha hc W => rabove_calls a c ha hc W
 have hno : ∀ j (hj : j < fs.length),Tf.above fs[j].1 p = false ∧ Tf.above p fs[j].1 = false := fun j hj => by
  have := List.any_eq_false.1 (show (fs.any fun f => Tf.above f.1 p || Tf.above p f.1) = false from hc) _ (List.getElem_mem hj)
  simpa using this
 have z : (b.length : Int) ≤ 2000 := by omega
 have zn : (fs.length : Int) ≤ 1000 := by omega
 clear hn hb hc
 go_enter Tryz.func18,Tryz.ntmps18
 go_wp2_with fail
 refine HI.out.mono ?_
 rintro e w1 ⟨rfl,g1⟩
 have h1 := h.below g1
 have HF := rFind_calls h1 hfew p
 have hcell := h1.cell
 have hrow := FRow.of_owns h1.row
 obtain ⟨pa,cap,rfl,hcap,hin⟩ := hrow
 clear HI
 go_wp2
 go_loopw [8] (fun i wr => ∃ k : Nat,k ≤ fs.length ∧ i = .int .i64 k ∧ wr = w1) (fun i _ => fs.length - (intOf i).toNat)
 case atStart => exact ⟨0,Nat.zero_le _,rfl,rfl⟩
 case round =>
  obtain ⟨k,hk,rfl,rfl⟩ := hrel
  by_cases hlt : k < fs.length
  ·obtain ⟨g,cur,rfl,hg,hcur⟩ := hin (by intro e;rw [e] at hlt;simp at hlt)
   have hx := cell_of_row hg (hcur k hlt).1
   have hxl := hlen _ (List.getElem_mem hlt)
   have c1 : (k : Int) < (fs.length : Int) := by omega
   have c0 : (0 : Int) ≤ (k : Int) := by omega
   have A1 : Hid (∀ W,Calls Tryz.prog 80 #[.string (ba p),.string (ba fs[k].1)] W fun e w' => e = .returned (.bool false) ∧ w' = W) := fun W => by
    have := HA.out p _ hp hxl W
    rw [(hno k hlt).2] at this
    exact this
   have A2 : Hid (∀ W,Calls Tryz.prog 80 #[.string (ba fs[k].1),.string (ba p)] W fun e w' => e = .returned (.bool false) ∧ w' = W) := fun W => by
    have := HA.out _ p hxl hp W
    rw [(hno k hlt).1] at this
    exact this
   clear hin hcur hg HF h1
   generalize fs[k].1 = x at *
   go_wp2_with fail
   refine (A1.out _).mono ?_
   rintro e w' ⟨rfl,rfl⟩
   go_wp2_with fail
   refine (A2.out _).mono ?_
   rintro e w' ⟨rfl,rfl⟩
   go_wp2
   go_roundw
   case rel => exact ⟨k + 1,by omega,by go_num,by first | rfl | trivial⟩
   case measure => simp [intOf];omega
  ·have c1 : (fs.length : Int) ≤ (k : Int) := by omega
   clear HA hno
   go_wp2_with fail
   refine HF.mono ?_
   rintro e w2 ⟨hr,rfl⟩
   have z60 : (60 : Int) ≤ (fs.length : Int) := by omega
   rcases hr with ⟨k',hk',_,hp'⟩ | ⟨_,rfl⟩
   ·exfalso
    have : Tf.hasP fs p = true := List.any_eq_true.2 ⟨fs[k'],List.getElem_mem hk',by simp [hp']⟩
    rw [this] at ht
    cases ht
   ·clear hin
    go_wp2
    go_ret
    exact ⟨rfl,g1⟩
theorem Tryz.infoRFile : (Tryz.prog.info? 51).map (fun i => (i.zero,i.size,i.bytes)) = some (some (.agg #[.string ⟨#[]⟩,.string ⟨#[]⟩]),2,32) := by kernel_rfl
theorem entCells_take : ∀ (fs : Fs) (k : Nat),entCells (fs.take k) = (entCells fs).take (k * 2)
 | fs,0 => by simp [entCells]
 | [],k + 1 => by simp [entCells]
 | f :: r,k + 1 => by
  have e1 : ∀ l : Fs,entCells (f :: l) = .string (ba f.1) :: .string (ba f.2) :: entCells l := fun l => by simp [entCells]
  rw [List.take_succ_cons,e1,e1,entCells_take r k,show (k + 1) * 2 = k * 2 + 1 + 1 by omega]
  rfl
theorem entCells_drop : ∀ (fs : Fs) (k : Nat),entCells (fs.drop k) = (entCells fs).drop (k * 2)
 | fs,0 => by simp
 | [],k + 1 => by simp [entCells]
 | f :: r,k + 1 => by
  have e1 : entCells (f :: r) = .string (ba f.1) :: .string (ba f.2) :: entCells r := by simp [entCells]
  rw [List.drop_succ_cons,e1,entCells_drop r k,show (k + 1) * 2 = k * 2 + 1 + 1 by omega]
  rfl
theorem entCells_app (a b : Fs) : entCells (a ++ b) = entCells a ++ entCells b := by simp [entCells]
theorem entCells_one (fs : Fs) : ∀ u ∈ entCells fs,u.oneCell' = true := by
 intro u hu
 obtain ⟨e,_,h⟩ := List.mem_flatMap.1 hu
 rcases List.mem_cons.1 h with rfl | h
 ·rfl
 ·obtain rfl : u = .string (ba e.2) := by simpa using h
  rfl
structure Made (B : Nat) (w w' : World) (tb : Nat) (v : Value) (l : Fs) : Prop where
 row : w'.ownsRow B 51 2 v l.length (entCells l)
 new : ∀ g,v.ownBlock = some g → w.heap.size ≤ g
 below : Below w.heap.size w w'
theorem Made.start (B : Nat) (w : World) (tb : Nat) : Made B w w tb (.slice none 0 0) [] := ⟨World.ownsRow_nil _ _ _ _,(fun _ h => by cases h),Below.refl _ _⟩
theorem Made.cell {B : Nat} {w w' : World} {tb : Nat} {v : Value} {l : Fs} (h : Made B w w' tb v l) {a : Addr} {u : Value} (hc : w.cell? a = some u) : w'.cell? a = some u := cell_below' hc h.below
theorem Made.more {B : Nat} {w w1 w2 : World} {tb : Nat} {v v' : Value} {l m : Fs} {row : Option Nat} (h : Made B w w1 tb v l) (o : w2.ownsRow B 51 2 v' (l.length + m.length) (entCells l ++ entCells m)) (gr : w1.grownBy w2 row) (hrow : row = v.ownBlock) (loc : v'.ownBlock = v.ownBlock ∨ v'.ownBlock = some w1.heap.size) : Made B w w2 tb v' (l ++ m) := by
 subst hrow
 refine ⟨by rw [entCells_app,List.length_append];exact o,fun g hg => ?_,h.below.grown gr h.below.size h.new⟩
 rcases loc with e | e
 ·exact h.new g (e ▸ hg)
 ·rw [e] at hg;cases hg;exact h.below.size
theorem Made.shape {B : Nat} {w w' : World} {tb : Nat} {v : Value} {l : Fs} (h : Made B w w' tb v l) (hne : l ≠ []) (N : Nat) (hN : l.length = N) : ∃ g c,v = .slice (some ⟨g,0,none⟩) N c := by
 subst hN
 rcases h.row.2 with ⟨_,h0⟩ | ⟨g,c,cur,rfl,_⟩
 ·exact absurd (List.length_eq_zero_iff.1 h0) hne
 ·exact ⟨g,c,rfl⟩
theorem Made.alloc {B : Nat} {w w1 : World} {tb : Nat} {v : Value} {l : Fs} (h : Made B w w1 tb v l) (o : Obj) : Made B w (w1.alloc o) tb v l := ⟨h.row.alloc o,h.new,h.below.alloc h.below.size o⟩
theorem well_len {fs : Fs} (h : Tf.Well pathB fs) : ∀ f ∈ fs,f.1.length ≤ 64 := by
 intro f hf
 have h1 := (h.each f hf).1
 unfold pathB allB at h1
 simp only [Bool.and_eq_true,decide_eq_true_eq,List.all_eq_true] at h1
 have h2 : ∀ x ∈ Kf.parts f.1,x.length ≤ 12 := fun x hx => by
  have := h1.2 x hx
  unfold nameK at this
  simp only [Bool.and_eq_true,decide_eq_true_eq] at this
  have e : (ba x).size = x.length := ba_size x
  revert this
  simp [e]
  omega
 have h3 := Kf.tot_parts f.1
 have h4 : Kf.tot (Kf.parts f.1) ≤ (Kf.parts f.1).length * 13 := by
  generalize Kf.parts f.1 = l at h2
  clear h1 h3
  induction l with
  | nil => simp [Kf.tot]
  | cons x r ih =>
   have := ih fun y hy => h2 y (List.mem_cons_of_mem _ hy)
   have := h2 x (by simp)
   simp [Kf.tot] at *
   omega
 omega
theorem Made.shape2 {B : Nat} {w w' : World} {tb : Nat} {v : Value} {l : Fs} (h : Made B w w' tb v l) (hne : l ≠ []) (N : Nat) (hN : l.length = N) : ∃ g c,v = .slice (some ⟨g,0,none⟩) N c ∧ N ≤ c := by
 subst hN
 rcases h.row.2 with ⟨_,h0⟩ | ⟨g,c,cur,rfl,_,_,h1,_⟩
 ·exact absurd (List.length_eq_zero_iff.1 h0) hne
 ·exact ⟨g,c,rfl,h1⟩
theorem well_clash {fs : Fs} (hw : Tf.Well pathB fs) {p : List UInt8} (ht : Tf.hasP fs p = true) : Tf.clash fs p = false := by
 obtain ⟨g,hg,e⟩ := List.any_eq_true.1 ht
 obtain rfl : g.1 = p := by simpa using e
 unfold Tf.clash
 rw [List.any_eq_false]
 intro f hf
 rw [hw.apart f hf g hg,hw.apart g hg f hf]
 simp
end Go.Proofs.YtflbofdpfgkmcaaGreatDoor
