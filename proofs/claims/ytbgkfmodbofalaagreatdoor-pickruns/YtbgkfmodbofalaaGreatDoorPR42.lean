import Derived.Test.YtbgkfmodbofalaaGreatDoorPR41
set_option maxRecDepth 100000
set_option maxHeartbeats 16000000
namespace Go.Proofs.YtbgkfmodbofalaaGreatDoor
open Go.RowKit Go.Shelf Go.Lib
theorem Zjd {w : World} {B : Nat} {tb : Nat} {fs : Tf.Fs} {tv : Value} (h : RTreeAt B w tb fs tv) (hfs : fs.length <= 1000) (p : Option Addr) (cap : Nat) (l : List Ru) (hrow : RRow w (.slice p l.length cap) l) (hn : l.length <= 1000) (hI : ∀ x ∈ l,x.ins.length <= 1000000) (vo : Value) (outs : List (List UInt8)) (hro : IRow w vo outs) (hno : outs.length <= 1000) (hall : ∀ j (hj : j < outs.length),∃ x ∈ l,x.out = outs[j]) (cp : Option Addr) :
  Calls Tryz.prog 71 #[Ptr tb,.slice p l.length cap,vo,.pointer cp] w fun e w' => ∃ mb tb' tv' gs go gh gw,e = .returned (.pointer (some ⟨mb,0,none⟩)) /\ MB w w' mb tb' tv' (.slice p l.length cap) (.pointer cp) gs go gh gw (Bf.init fs l outs) := by
 have HNe := hid1 fun (V : World) (g : Below w.heap.size w V) => Zea (.slice p l.length cap) l (hrow.below g) hn hI vo outs (hro.below g) hno
 have HRow := hid1 hrow;have HAll := hid1 hall;clear hrow hro hall;go_enter Tryz.func71,Tryz.ntmps71
 go_wp2;refine wp_region_any (by kernel_rfl) ?_
 refine Zty (n := 15) rfl ?dag (fun F a W => ∃ tb' tv' gs go gh gw mb v10 v16 v17 v18 v19 v20 v21 v22 v23 v24 v25 v26 v27 v28 v29,a = NFr (Ptr tb) (.slice p l.length cap) vo (.pointer cp) l.length v10 v16 v17 v18 v19 v20 v21 v22 v23 v24 v25 v26 v27 v28 v29 /\ NB w tb fs p cap cp l.length F W tb' tv' gs go gh gw mb v10 v16 v17 v18 v19 v20 v21 v22 v23 v24 v25 v26 v27 v28 v29) ?step ?fin _ _ _ _ (by simp) ?cnt ?ini
 case dag =>
  intro i o ho
  exact match i,ho with
  | 0,ho => by
   obtain rfl := Option.some.inj ho;decide
  | 1,ho => by
   obtain rfl := Option.some.inj ho;decide
  | 2,ho => by
   obtain rfl := Option.some.inj ho;decide
  | 3,ho => by
   obtain rfl := Option.some.inj ho;decide
  | 4,ho => by
   obtain rfl := Option.some.inj ho;decide
  | 5,ho => by
   obtain rfl := Option.some.inj ho;decide
  | 6,ho => by
   obtain rfl := Option.some.inj ho;decide
  | 7,ho => by
   obtain rfl := Option.some.inj ho;decide
  | 8,ho => by
   obtain rfl := Option.some.inj ho;decide
  | 9,ho => by
   obtain rfl := Option.some.inj ho;decide
  | 10,ho => by
   obtain rfl := Option.some.inj ho;decide
  | 11,ho => by
   obtain rfl := Option.some.inj ho;decide
  | 12,ho => by
   obtain rfl := Option.some.inj ho;decide
  | 13,ho => by
   obtain rfl := Option.some.inj ho;decide
  | 14,ho => by
   obtain rfl := Option.some.inj ho;decide
  | k + 15,ho => by simp at ho
 case cnt => decide
 case ini =>
  refine ⟨0,undef,0,0,0,0,0,undef,undef,undef,undef,undef,undef,undef,undef,undef,undef,undef,undef,undef,undef,undef,rfl,?_⟩;exact {
   base := ⟨rfl,rfl,rfl,Nat.le_refl _,fun _ _ => rfl⟩
   a16 := fun f => by cases f
   a18 := fun f => by cases f
   a19 := fun f => by cases f
   a21 := fun f => by cases f
   a23 := fun f => by cases f
   a25 := fun f => by cases f
   a27 := fun f => by cases f
   tr := fun f => by cases f
   s := fun f => by cases f
   o := fun f => by cases f
   h := fun f => by cases f
   y := fun f => by cases f
   d1 := fun f => by cases f
   d2 := fun f => by cases f
   d3 := fun f => by cases f
   d4 := fun f => by cases f
   d5 := fun f => by cases f
   d6 := fun f => by cases f
   e1 := fun f => by cases f
   e2 := fun f => by cases f
   e3 := fun f => by cases f
   e4 := fun f => by cases f
   c12 := fun f => by cases f
   c13 := fun f => by cases f
   c14 := fun f => by cases f
   b := fun f => by cases f
   x := fun f => by cases f
   z := fun f => by cases f
  }
 case step =>
  intro F a W i o ho hI hF hd
  obtain ⟨tb',tv',gs,go,gh,gw,mb,v10,v16,v17,v18,v19,v20,v21,v22,v23,v24,v25,v26,v27,v28,v29,rfl,hN⟩ := hI;exact match i,ho,hF,hd with
  | 0,ho,hF,hd => by
   obtain rfl := Option.some.inj ho;refine Zao rfl rfl (wp_mv (.inl rfl) ?_);exact ⟨tb',tv',gs,go,gh,gw,mb,v10,Ptr tb,v17,v18,v19,v20,v21,v22,v23,v24,v25,v26,v27,v28,v29,rfl,hN.step0⟩
  | 1,ho,hF,hd => by
   obtain rfl := Option.some.inj ho;obtain rfl := hN.a16 (hd { on := 0,ground := Ground.data } (by simp) rfl)
   refine Zao rfl rfl (wp_fn rfl (enters_of Tryz.func80 (by kernel_rfl) rfl) (Zje (h.below hN.base) hfs) ?_)
   rintro e w' ⟨tv1,rfl,ht,hb⟩;exact ⟨_,rfl,⟨W.heap.size,tv1,gs,go,gh,gw,mb,v10,Ptr tb,Ptr W.heap.size,v18,v19,v20,v21,v22,v23,v24,v25,v26,v27,v28,v29,rfl,hN.step1 hF hb ht⟩⟩
  | 2,ho,hF,hd => by
   obtain rfl := Option.some.inj ho;refine Zao rfl rfl (wp_mv (.inl rfl) ?_);exact ⟨tb',tv',gs,go,gh,gw,mb,v10,v16,v17,.slice p l.length cap,v19,v20,v21,v22,v23,v24,v25,v26,v27,v28,v29,rfl,hN.step2 hF⟩
  | 3,ho,hF,hd => by
   obtain rfl := Option.some.inj ho;refine Zao rfl rfl (wp_mv (.inl rfl) ?_);exact ⟨tb',tv',gs,go,gh,gw,mb,v10,v16,v17,v18,.int .i64 l.length,v20,v21,v22,v23,v24,v25,v26,v27,v28,v29,rfl,hN.step3⟩
  | 4,ho,hF,hd => by
   obtain rfl := Option.some.inj ho;obtain ⟨i0,hi,hz0,hz1,hz2⟩ := info_parts Tryz.infoStr;refine Zao rfl rfl (wp_mk (B := 0) (n := l.length) rfl Tryz.underlying45 hi hz0 hz1 rfl (hN.a19 (hd { on := 3,ground := Ground.data } (by simp) rfl)) (by rw [hz2];omega) (by unfold maxLen;omega) (Nat.zero_le _) ?_)
   intro w' hp hb _
   exact ⟨tb',tv',W.heap.size,go,gh,gw,mb,v10,v16,v17,v18,v19,SL W.heap.size l.length,v21,v22,v23,v24,v25,v26,v27,v28,v29,rfl,hN.step4 hF hb hp⟩
  | 5,ho,hF,hd => by
   obtain rfl := Option.some.inj ho;refine Zao rfl rfl (wp_mv (.inl rfl) ?_);exact ⟨tb',tv',gs,go,gh,gw,mb,v10,v16,v17,v18,v19,v20,.int .i64 l.length,v22,v23,v24,v25,v26,v27,v28,v29,rfl,hN.step5⟩
  | 6,ho,hF,hd => by
   obtain rfl := Option.some.inj ho;obtain ⟨i0,hi,hz0,hz1,hz2⟩ := info_parts Tryz.infoStr;refine Zao rfl rfl (wp_mk (B := 0) (n := l.length) rfl Tryz.underlying45 hi hz0 hz1 rfl (hN.a21 (hd { on := 5,ground := Ground.data } (by simp) rfl)) (by rw [hz2];omega) (by unfold maxLen;omega) (Nat.zero_le _) ?_)
   intro w' hp hb _
   exact ⟨tb',tv',gs,W.heap.size,gh,gw,mb,v10,v16,v17,v18,v19,v20,v21,SL W.heap.size l.length,v23,v24,v25,v26,v27,v28,v29,rfl,hN.step6 hF hb hp⟩
  | 7,ho,hF,hd => by
   obtain rfl := Option.some.inj ho;refine Zao rfl rfl (wp_mv (.inl rfl) ?_);exact ⟨tb',tv',gs,go,gh,gw,mb,v10,v16,v17,v18,v19,v20,v21,v22,.int .i64 l.length,v24,v25,v26,v27,v28,v29,rfl,hN.step7⟩
  | 8,ho,hF,hd => by
   obtain rfl := Option.some.inj ho;obtain ⟨i0,hi,hz0,hz1,hz2⟩ := info_parts Tryz.infoBool;refine Zao rfl rfl (wp_mk (B := 0) (n := l.length) rfl Tryz.underlying80 hi hz0 hz1 rfl (hN.a23 (hd { on := 7,ground := Ground.data } (by simp) rfl)) (by rw [hz2];omega) (by unfold maxLen;omega) (Nat.zero_le _) ?_)
   intro w' hp hb _
   exact ⟨tb',tv',gs,go,W.heap.size,gw,mb,v10,v16,v17,v18,v19,v20,v21,v22,v23,SL W.heap.size l.length,v25,v26,v27,v28,v29,rfl,hN.step8 hF hb hp⟩
  | 9,ho,hF,hd => by
   obtain rfl := Option.some.inj ho;refine Zao rfl rfl (wp_mv (.inl rfl) ?_);exact ⟨tb',tv',gs,go,gh,gw,mb,v10,v16,v17,v18,v19,v20,v21,v22,v23,v24,.int .i64 l.length,v26,v27,v28,v29,rfl,hN.step9⟩
  | 10,ho,hF,hd => by
   obtain rfl := Option.some.inj ho;obtain ⟨i0,hi,hz0,hz1,hz2⟩ := info_parts Tryz.infoInt;refine Zao rfl rfl (wp_mk (B := 0) (n := l.length) rfl Tryz.underlying68 hi hz0 hz1 rfl (hN.a25 (hd { on := 9,ground := Ground.data } (by simp) rfl)) (by rw [hz2];omega) (by unfold maxLen;omega) (Nat.zero_le _) ?_)
   intro w' hp hb _
   exact ⟨tb',tv',gs,go,gh,W.heap.size,mb,v10,v16,v17,v18,v19,v20,v21,v22,v23,v24,v25,SL W.heap.size l.length,v27,v28,v29,rfl,hN.step10 hF hb hp⟩
  | 11,ho,hF,hd => by
   obtain rfl := Option.some.inj ho;refine Zao rfl rfl (wp_mv (.inl rfl) ?_);exact ⟨tb',tv',gs,go,gh,gw,mb,v10,v16,v17,v18,v19,v20,v21,v22,v23,v24,v25,v26,.pointer cp,v28,v29,rfl,hN.step11 hF⟩
  | 12,ho,hF,hd => by
   obtain rfl := Option.some.inj ho;have D1 := (hd { on := 1,ground := Ground.data } (by simp) rfl)
   have D2 := (hd { on := 2,ground := Ground.data } (by simp) rfl)
   have D4 := (hd { on := 4,ground := Ground.data } (by simp) rfl)
   have D6 := (hd { on := 6,ground := Ground.data } (by simp) rfl)
   have D8 := (hd { on := 8,ground := Ground.data } (by simp) rfl)
   have D10 := (hd { on := 10,ground := Ground.data } (by simp) rfl)
   have D11 := (hd { on := 11,ground := Ground.data } (by simp) rfl)
   obtain rfl := hN.a18 D2;obtain rfl := hN.a27 D11;obtain ⟨rfl,t2⟩ := hN.tr D1;obtain ⟨rfl,s2⟩ := hN.s D4;obtain ⟨rfl,o2⟩ := hN.o D6;obtain ⟨rfl,h2⟩ := hN.h D8;obtain ⟨rfl,y2⟩ := hN.y D10;refine Zao rfl rfl (wp_bd (cells := #[Ptr tb',.slice p l.length cap,SL gs l.length,SL go l.length,SL gh l.length,SL gw l.length,.pointer cp]) rfl (by kernel_rfl) ?_)
   exact ⟨tb',tv',gs,go,gh,gw,mb,v10,v16,Ptr tb',.slice p l.length cap,v19,SL gs l.length,v21,SL go l.length,v23,SL gh l.length,v25,SL gw l.length,.pointer cp,_,v29,rfl,hN.step12 ⟨D1,D2,D4,D6,D8,D10,D11⟩⟩
  | 13,ho,hF,hd => by
   obtain rfl := Option.some.inj ho;have D12 := (hd { on := 12,ground := Ground.data } (by simp) rfl)
   obtain ⟨D1,D2,D4,D6,D8,D10,D11⟩ := hN.c12 D12;obtain rfl := hN.a18 D2;obtain rfl := hN.a27 D11;obtain ⟨rfl,t2⟩ := hN.tr D1;obtain ⟨rfl,s2⟩ := hN.s D4;obtain ⟨rfl,o2⟩ := hN.o D6;obtain ⟨rfl,h2⟩ := hN.h D8;obtain ⟨rfl,y2⟩ := hN.y D10;obtain rfl := hN.b D12;refine Zao rfl rfl (wp_bx rfl rfl (by kernel_rfl) ?_)
   exact ⟨tb',tv',gs,go,gh,gw,W.heap.size,v10,v16,Ptr tb',.slice p l.length cap,v19,SL gs l.length,v21,SL go l.length,v23,SL gh l.length,v25,SL gw l.length,.pointer cp,_,.pointer (some ⟨W.heap.size,0,none⟩),rfl,hN.step13 hF ((Below.refl _ W).alloc (Nat.le_refl _) _) (by simp) D12 ⟨by simp,by simp,by simp,by simp,by simp,by simp,by simp⟩⟩
  | 14,ho,hF,hd => by
   obtain rfl := Option.some.inj ho;refine Zao rfl rfl (wp_mv (.inr rfl) ?_);exact ⟨tb',tv',gs,go,gh,gw,mb,v29,v16,v17,v18,v19,v20,v21,v22,v23,v24,v25,v26,v27,v28,v29,rfl,hN.step14 (hd { on := 13,ground := Ground.data } (by simp) rfl)⟩
  | k + 15,ho,_,_ => by simp at ho
 case fin =>
  intro F a W hI hall
  obtain ⟨tb',tv',gs,go,gh,gw,mb,v10,v16,v17,v18,v19,v20,v21,v22,v23,v24,v25,v26,v27,v28,v29,rfl,hN⟩ := hI;obtain ⟨rfl,t2⟩ := hN.tr (hall 1 (by omega))
  obtain rfl := hN.a16 (hall 0 (by omega))
  obtain rfl := hN.a18 (hall 2 (by omega))
  obtain rfl := hN.a19 (hall 3 (by omega))
  obtain rfl := hN.a21 (hall 5 (by omega))
  obtain rfl := hN.a23 (hall 7 (by omega))
  obtain rfl := hN.a25 (hall 9 (by omega))
  obtain rfl := hN.a27 (hall 11 (by omega))
  obtain ⟨rfl,s1,s2⟩ := hN.s (hall 4 (by omega))
  obtain ⟨rfl,o1,o2⟩ := hN.o (hall 6 (by omega))
  obtain ⟨rfl,h1,h2⟩ := hN.h (hall 8 (by omega))
  obtain ⟨rfl,y1,y2⟩ := hN.y (hall 10 (by omega))
  obtain rfl := hN.b (hall 12 (by omega))
  obtain ⟨rfl,x1,x2,⟨k0,k1,k2,k3,k4,k5,k6⟩,x3,x4,x5,x6⟩ := hN.x (hall 13 (by omega))
  obtain rfl := hN.z (hall 14 (by omega))
  have M0 : MBr w W mb tb' tv' (.slice p l.length cap) (.pointer cp) gs go gh gw l fs (fun _ => .string ⟨#[]⟩) (fun _ => .string ⟨#[]⟩) (fun _ => .bool false) (fun _ => .int .i64 0) :=
   ⟨hN.base,HRow.out,⟨x1,s1,o1,h1,y1⟩,k0,k1,k2,k3,k4,k5,k6,s2,o2,h2,y2,t2,⟨hN.d1 (hall 4 (by omega)) (hall 6 (by omega)),hN.d2 (hall 4 (by omega)) (hall 8 (by omega)),hN.d3 (hall 4 (by omega)) (hall 10 (by omega)),hN.d4 (hall 6 (by omega)) (hall 8 (by omega)),hN.d5 (hall 6 (by omega)) (hall 10 (by omega)),hN.d6 (hall 8 (by omega)) (hall 10 (by omega))⟩,⟨x3,x4,x5,x6⟩,fun j hj => ⟨hN.e1 (hall 1 (by omega)) (hall 4 (by omega)) j hj,hN.e2 (hall 1 (by omega)) (hall 6 (by omega)) j hj,hN.e3 (hall 1 (by omega)) (hall 8 (by omega)) j hj,hN.e4 (hall 1 (by omega)) (hall 10 (by omega)) j hj⟩⟩
  have HM := hid1 M0;have HNb := hid1 (HNe.out W hN.base);clear hN k0 k1 k2 k3 k4 k5 k6 s2 o2 h2 y2 t2 M0 hall HNe;unfold NFr;go_wp2_with fail;refine HNb.out.mono ?_;rintro e w2 ⟨u,r,rfl,g2,hr⟩;have HM2 := hid1 (HM.out.below g2);clear HNb;rcases hr with ⟨k,rfl,hk,q1,q2,rfl⟩ | ⟨rfl,q1,g,f,rfl,hO,hNd⟩
  ·exfalso
   obtain ⟨x,hx,e⟩ := HAll.out k hk;exact q1 x hx e
  ·have HOf := hid1 hO;have HNd := hid1 hNd;clear hO hNd q1;have hgg := (World.ownsRow.lt HOf.out g rfl).1;have hgs : gs < W.heap.size := HM.out.rs.1;have HC : Hid (∀ j,j < l.length -> w2.cell? ⟨g,j,none⟩ = some (.bool (f j))) := hid1 fun j hj => HOf.out.cell hj
   clear HOf;go_wp2
   go_loopw [13] (fun iv wr => ∃ k : Nat,k <= l.length /\ iv = .int .i64 k /\ MBr w wr mb tb' tv' (.slice p l.length cap) (.pointer cp) gs go gh gw l fs (fun j => if j < k /\ f j = true then .string ⟨#[119,97,105,116,115]⟩ else .string ⟨#[]⟩) (fun _ => .string ⟨#[]⟩) (fun _ => .bool false) (fun _ => .int .i64 0) /\ ∀ j,j < l.length -> wr.cell? ⟨g,j,none⟩ = some (.bool (f j))) (fun iv _ => l.length - (intOf iv).toNat)
   case atStart =>
    refine ⟨0,Nat.zero_le _,rfl,?_,HC.out⟩;have e : (fun j : Nat => if j < 0 /\ f j = true then (.string ⟨#[119,97,105,116,115]⟩ : Value) else .string ⟨#[]⟩) = fun _ => .string ⟨#[]⟩ := funext fun j => if_neg fun x => by omega
    rw [e];exact HM2.out
   case round =>
    clear HM HM2 HC;obtain ⟨k,hk,rfl,hM,hC⟩ := hrel;have k0 : (0 : Int) <= (k : Int) := by omega
    by_cases hkl : k < l.length
    ·have k1 : (k : Int) < (l.length : Int) := by omega
     have ck := hC k hkl;have c2 := hM.c2;have r1 := (hM.rs.2 k hkl).1;have r2 := (hM.rs.2 k hkl).2;have HMk := hid1 hM;have HCk := hid1 hC;cases hfk : f k with
     | false =>
      rw [hfk] at ck;have HNx : Hid (MBr w wr mb tb' tv' (.slice p l.length cap) (.pointer cp) gs go gh gw l fs (fun j => if j < k + 1 /\ f j = true then .string ⟨#[119,97,105,116,115]⟩ else .string ⟨#[]⟩) (fun _ => .string ⟨#[]⟩) (fun _ => .bool false) (fun _ => .int .i64 0)) := hid1 (by
       have e : (fun j : Nat => if j < k + 1 /\ f j = true then (.string ⟨#[119,97,105,116,115]⟩ : Value) else .string ⟨#[]⟩) = fun j => if j < k /\ f j = true then .string ⟨#[119,97,105,116,115]⟩ else .string ⟨#[]⟩ := funext fun j => by
        by_cases e : j = k
        ·subst e;rw [hfk];simp
        ·have : (j < k + 1 /\ f j = true) ↔ (j < k /\ f j = true) := ⟨fun x => ⟨by have := x.1;omega,x.2⟩,fun x => ⟨by have := x.1;omega,x.2⟩⟩
         simp only [this]
       rw [e];exact hM)
      clear hM hC c2 r1 r2;go_wp2;exact ⟨⟨k + 1,by omega,by go_num,HNx.out,HCk.out⟩,by simp [intOf];omega⟩
     | true =>
      rw [hfk] at ck;have HNx : Hid (MBr w (wr.setCell ⟨gs,k,none⟩ (.string ⟨#[119,97,105,116,115]⟩)) mb tb' tv' (.slice p l.length cap) (.pointer cp) gs go gh gw l fs (fun j => if j < k + 1 /\ f j = true then .string ⟨#[119,97,105,116,115]⟩ else .string ⟨#[]⟩) (fun _ => .string ⟨#[]⟩) (fun _ => .bool false) (fun _ => .int .i64 0)) := hid1 (by
       have m1 := hM.setS hkl (.string ⟨#[119,97,105,116,115]⟩);have e : upd (fun j : Nat => if j < k /\ f j = true then (.string ⟨#[119,97,105,116,115]⟩ : Value) else .string ⟨#[]⟩) k (.string ⟨#[119,97,105,116,115]⟩) = fun j => if j < k + 1 /\ f j = true then .string ⟨#[119,97,105,116,115]⟩ else .string ⟨#[]⟩ := funext fun j => by
        unfold upd;by_cases e : j = k
        ·subst e;rw [hfk];simp
        ·have : (j < k + 1 /\ f j = true) ↔ (j < k /\ f j = true) := ⟨fun x => ⟨by have := x.1;omega,x.2⟩,fun x => ⟨by have := x.1;omega,x.2⟩⟩
         rw [if_neg e];simp only [this]
       rw [e] at m1;exact m1)
      have HCx : Hid (∀ j,j < l.length -> (wr.setCell ⟨gs,k,none⟩ (.string ⟨#[119,97,105,116,115]⟩)).cell? ⟨g,j,none⟩ = some (.bool (f j))) := hid1 fun j hj => (World.cell?_of_block (a := ⟨g,j,none⟩) (Below.heap_setCell wr ⟨gs,k,none⟩ _ g (by show g ≠ gs;omega))).trans (hC j hj)
      clear hM hC;go_wp2;exact ⟨⟨k + 1,by omega,by go_num,HNx.out,HCx.out⟩,by simp [intOf];omega⟩
    ·have k1 : (l.length : Int) <= (k : Int) := by omega
     obtain rfl : k = l.length := by omega
     have HMk := hid1 hM;clear hM hC;go_wp2;go_ret;refine ⟨mb,tb',tv',gs,go,gh,gw,rfl,?_⟩;have hm := HMk.out;have e1 : (fun j : Nat => if j < l.length /\ f j = true then (.string ⟨#[119,97,105,116,115]⟩ : Value) else .string ⟨#[]⟩) = nameV (Bf.init fs l outs).st := funext fun j => by
      show _ = Value.string (ba (if Bf.need l outs j = true then Bf.St.waits else Bf.St.no).name)
      by_cases hj : j < l.length
      ·rw [Bf.need_eq HNd.out hj];by_cases hf : f j = true
       ·rw [if_pos ⟨hj,hf⟩,if_pos hf];rfl
       ·rw [if_neg fun x => hf x.2,if_neg hf];rfl
      ·rw [if_neg fun x => hj x.1,Bf.need_out (by omega)];rfl
     have e2 : (fun _ : Nat => (.string ⟨#[]⟩ : Value)) = outV (Bf.init fs l outs).st := funext fun j => by
      show _ = Value.string (ba (if Bf.need l outs j = true then Bf.St.waits else Bf.St.no).out)
      split <;> rfl
     have e3 : (fun _ : Nat => (.bool false : Value)) = hitV (Bf.init fs l outs).st := funext fun j => by
      show _ = Value.bool (if Bf.need l outs j = true then Bf.St.waits else Bf.St.no).hit
      split <;> rfl
     have e4 : (fun _ : Nat => (.int .i64 0 : Value)) = whyV (Bf.init fs l outs).st := funext fun j => by
      show _ = Value.int .i64 ((if Bf.need l outs j = true then Bf.St.waits else Bf.St.no).why : Nat)
      split <;> rfl
     rw [e1,e2,e3,e4] at hm;exact hm
open Go.RowKit Go.Shelf Go.Lib Go.Maps
theorem NewTells.below {es : Nat -> Addr} {n : Nat} {fs : Tf.Fs} {l : List Ru} {outs : List (List UInt8)} {cv : Value} {w w' : World} {ev : Value} (h : NewTells es (BuAt es) n fs l outs cv w (.pointer none) ev) (hb : Below w.heap.size w w') : NewTells es (BuAt es) n fs l outs cv w' (.pointer none) ev := by
 rcases h with ⟨h0,h1 | ⟨h1,k,hk,h2,h3,h4⟩ | h1⟩ | ⟨_,_,_,_,⟨p,e⟩,_⟩
 ·exact .inl ⟨h0,.inl ⟨h1.1,h1.2.below hb⟩⟩
 ·exact .inl ⟨h0,.inr (.inl ⟨h1,k,hk,h2,h3,h4.below hb⟩)⟩
 ·exact .inl ⟨h0,.inr (.inr h1)⟩
 ·cases e
theorem Zio {es : Nat -> Addr} {V : World} (hG : GraphW V es) (lv : Value) (l : List Ru) (hrow : RRow V lv l) (hl : l.length <= 1000) (hS : ∀ x ∈ l,x.Small) (nb : Nat) (v : Value) (ll : List Nat) (hc : V.cell? ⟨nb,0,none⟩ = some v) (hr : NIRow V v ll) (hll : ll.length <= 1000) (hcl : ∀ i k,i ∈ ll -> Ru.needs l i k = true -> k ∈ ll) :
  Calls Tryz.prog 114 #[lv,.func (.func 125) #[] #[.pointer (some ⟨nb,0,none⟩)]] V fun e w' => ∃ u ev,e = .returned (.tuple #[u,ev]) /\ Below V.heap.size V w' /\ Zff es l (fun k => decide (k ∈ ll)) w' u ev :=
 Zhm hG lv l hrow hl hS 125 #[.pointer (some ⟨nb,0,none⟩)] (enters_of Tryz.func125 (by kernel_rfl) rfl) (fun k => decide (k ∈ ll)) (hid1 fun i k hi hk => by
  simp only [decide_eq_true_eq] at hi ⊢;exact hcl i k hi hk) (hid1 fun x W' _ gW => Zle (Zaa hc gW) (hr.below gW) hll x)
theorem Zqe {es : Nat -> Addr} {W : World} (hW : BuildW W es) {Bt tb : Nat} {fs : Tf.Fs} {o : Option Nat} (hT : TreeAt Bt W tb fs o) (lv : Value) (l : List Ru) (hrow : RRow W lv l) (hl : l.length <= 1000) (hS : ∀ x ∈ l,x.Small) (ov : Value) (outs : List (List UInt8)) (hout : XRow W ov outs) (hol : outs.length <= 1000) (cv : Value) (hcv : ∃ q,cv = .pointer q) :
  Calls Tryz.prog 62 #[Ptr tb,lv,ov,cv] W fun e w' => ∃ bv ev,e = .returned (.tuple #[bv,ev]) /\ Below W.heap.size W w' /\ NewTells es (BuAt es) W.heap.size fs l outs cv w' bv ev := by
 have HNd := hid1 (Zno hW.g.s hW.none lv l hrow hl hS ov outs hout hol);have HOf := hid1 fun (V : World) (g : Below W.heap.size W V) => Zio (hW.g.below g) lv l (hrow.below g) hl hS
 have HSt := hid1 fun (V : World) (g : Below W.heap.size W V) (h40 : l.length <= 40) (hA : Ru.Apart l) (uv : Value) (ord : List Nat) (hord : NIRow V uv ord) (ht : Ru.Topo l ord) (hnd : ord.Nodup) (ho : ∀ i ∈ ord,i < l.length) => Zki (es := es) (hT.below g) lv l (hrow.below g) h40 hS hA uv ord hord ht hnd ho
 have HS := hid1 hS;obtain ⟨q,rfl⟩ := hcv;obtain ⟨pl,cl,rfl,-⟩ := hrow;obtain ⟨po,co,rfl,-⟩ := hout;clear hW hT hS;go_enter Tryz.func62,Tryz.ntmps62
 go_wp2_with fail;refine HNd.out.mono ?_;rintro e w1 ⟨u1,ev,rfl,g1,hT1⟩;clear HNd;rcases hT1 with ⟨hf,hE,pn,cn,rfl⟩ | ⟨hf,k,hk,h1,h2,hE,pn,cn,rfl⟩ | ⟨hf,h1,rfl,f,hN,hrw⟩
 ·have HP : Hid (NewTells es (BuAt es) W.heap.size fs l outs (.pointer q) w1 (.pointer none) ev) := hid1 (.inl ⟨rfl,.inl ⟨hf,hE⟩⟩);obtain ⟨t,x,rfl⟩ := hE.some hf;have gA : Below w1.heap.size w1 (w1.alloc (.cells #[.slice pn 0 cn] 68)) := (Below.refl _ w1).alloc (Nat.le_refl _) _;clear hf hE HOf HSt;go_wp2;go_ret2;exact ⟨_,_,rfl,Zab g1 gA,HP.out.below gA⟩
 ·have HP : Hid (NewTells es (BuAt es) W.heap.size fs l outs (.pointer q) w1 (.pointer none) ev) := hid1 (.inl ⟨rfl,.inr (.inl ⟨hf,k,hk,h1,h2,hE⟩)⟩);obtain ⟨t,x,rfl⟩ := hE.some (by simp)
  have gA : Below w1.heap.size w1 (w1.alloc (.cells #[.slice pn 0 cn] 68)) := (Below.refl _ w1).alloc (Nat.le_refl _) _;clear hf hE h1 h2 HOf HSt;go_wp2;go_ret2;exact ⟨_,_,rfl,Zab g1 gA,HP.out.below gA⟩
 ·obtain ⟨h40,hA⟩ := Ru.fault_ok hf;have HR1 := hid1 hrw;obtain ⟨pn,cn,rfl,-⟩ := hrw;have gA : Below w1.heap.size w1 (w1.alloc (.cells #[.slice pn ((List.range l.length).filter f).length cn] 68)) := (Below.refl _ w1).alloc (Nat.le_refl _) _;have G2 := Zab g1 gA
  have hfl : ((List.range l.length).filter f).length <= 40 := Nat.le_trans (by simpa using List.length_filter_le f (List.range l.length)) h40
  have hch : ∀ k,k < l.length -> (decide (k ∈ (List.range l.length).filter f)) = Bf.need l outs k := fun k hk => by
   rw [Bf.need_eq hN hk];simp [hk]
  have HCh := hid1 (Ru.order_congr2 hch);have HO := hid1 (HOf.out _ G2 w1.heap.size _ _ (by simp) (HR1.out.below gA) (by omega) fun i k hi hk => by
   simp only [List.mem_filter,List.mem_range] at hi ⊢;exact ⟨(Ru.needs_lt hk).2,hN.closed i k hi.2 hk⟩)
  unfold Zff at HO;rw [HCh.out] at HO;have HFt := hid1 hf;have H1 := hid1 h1;have HN := hid1 hN;have HA := hid1 hA;have hsh := HR1.out;clear hf h1 hN hA HOf HCh hch hsh HR1;go_wp2_with fail;refine HO.out.mono ?_;rintro e w3 ⟨u3,ev3,rfl,g3,hT3⟩;have G3 := Zab G2 g3;clear HO;rcases hT3 with ⟨h0,-⟩ | ⟨-,hnone,rfl,pn3,cn3,rfl⟩ | ⟨-,ord,hsome,rfl,hr3⟩
  ·exact absurd HFt.out h0
  ·have HP : Hid (NewTells es (BuAt es) W.heap.size fs l outs (.pointer q) w3 (.pointer none) (erOf es 9)) := hid1 (.inl ⟨rfl,.inr (.inr ⟨HFt.out,H1.out,hnone,rfl⟩)⟩);clear hnone HSt;obtain ⟨t9,x9,e9⟩ : ∃ t x,erOf es 9 = .iface t x := ⟨_,_,rfl⟩
   rw [e9] at HP ⊢;clear e9;go_wp2;go_ret2;exact ⟨_,_,rfl,G3,HP.out⟩
  ·obtain ⟨ht,hall⟩ := Ru.order_some hsome;obtain ⟨hnd,hlt⟩ := Ru.order_nodup hsome;have hch := Ru.order_ch hsome;have HSo := hid1 (HSt.out w3 G3 h40 HA.out u3 ord hr3 ht hnd hlt);have hol2 : ord.length <= 40 := Nat.le_trans (len_le hnd hlt) h40;have HMem : Hid (∀ k,k ∈ ord ↔ k < l.length /\ f k = true) := hid1 fun k => by
    constructor
    ·intro hk
     have h1 := hlt k hk;exact ⟨h1,by rw [<- Bf.need_eq HN.out h1];exact hch k hk⟩
    ·rintro ⟨h1,h2⟩;exact hall k h1 (by rw [Bf.need_eq HN.out h1];exact h2)
   have HSome : Hid ((Ru.order l (Bf.need l outs)).isSome = true) := hid1 (by rw [hsome];rfl)
   obtain ⟨p3,c3,rfl,-⟩ := hr3;clear HSt ht hall hnd hlt hch hsome;go_wp2_with fail;refine HSo.out.mono ?_;rintro e w4 ⟨bm,mb,L,rfl,hO4⟩;have g4 : Below w3.heap.size w3 w4 := hO4.made.base;have gB : Below w4.heap.size w4 (w4.alloc (.cells #[.map (some bm),.pointer q] 204)) := (Below.refl _ w4).alloc (Nat.le_refl _) _;have rr := Zck w4 (.cells #[.map (some bm),.pointer q] 204)
   obtain ⟨hB,hlo⟩ := hO4.build HA.out HS.out HN.out HMem.out hol2 (cv := .pointer q) gB (Nat.le_refl _) (Zac (j := 0) rr rfl) (Zac (j := 1) rr rfl);have hz3 := G3.size
   have HP : Hid (NewTells es (BuAt es) W.heap.size fs l outs (.pointer q) (w4.alloc (.cells #[.map (some bm),.pointer q] 204)) (Ptr w4.heap.size) .nilIface) := hid1 (.inr ⟨HFt.out,H1.out,HSome.out,rfl,⟨_,rfl⟩,_,⟨_,_,_,L,rfl,⟨q,rfl⟩,fun _ => Iff.rfl,hB⟩,fun j hj => Nat.le_trans hz3 (hlo j hj)⟩)
   have G5 := Zab (Zab G3 g4) gB;clear HSo hO4 hB hlo rr g4 gB;go_wp2;go_ret2;exact ⟨_,_,rfl,G5,HP.out⟩
theorem builds (es : Nat -> Addr) : Builds es Af.actO CAt (BuAt es) where
 same := fun S W W' v cv d h _ hb => by
  obtain ⟨bb,bm,n,L,e,hc,hS,h⟩ := h;exact ⟨bb,bm,n,L,e,hc,hS,h.same fun j hj => hb j ((hS j).2 hj)⟩
 lt := fun S W v cv d h k hk => by
  obtain ⟨bb,bm,n,L,e,hc,hS,h⟩ := h;exact h.lt k ((hS k).1 hk)
 noTree := fun W lv l ov outs cv hW _ _ => Zwy hW lv ov cv
 new := fun W B tb fs o lv l ov outs cv hW hT _ _ _ hrow hl hS hout hol _ hcv => Zqe hW hT lv l hrow (by omega) hS ov outs hout (by omega) cv hcv
 ready := fun S W p cv d h hl => by
  obtain ⟨bb,bm,n,L,e,hc,hS,h⟩ := h;cases e
  exact Zcp h (by omega)
 state := fun S W p cv d i h _ h0 h1 => by
  obtain ⟨bb,bm,n,L,e,hc,hS,h⟩ := h;cases e
  exact Zlj h i h0 h1
 result := fun S W p cv d i h _ h0 h1 => by
  obtain ⟨bb,bm,n,L,e,hc,hS,h⟩ := h;cases e
  exact Zit h i h0 h1
 why := fun S W p cv d i h _ _ h0 h1 => by
  obtain ⟨bb,bm,n,L,e,hc,hS,h⟩ := h;cases e
  exact Zqd h i h0 h1
 over := fun S W p cv d h hl => by
  obtain ⟨bb,bm,n,L,e,hc,hS,h⟩ := h;cases e
  exact Zof h (by omega)
 count := fun S W p cv d h hl => by
  obtain ⟨bb,bm,n,L,e,hc,hS,h⟩ := h;cases e
  exact Zfd h (by omega)
 run := fun B S SC W p cv d c i h hC hap hW hSB hSC hf hS hfit hcf h0 h1 => by
  obtain ⟨bb,bm,n,L,e,hc,hB,h⟩ := h;cases e
  refine (Zhy h hC (fun j hj => hap j ((hB j).2 hj)) hW hSC hS hfit hcf i h0 h1).mono ?_
  rintro e w' ⟨rfl,hM,hO,SC',hC',hSC'⟩;have hdom : ∀ j,BBlk bb bm (Bf.run Af.actO c d i).d L j ↔ BBlk bb bm d L j := fun j => by
   have : (Bf.run Af.actO c d i).d.dom = d.dom := by
    unfold Bf.run;split
    ·rfl
    ·unfold Bf.runN;split
     ·rfl
     ·split
      ·rfl
      ·split
       ·rfl
       ·rename_i h5
        exact dom_go c d (by simpa using h5)
   unfold BBlk;rw [this]
  have hlt := h.lt;refine ⟨rfl,⟨hO.os,hO.tape,hO.output,hO.size,fun j hj hn => hO.block j hj fun e => hn (e.imp_left (hB j).2)⟩,S,SC',⟨bb,bm,n,L,rfl,hc,fun j => (hB j).trans (hdom j).symm,hM⟩,hC',fun j hj hx => ?_,fun j hj => .inl hj,hSC'⟩
  rcases hSC' j hx with h2 | h2
  ·exact hap j hj h2
  ·have := hlt j ((hB j).1 hj);omega
 all := fun B S SC W p cv d c h hC hap hW hSB hSC hf hS hfit hcf => by
  obtain ⟨bb,bm,n,L,e,hc,hB,h⟩ := h;cases e
  obtain ⟨h40,_⟩ := Ru.fault_ok hf;refine (Zqf h hC (fun j hj => hap j ((hB j).2 hj)) hW (fun j hj => hSB j ((hB j).2 hj)) hSC hS (by omega) hfit hcf).mono ?_
  rintro e w' ⟨rfl,hM,hO,SC',hC',hSC'⟩;have hdom : ∀ j,BBlk bb bm (Bf.all Af.actO c d).1 L j ↔ BBlk bb bm d L j := fun j => by
   have key : ∀ (f : Nat) (c : Bf.Ca) (d : Bf.Bd),(Bf.allF Af.actO f c d).1.dom = d.dom := fun f => by
    induction f with
    | zero => exact fun _ _ => rfl
    | succ f ih =>
     intro c d
     unfold Bf.allF;cases hq : d.ready with
     | nil => rfl
     | cons i q =>
      have hm := Bf.mem_ready.1 (show i ∈ d.ready by rw [hq];simp)
      exact (ih _ _).trans (dom_go c d hm.2)
   unfold BBlk;rw [show (Bf.all Af.actO c d).1.dom = d.dom from key _ c d]
  have hlt := h.lt;refine ⟨rfl,⟨hO.os,hO.tape,hO.output,hO.size,fun j hj hn => hO.block j hj fun e => hn (e.imp_left (hB j).2)⟩,S,SC',⟨bb,bm,n,L,rfl,hc,fun j => (hB j).trans (hdom j).symm,hM⟩,hC',fun j hj hx => ?_,fun j hj => .inl hj,hSC'⟩
  rcases hSC' j hx with h2 | h2
  ·exact hap j hj h2
  ·have := hlt j ((hB j).1 hj);omega
end Go.Proofs.YtbgkfmodbofalaaGreatDoor
namespace Go.Proofs.YtbgkfmodbofalaaGreatDoor.Tf
def pos (c : UInt8) (s : List UInt8) : Nat := s.findIdx (· == c)
def stop (ok : List UInt8 -> Bool) : Fs -> Fs -> Nat
 | _,[] => 0
 | t,e :: r => if putCode ok t e.1 e.2 = 0 then stop ok (put t e.1 e.2) r else putCode ok t e.1 e.2
def numR (d : List UInt8) : Option Nat := if d.length < 1 \/ 4 < d.length \/ (1 < d.length /\ d[0]? = some 48) then none else Lib.decFrom 0 d
theorem Zhs : ∀ (n : Nat),1 <= n -> (Lib.decDigits n).head? ≠ some 48
 | n,h1 => by
  rw [Lib.decDigits];split
  ·rename_i h
   simp only [List.head?_cons,ne_eq,Option.some.injEq];intro e
   have := congrArg UInt8.toNat e;simp at this;omega
  ·rename_i h
   have ih := Zhs (n / 10) (by omega)
   have hne := Zwo (n / 10);cases hl : Lib.decDigits (n / 10) with
   | nil => exact absurd hl hne
   | cons b r => rw [hl] at ih;simpa using ih
 termination_by n => n
 decreasing_by omega
theorem Zny (l : List UInt8) (c : UInt8) (acc m : Nat) (h : Lib.decFrom acc (l ++ [c]) = some m) : ∃ n d,Lib.decFrom acc l = some n /\ Lib.digitVal c = some d /\ m = n * 10 + d := by
 obtain ⟨n,hn⟩ := Lib.decFrom_prefix _ acc m h l.length;rw [List.take_left'] at hn
 ·obtain ⟨d,hd⟩ := Lib.digit_of_decFrom _ acc m h l.length c (by simp)
  have := Zdy l [c] acc n hn;rw [h,Zpx n d c hd] at this;exact ⟨n,d,hn,hd,Option.some.inj this⟩
 ·rfl
theorem Ztk {c : UInt8} {d : Nat} (h : Lib.digitVal c = some d) : UInt8.ofNat (48 + d) = c /\ d < 10 := by
 obtain ⟨h1,h2,h3⟩ := Lib.digitVal_eq h;refine ⟨?_,by omega⟩
 rw [h3,show 48 + (c.toNat - 48) = c.toNat by omega]
 simp
theorem Znt : ∀ (n : Nat) (l : List UInt8) (m : Nat),l.length = n -> l ≠ [] -> l.head? ≠ some 48 -> Lib.decFrom 0 l = some m -> Lib.decDigits m = l /\ 1 <= m
 | 0,l,m,hn,hne,_,_ => absurd (List.length_eq_zero_iff.1 hn) hne
 | n + 1,l,m,hn,hne,hh,hm => by
  have el := (List.dropLast_concat_getLast hne).symm;generalize l.dropLast = l' at el;generalize l.getLast hne = c at el;subst el;obtain ⟨k,d,hk,hd,rfl⟩ := Zny l' c 0 m hm;obtain ⟨hc,hd10⟩ := Ztk hd;by_cases hl : l' = []
  ·subst hl;simp [Lib.decFrom] at hk;subst hk;have hc48 : c ≠ 48 := by simpa using hh
   have hd0 : d ≠ 0 := fun e => hc48 (by rw [<- hc,e];rfl)
   rw [Lib.decDigits,dif_pos (by omega),show 0 * 10 + d = d by omega,hc]
   exact ⟨rfl,by omega⟩
  ·have hh' : l'.head? ≠ some 48 := by
    cases l' with
    | nil => exact absurd rfl hl
    | cons b r => simpa using hh
   obtain ⟨h1,h2⟩ := Znt n l' k (by simp at hn;omega) hl hh' hk
   rw [Lib.decDigits,dif_neg (by omega),show (k * 10 + d) / 10 = k by omega,show (k * 10 + d) % 10 = d by omega,h1,hc]
   exact ⟨rfl,by omega⟩
theorem numT_numR (d : List UInt8) : numT d = numR d := by
 unfold numT numR;by_cases h4 : 4 < d.length
 ·rw [if_pos h4,if_pos (by omega)]
 rw [if_neg h4];cases d with
 | nil => simp [Lib.atoi]
 | cons b r =>
  have hno : Lib.digitVal b = none -> Lib.decFrom 0 (b :: r) = none := fun h => by simp [Lib.decFrom,h]
  have hright : Lib.decFrom 0 (b :: r) = none -> (if (b :: r).length < 1 \/ 4 < (b :: r).length \/ (1 < (b :: r).length /\ (b :: r)[0]? = some 48) then none else Lib.decFrom 0 (b :: r)) = none := fun h => by rw [h];split <;> rfl
  by_cases h45 : b = 45
  ·subst h45;rw [hright (hno (by decide))]
   have : ∀ z,Lib.atoi (45 :: r) = some z -> ¬ (0 <= z /\ Lib.itoa z = 45 :: r) := by
    rintro z hz ⟨h0,h1⟩;obtain ⟨n,rfl⟩ := Int.eq_ofNat_of_zero_le h0;rw [Lib.itoa_nonneg] at h1;have := Zde n 45 (by rw [h1];simp)
    simp at this
   cases ha : Lib.atoi (45 :: r) with
   | none => rfl
   | some z => simp only;rw [if_neg (this z ha)]
  by_cases h43 : b = 43
  ·subst h43;rw [hright (hno (by decide))]
   have : ∀ z,Lib.atoi (43 :: r) = some z -> ¬ (0 <= z /\ Lib.itoa z = 43 :: r) := by
    rintro z hz ⟨h0,h1⟩;obtain ⟨n,rfl⟩ := Int.eq_ofNat_of_zero_le h0;rw [Lib.itoa_nonneg] at h1;have := Zde n 43 (by rw [h1];simp)
    simp at this
   cases ha : Lib.atoi (43 :: r) with
   | none => rfl
   | some z => simp only;rw [if_neg (this z ha)]
  have ha : Lib.atoi (b :: r) = (Lib.decFrom 0 (b :: r)).map fun (m : Nat) => (m : Int) := by
   have e1 : (b == 45) = false := by simpa using h45
   have e2 : (b == 43) = false := by simpa using h43
   simp [Lib.atoi,e1,e2,Lib.decNat]
  rw [ha];cases hd : Lib.decFrom 0 (b :: r) with
  | none => simp
  | some m =>
   simp only [Option.map_some];rw [Lib.itoa_nonneg];by_cases hz : 1 < (b :: r).length /\ (b :: r)[0]? = some 48
   ·rw [if_pos (show (b :: r).length < 1 \/ 4 < (b :: r).length \/ (1 < (b :: r).length /\ (b :: r)[0]? = some 48) from .inr (.inr hz))]
    have hno2 : ¬ (0 <= (m : Int) /\ Lib.decDigits m = b :: r) := by
     rintro ⟨_,h1⟩;have hb : b = 48 := by simpa using hz.2
     subst hb;by_cases hm : 1 <= m
     ·have := Zhs m hm;rw [h1] at this;simp at this
     ·obtain rfl : m = 0 := by omega
      rw [Lib.decDigits,dif_pos (by omega)] at h1
      have h2 := congrArg List.length h1;have h3 := hz.1;rw [<- h2] at h3;simp at h3
    rw [if_neg hno2]
   ·have hyes : 0 <= (m : Int) /\ Lib.decDigits m = b :: r := by
     refine ⟨by omega,?_⟩
     by_cases hb : b = 48
     ·subst hb;have hr : r = [] := by
       cases r with
       | nil => rfl
       | cons x y => exact absurd ⟨by simp,by simp⟩ hz
      subst hr;have e : Lib.decFrom 0 [48] = some 0 := by decide
      rw [e] at hd;cases hd
      rw [Lib.decDigits,dif_pos (by omega)]
      rfl
     ·exact (Znt _ (b :: r) m rfl (by simp) (by simpa using hb) hd).1
    rw [if_pos hyes,if_neg (show ¬ ((b :: r).length < 1 \/ 4 < (b :: r).length \/ (1 < (b :: r).length /\ (b :: r)[0]? = some 48)) from fun h => by
     rcases h with h | h | h
     ·simp at h
     ·exact h4 h
     ·exact hz h)]
    simp
end Go.Proofs.YtbgkfmodbofalaaGreatDoor.Tf
