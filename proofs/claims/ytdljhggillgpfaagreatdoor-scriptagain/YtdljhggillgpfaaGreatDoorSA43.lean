import Derived.Test.YtdljhggillgpfaaGreatDoorSA42
set_option maxRecDepth 100000
set_option maxHeartbeats 8000000
namespace Go.Proofs.YtdljhggillgpfaaGreatDoor
open Go.RowKit Go.Shelf Go.Lib
variable {es : Nat → Addr} {At : (Nat → Prop) → World → Value → Nat → Cf.Ens → Prop} {BAt : (Nat → Prop) → World → Value → Value → Bf.Bd → Prop}
theorem pathLen {p : List UInt8} (h1 : pathB p = true) : p.length ≤ 64 := by
 unfold pathB allB at h1
 simp only [Bool.and_eq_true,decide_eq_true_eq,List.all_eq_true] at h1
 have h2 : ∀ x ∈ Kf.parts p,x.length ≤ 12 := fun x hx => by
  have := h1.2 x hx
  unfold nameK at this
  simp only [Bool.and_eq_true,decide_eq_true_eq] at this
  have e : (ba x).size = x.length := ba_size x
  revert this
  simp [e]
  omega
 have h3 := Kf.tot_parts p
 have h4 : Kf.tot (Kf.parts p) ≤ (Kf.parts p).length * 13 := by
  generalize Kf.parts p = l at h2
  clear h1 h3
  induction l with
  | nil => simp [Kf.tot]
  | cons x r ih =>
   have := ih fun y hy => h2 y (List.mem_cons_of_mem _ hy)
   have := h2 x (by simp)
   simp [Kf.tot] at *
   omega
 omega
def ScB (B : Nat) (W : World) (es : Nat → Addr) (m : Int) : Prop :=
 ∃ w0 : World,w0.heap.size = B ∧ BuildW w0 es ∧ TErr w0 (erOf es) ∧ E12 w0 es ∧ ErTx w0 es ∧ KPow w0 ∧ w0.cell? ⟨13,0,none⟩ = some (.int .i64 m) ∧ Below B w0 W
namespace ScB
variable {B : Nat} {W W' : World} {m : Int}
theorem y (h : ScB B W es m) : YBase B W es := by obtain ⟨w0,h1,h2,h3,_,_,_,_,h4⟩ := h;exact ⟨w0,h1,h2,h3,h4⟩
theorem e12 (h : ScB B W es m) : E12 W es := by obtain ⟨w0,rfl,_,_,h,_,_,_,h4⟩ := h;exact h.below h4
theorem tx (h : ScB B W es m) : ErTx W es := by obtain ⟨w0,rfl,_,_,_,h,_,_,h4⟩ := h;exact h.below h4
theorem pow (h : ScB B W es m) : KPow W := by obtain ⟨w0,rfl,_,_,_,_,h,_,h4⟩ := h;exact kpow_below h h4
theorem max (h : ScB B W es m) : W.cell? ⟨13,0,none⟩ = some (.int .i64 m) := by obtain ⟨w0,rfl,_,_,_,_,_,h,h4⟩ := h;exact cell_below' h h4
theorem trans (h : ScB B W es m) (hb : Below B W W') : ScB B W' es m := by obtain ⟨w0,h1,h2,h3,h4,h5,h6,h7,h8⟩ := h;exact ⟨w0,h1,h2,h3,h4,h5,h6,h7,h8.trans hb⟩
theorem text (h : ScB B W es m) : W.cell? ⟨1,0,none⟩ = some (erOf es 1) := h.e12.c0
theorem none (h : ScB B W es m) : W.cell? ⟨5,0,none⟩ = some (erOf es 6) := h.e12.c5
end ScB
structure ScAt (At : (Nat → Prop) → World → Value → Nat → Cf.Ens → Prop) (B : Nat) (W : World) (pb yb : Nat) (L : YL) (y : Bf.Yd) (sv : Value) (RS : Nat → Prop) : Prop where
 yard : YdAt At B W yb L y
 ok : y.Ok
 row : W.heap[pb]? = some (.cells #[Ptr yb,sv] 60 (0,0))
 low : B ≤ pb
 rows : ∀ V : World,W.heap.size ≤ V.heap.size → (∀ j,RS j → V.heap[j]? = W.heap[j]?) → RRow V sv y.l
 rlt : ∀ j,RS j → j < W.heap.size
 kp : L.k pb = 9
 kr : ∀ j,RS j → L.k j = 9
 new : ∀ j,W.heap.size ≤ j → L.k j = 9
 np : ∀ j,RS j → j ≠ pb
structure ScStep (W w' : World) (L L' : YL) (pb : Nat) : Prop where
 size : W.heap.size ≤ w'.heap.size
 rest : ∀ j,j < W.heap.size → L.k j = 9 → j ≠ pb → w'.heap[j]? = W.heap[j]?
 kk : ∀ j,j < W.heap.size → L'.k j = L.k j
namespace ScAt
variable {B : Nat} {W w' : World} {pb yb : Nat} {L L' : YL} {y y' : Bf.Yd} {sv : Value} {RS : Nat → Prop}
theorem lt (h : ScAt At B W pb yb L y sv RS) : pb < W.heap.size := (Array.getElem?_eq_some_iff.1 h.row).1
theorem c0 (h : ScAt At B W pb yb L y sv RS) : W.cell? ⟨pb,0,none⟩ = some (Ptr yb) := cell_of_row (j := 0) h.row rfl
theorem c1 (h : ScAt At B W pb yb L y sv RS) : W.cell? ⟨pb,1,none⟩ = some sv := cell_of_row (j := 1) h.row rfl
theorem rrow (h : ScAt At B W pb yb L y sv RS) : RRow W sv y.l := h.rows W (Nat.le_refl _) fun _ _ => rfl
theorem bw (h : ScAt At B W pb yb L y sv RS) : B ≤ W.heap.size := by have := h.low;have := h.lt;omega
theorem below (HC : Caches0 es At) (h : ScAt At B W pb yb L y sv RS) (hb : Below W.heap.size W w') : ScAt At B w' pb yb L y sv RS :=
 ⟨h.yard.below HC hb,h.ok,(hb.block pb h.lt).trans h.row,h.low,fun V hz hV => h.rows V (Nat.le_trans hb.size hz) fun j hj => (hV j hj).trans (hb.block j (h.rlt j hj)),fun j hj => Nat.lt_of_lt_of_le (h.rlt j hj) hb.size,h.kp,h.kr,fun j hj => h.new j (Nat.le_trans hb.size hj),h.np⟩
theorem go (HC : Caches0 es At) (h : ScAt At B W pb yb L y sv RS) (hs : YStep W w' L L') (hy : YdAt At B w' yb L' y') (hl : y'.l = y.l) (hok : y'.Ok) : ∃ L2,ScAt At B w' pb yb L2 y' sv RS ∧ ScStep W w' L L2 pb := by
 have hlt : ∀ j,j < W.heap.size → j < w'.heap.size := fun j hj => Nat.lt_of_lt_of_le hj hs.size
 refine ⟨{ L' with k := L'.more w'.heap.size 9 },⟨hy.retag HC 9,hok,(hs.rest pb h.lt h.kp).trans h.row,h.low,fun V hz hV => ?_,fun j hj => hlt j (h.rlt j hj),?_,fun j hj => ?_,fun j hj => L'.more_new hj,h.np⟩,hs.size,fun j hj hk _ => hs.rest j hj hk,fun j hj => ?_⟩
 ·rw [hl]
  exact h.rows V (Nat.le_trans hs.size hz) fun j hj => (hV j hj).trans (hs.rest j (h.rlt j hj) (h.kr j hj))
 ·exact (L'.more_old (hlt pb h.lt)).trans ((hs.kk pb h.lt).trans h.kp)
 ·exact (L'.more_old (hlt j (h.rlt j hj))).trans ((hs.kk j (h.rlt j hj)).trans (h.kr j hj))
 ·exact (L'.more_old (hlt j hj)).trans (hs.kk j hj)
end ScAt
theorem ScStep.below {W V : World} (L : YL) (pb : Nat) (h : Below W.heap.size W V) : ScStep W V L L pb := ⟨h.size,fun j hj _ _ => h.block j hj,fun _ _ => rfl⟩
theorem ScStep.trans {W V U : World} {L M N : YL} {pb : Nat} (h : ScStep W V L M pb) (h' : ScStep V U M N pb) : ScStep W U L N pb :=
 ⟨Nat.le_trans h.size h'.size,fun j hj hk hn => (h'.rest j (Nat.lt_of_lt_of_le hj h.size) ((h.kk j hj).trans hk) hn).trans (h.rest j hj hk hn),fun j hj => (h'.kk j (Nat.lt_of_lt_of_le hj h.size)).trans (h.kk j hj)⟩
def Does (es : Nat → Addr) (At : (Nat → Prop) → World → Value → Nat → Cf.Ens → Prop) (B : Nat) (W : World) (pb yb : Nat) (L : YL) (RS : Nat → Prop) (y' : Bf.Yd) (a : Sc.An) (e : Ending) (w' : World) : Prop :=
 ∃ t ev,e = .returned (.tuple #[.string (ba t),ev]) ∧ Below B W w' ∧ CmdV w' es a t ev ∧ ∃ L' sv' RS',ScAt At B w' pb yb L' y' sv' RS' ∧ ScStep W w' L L' pb ∧ ∀ j,RS' j → j < W.heap.size → RS j
end Go.Proofs.YtdljhggillgpfaaGreatDoor
namespace Go.Proofs.YtdljhggillgpfaaGreatDoor
open Go.RowKit Go.Shelf Go.Lib
variable {es : Nat → Addr} {At : (Nat → Prop) → World → Value → Nat → Cf.Ens → Prop} {BAt : (Nat → Prop) → World → Value → Value → Bf.Bd → Prop}
theorem Does.err {B : Nat} {W w' : World} {pb yb : Nat} {L : YL} {y : Bf.Yd} {sv : Value} {RS : Nat → Prop} (HC : Caches0 es At) (h : ScAt At B W pb yb L y sv RS) (hb : Below W.heap.size W w') {c : Nat} (hc : c < 12) (t : List UInt8) :
  Does es At B W pb yb L RS y ([],c + 1) (.returned (.tuple #[.string (ba t),erOf es (c + 1)])) w' :=
 ⟨t,_,rfl,hb.mono h.bw,.err hc t,L,sv,RS,h.below HC hb,.below L pb hb,fun _ h _ => h⟩
theorem Does.aheadR {B : Nat} {W V w' : World} {pb yb : Nat} {L : YL} {RS R2 : Nat → Prop} {y' : Bf.Yd} {a : Sc.An} {e : Ending} (hBW : B ≤ W.heap.size) (hb : Below W.heap.size W V) (h : Does es At B V pb yb L R2 y' a e w') (hR : ∀ j,R2 j → j < W.heap.size → RS j) : Does es At B W pb yb L RS y' a e w' := by
 obtain ⟨t,ev,rfl,g,hc,L',sv',RS',h1,h2,h3⟩ := h
 exact ⟨t,ev,rfl,(hb.mono hBW).trans g,hc,L',sv',RS',h1,(ScStep.below L pb hb).trans h2,fun j hj hl => hR j (h3 j hj (Nat.lt_of_lt_of_le hl hb.size)) hl⟩
theorem Does.ahead {B : Nat} {W V w' : World} {pb yb : Nat} {L : YL} {RS : Nat → Prop} {y' : Bf.Yd} {a : Sc.An} {e : Ending} (hBW : B ≤ W.heap.size) (hb : Below W.heap.size W V) (h : Does es At B V pb yb L RS y' a e w') : Does es At B W pb yb L RS y' a e w' := h.aheadR hBW hb fun _ h _ => h
theorem onPath_m (HC : Caches0 es At) {B : Nat} {W : World} {pb yb : Nat} {L : YL} {y : Bf.Yd} {sv : Value} {RS : Nat → Prop} (h : ScAt At B W pb yb L y sv RS) {m : Int} (hB : ScB B W es m) (s : List UInt8) (hs : s.length ≤ 1000000) (F : Nat) (eg : ∀ args w,(callFunc F args).run Tryz.prog w = .ok (.enter F args) w) (y' : Bf.Yd) (a : Sc.An)
  (HF : Hid (pathB s = true → ∀ V,Below W.heap.size W V → Calls Tryz.prog F #[Ptr pb,.string (ba s)] V (Does es At B V pb yb L RS y' a))) :
  Calls Tryz.prog 49 #[.string (ba s),.func (.func F) #[Ptr pb] #[]] W (Does es At B W pb yb L RS (if pathB s = true then y' else y) (if pathB s = true then a else ([],1))) := by
 have HN := hid1 (notPath_calls hB.e12.es s hs)
 have hx := hB.text
 have HE := hid1 fun (V : World) (g : Below W.heap.size W V) => Does.err (es := es) HC h g (c := 0) (by omega) []
 have HA := hid1 fun (V w' : World) (g : Below W.heap.size W V) (e : Ending) (hd : Does es At B V pb yb L RS y' a e w') => Does.ahead h.bw g hd
 clear h hB
 cases hp : pathB s with
 | false =>
  rw [hp] at HN
  simp only [Bool.false_eq_true,if_false]
  simp only [erOf] at hx HE
  clear HF HA hp
  go_enter Tryz.func49,Tryz.ntmps49
  go_wp2_with fail
  refine HN.out.mono ?_
  rintro e w1 ⟨rfl,g1⟩
  have hx1 := cell_below' hx g1
  have HD := hid1 (HE.out _ g1.drew)
  clear HN HE
  go_wp2
  go_region
  go_wp2
  go_ret2
  exact HD.out
 | true =>
  rw [hp] at HN
  simp only [if_true]
  have HF1 := hid1 (HF.out hp)
  clear HF hp HE
  go_enter Tryz.func49,Tryz.ntmps49
  go_wp2_with fail
  refine HN.out.mono ?_
  rintro e w1 ⟨rfl,g1⟩
  have HF2 := hid1 (HF1.out w1 g1)
  have HA1 := hid1 (HA.out w1 · g1)
  clear HN HF1 HA
  go_wp2_with fail
  refine HF2.out.mono ?_
  rintro e w2 ⟨t,ev,rfl,hd⟩
  have HD := hid1 (HA1.out w2 _ ⟨t,ev,rfl,hd⟩)
  clear HF2 HA1 hd
  go_wp2
  go_ret2
  exact HD.out
theorem spdrop_calls (HC : Caches0 es At) {B : Nat} {W : World} {pb yb : Nat} {L : YL} {y : Bf.Yd} {sv : Value} {RS : Nat → Prop} (h : ScAt At B W pb yb L y sv RS) {m : Int} (hB : ScB B W es m) (s : List UInt8) (hs : s.length ≤ 1000000) :
  Calls Tryz.prog 50 #[Ptr pb,.string (ba s)] W (Does es At B W pb yb L RS { y with fs := Tf.del y.fs s } (if Tf.hasP y.fs s = true then (Sc.ok,0) else ([],6))) := by
 have HTr := hid1 (yTree_calls h.yard)
 have HRm := hid1 (RemoveK_calls h.yard.t hB.y.errs s hs)
 have c0 := h.c0
 have HY := hid1 h
 have HCs := hid1 HC
 have HQ : Hid ((if Tf.hasP y.fs s = true then (Sc.ok,0) else (([] : List UInt8),6)) = (if (if Tf.hasP y.fs s = true then 0 else 6) = 0 then Sc.ok else [],if Tf.hasP y.fs s = true then 0 else 6)) := hid1 (by cases Tf.hasP y.fs s <;> rfl)
 have hc12 : (if Tf.hasP y.fs s = true then 0 else 6) ≤ 12 := by split <;> omega
 rw [HQ.out]
 have HOk : Hid (Bf.Yd.Ok { y with fs := Tf.del y.fs s }) := hid1 ⟨h.ok.fs.del s,h.ok.os,h.ok.l,h.ok.c⟩
 clear h HC hB HQ
 generalize (if Tf.hasP y.fs s = true then 0 else 6) = c at *
 have HDn := hid1 fun (V : World) => done_calls (w := V) (es := es) (erOf es c) c (-1) (.inl ⟨rfl,rfl,hc12⟩)
 generalize ((if c = 0 then Sc.ok else [],c) : Sc.An) = an at *
 go_enter Tryz.func50,Tryz.ntmps50
 go_wp2_with fail
 refine HTr.out.mono ?_
 rintro e w1 ⟨rfl,rfl⟩
 go_wp2_with fail
 refine HRm.out.mono ?_
 rintro e w2 ⟨rfl,⟨o',hon,hT⟩,hB2,hK⟩
 obtain ⟨L2,hy2,hS2⟩ := HY.out.yard.files2 HCs.out hT hon hK
 have HG := hid1 (HY.out.go HCs.out hS2 hy2 rfl HOk.out)
 have HB2 := hid1 hB2
 have HD := hid1 (HDn.out w2)
 clear HDn hT hon hK hy2 hS2 hB2 HRm HTr HOk
 go_wp2_with fail
 refine HD.out.mono ?_
 rintro e w3 ⟨t,rfl,rfl,hv⟩
 have HV := hid1 hv
 obtain ⟨ev,hev⟩ : ∃ ev,erOf es c = ev := ⟨_,rfl⟩
 clear HD hv
 rw [hev] at HV ⊢
 clear hev
 go_wp2
 go_ret2
 obtain ⟨L3,h3,hs3⟩ := HG.out
 exact ⟨t,ev,rfl,HB2.out,HV.out,L3,sv,RS,h3,hs3,fun _ h _ => h⟩
end Go.Proofs.YtdljhggillgpfaaGreatDoor
namespace Go.Proofs.YtdljhggillgpfaaGreatDoor
open Go.RowKit Go.Shelf Go.Lib
variable {es : Nat → Addr} {At : (Nat → Prop) → World → Value → Nat → Cf.Ens → Prop} {BAt : (Nat → Prop) → World → Value → Value → Bf.Bd → Prop}
theorem putCode_le (fs : Tf.Fs) (p b : List UInt8) : Tf.putCode pathB fs p b ≤ 12 := by
 unfold Tf.putCode
 repeat' split
 all_goals omega
theorem spput_calls (HC : Caches0 es At) {B : Nat} {W : World} {pb yb : Nat} {L : YL} {y : Bf.Yd} {sv : Value} {RS : Nat → Prop} (h : ScAt At B W pb yb L y sv RS) {m : Int} (hB : ScB B W es m) (p b : List UInt8) (hp : p.length ≤ 1000000) :
  Calls Tryz.prog 64 #[Ptr pb,.string (ba p),.string (ba b)] W (Does es At B W pb yb L RS { y with fs := Tf.putF pathB y.fs p b } (if Tf.putCode pathB y.fs p b = 0 then Sc.ok else [],Tf.putCode pathB y.fs p b)) := by
 have HTr := hid1 (yTree_calls h.yard)
 have HPt := hid1 (PutK_calls h.yard.t hB.y.errs (fun f hf' => by have := well_len h.ok.fs f hf';omega) (by have := h.ok.fs.few;omega) p b hp)
 have c0 := h.c0
 have HY := hid1 h
 have HCs := hid1 HC
 have hc12 := putCode_le y.fs p b
 have HOk : Hid (Bf.Yd.Ok { y with fs := Tf.putF pathB y.fs p b }) := hid1 ⟨h.ok.fs.putF p b,h.ok.os,h.ok.l,h.ok.c⟩
 clear h HC hB
 generalize Tf.putCode pathB y.fs p b = c at *
 have HDn := hid1 fun (V : World) => done_calls (w := V) (es := es) (erOf es c) c (-1) (.inl ⟨rfl,rfl,hc12⟩)
 generalize ((if c = 0 then Sc.ok else [],c) : Sc.An) = an at *
 go_enter Tryz.func64,Tryz.ntmps64
 go_wp2_with fail
 refine HTr.out.mono ?_
 rintro e w1 ⟨rfl,rfl⟩
 go_wp2_with fail
 refine HPt.out.mono ?_
 rintro e w2 ⟨rfl,⟨o',hon,hT⟩,hB2,hK⟩
 obtain ⟨L2,hy2,hS2⟩ := HY.out.yard.files2 HCs.out hT hon hK
 have HG := hid1 (HY.out.go HCs.out hS2 hy2 rfl HOk.out)
 have HB2 := hid1 hB2
 have HD := hid1 (HDn.out w2)
 clear HDn hT hon hK hy2 hS2 hB2 HPt HTr HOk
 go_wp2_with fail
 refine HD.out.mono ?_
 rintro e w3 ⟨t,rfl,rfl,hv⟩
 have HV := hid1 hv
 obtain ⟨ev,hev⟩ : ∃ ev,erOf es c = ev := ⟨_,rfl⟩
 clear HD hv
 rw [hev] at HV ⊢
 clear hev
 go_wp2
 go_ret2
 obtain ⟨L3,h3,hs3⟩ := HG.out
 exact ⟨t,ev,rfl,HB2.out,HV.out,L3,sv,RS,h3,hs3,fun _ h _ => h⟩
theorem Does.cell {B : Nat} {W V w' : World} {pb yb : Nat} {L : YL} {RS : Nat → Prop} {y' : Bf.Yd} {a : Sc.An} {e : Ending} (h : Does es At B V pb yb L RS y' a e w') (g : Below W.heap.size W V) {b : Nat} {v : Value} (hc : W.cell? ⟨b,0,none⟩ = some v) (hk : L.k b = 9) (hn : b ≠ pb) : w'.cell? ⟨b,0,none⟩ = some v := by
 obtain ⟨t,ev,_,_,_,L',sv',RS',_,h2,_⟩ := h
 have hb : b < W.heap.size := by
  rcases Nat.lt_or_ge b W.heap.size with h | h
  ·exact h
  ·simp [World.cell?,Array.getElem?_eq_none h] at hc
 have hc1 := cell_below' hc g
 rw [← hc1]
 exact cell_same (h2.rest b (Nat.lt_of_lt_of_le hb g.size) hk hn)
theorem putText1_calls (HC : Caches0 es At) {B : Nat} {W : World} {pb yb : Nat} {L : YL} {y : Bf.Yd} {sv : Value} {RS : Nat → Prop} (h : ScAt At B W pb yb L y sv RS) {m : Int} (hB : ScB B W es m) (p s : List UInt8) (hp : p.length ≤ 1000000) (hs : s.length ≤ 1000000) (b1 b2 : Nat) (h1 : W.cell? ⟨b1,0,none⟩ = some (Ptr pb)) (h2 : W.cell? ⟨b2,0,none⟩ = some (.string (ba s))) (k1 : L.k b1 = 9) (k2 : L.k b2 = 9) (n1 : b1 ≠ pb) (n2 : b2 ≠ pb) :
  Calls Tryz.prog 63 #[.string (ba p),.pointer (some ⟨b1,0,none⟩),.pointer (some ⟨b2,0,none⟩)] W (Does es At B W pb yb L RS { y with fs := Tf.putF pathB y.fs p (Lib.replaceAll s [59] [10]) } (if Tf.putCode pathB y.fs p (Lib.replaceAll s [59] [10]) = 0 then Sc.ok else [],Tf.putCode pathB y.fs p (Lib.replaceAll s [59] [10]))) := by
 have HR := hid1 fun (V : World) (g : Below W.heap.size W V) => replace_calls s [59] [10] hs rfl rfl m V (hB.trans (g.mono h.bw)).max
 have HP := hid1 fun (V : World) (g : Below W.heap.size W V) => spput_calls HC (h.below HC g) (hB.trans (g.mono h.bw)) p (Lib.replaceAll s [59] [10]) hp
 have HA := hid1 fun (V w' : World) (g : Below W.heap.size W V) (e : Ending) (y' : Bf.Yd) (a : Sc.An) (hd : Does es At B V pb yb L RS y' a e w') => Does.ahead h.bw g hd
 have HK := hid1 fun (V w' : World) (g : Below W.heap.size W V) (e : Ending) (y' : Bf.Yd) (a : Sc.An) (hd : Does es At B V pb yb L RS y' a e w') => And.intro (hd.cell g h1 k1 n1) (hd.cell g h2 k2 n2)
 clear h hB HC k1 k2 n1 n2
 generalize Lib.replaceAll s [59] [10] = b at *
 generalize ((if Tf.putCode pathB y.fs p b = 0 then Sc.ok else [],Tf.putCode pathB y.fs p b) : Sc.An) = an at *
 generalize ({ y with fs := Tf.putF pathB y.fs p b } : Bf.Yd) = y' at *
 go_enter Tryz.func63,Tryz.ntmps63
 go_wp2
 go_region_held3 (fun w' => w'.cell? ⟨b1,0,none⟩ = some (Ptr pb) ∧ w'.cell? ⟨b2,0,none⟩ = some (.string (ba s))) (first | go_keep | fail)
  (first
   | (go_at_call 64;refine (HP.out w1 g1).mono ?_;rintro e w2 ⟨t,ev,rfl,hd⟩;obtain ⟨f1,f2⟩ := HK.out w1 w2 g1 _ _ _ ⟨t,ev,rfl,hd⟩;have HD := hid1 (HA.out w1 w2 g1 _ _ _ ⟨t,ev,rfl,hd⟩))
   | (go_at_call 65;refine (HR.out _ (by exact (Below.refl _ W).drew)).mono ?_;rintro e w1 ⟨rfl,g1'⟩;have g1 := below_then (Below.refl W.heap.size W).drew g1';have e1 := cell_below' (w := W.drew) h1 g1';have e2 := cell_below' (w := W.drew) h2 g1')
   | fail)
 all_goals
  go_wp2
  go_ret2
  exact HD.out
end Go.Proofs.YtdljhggillgpfaaGreatDoor
namespace Go.Proofs.YtdljhggillgpfaaGreatDoor
open Go.RowKit Go.Shelf Go.Lib
variable {es : Nat → Addr} {At : (Nat → Prop) → World → Value → Nat → Cf.Ens → Prop} {BAt : (Nat → Prop) → World → Value → Value → Bf.Bd → Prop}
theorem onPath_c (HC : Caches0 es At) {B : Nat} {W : World} {pb yb : Nat} {L : YL} {y : Bf.Yd} {sv : Value} {RS : Nat → Prop} (h : ScAt At B W pb yb L y sv RS) {m : Int} (hB : ScB B W es m) (s : List UInt8) (hs : s.length ≤ 1000000) (F : Nat) (eg : ∀ args w,(callFunc F args).run Tryz.prog w = .ok (.enter F args) w) (c1 c2 : Value) (y' : Bf.Yd) (a : Sc.An)
  (HF : Hid (pathB s = true → ∀ V,Below W.heap.size W V → Calls Tryz.prog F #[.string (ba s),c1,c2] V (Does es At B V pb yb L RS y' a))) :
  Calls Tryz.prog 49 #[.string (ba s),.func (.func F) #[] #[c1,c2]] W (Does es At B W pb yb L RS (if pathB s = true then y' else y) (if pathB s = true then a else ([],1))) := by
 have HN := hid1 (notPath_calls hB.e12.es s hs)
 have hx := hB.text
 have HE := hid1 fun (V : World) (g : Below W.heap.size W V) => Does.err (es := es) HC h g (c := 0) (by omega) []
 have HA := hid1 fun (V w' : World) (g : Below W.heap.size W V) (e : Ending) (hd : Does es At B V pb yb L RS y' a e w') => Does.ahead h.bw g hd
 clear h hB
 cases hp : pathB s with
 | false =>
  rw [hp] at HN
  simp only [Bool.false_eq_true,if_false]
  simp only [erOf] at hx HE
  clear HF HA hp
  go_enter Tryz.func49,Tryz.ntmps49
  go_wp2_with fail
  refine HN.out.mono ?_
  rintro e w1 ⟨rfl,g1⟩
  have hx1 := cell_below' hx g1
  have HD := hid1 (HE.out _ g1.drew)
  clear HN HE
  go_wp2
  go_region
  go_wp2
  go_ret2
  exact HD.out
 | true =>
  rw [hp] at HN
  simp only [if_true]
  have HF1 := hid1 (HF.out hp)
  clear HF hp HE
  go_enter Tryz.func49,Tryz.ntmps49
  go_wp2_with fail
  refine HN.out.mono ?_
  rintro e w1 ⟨rfl,g1⟩
  have HF2 := hid1 (HF1.out w1 g1)
  have HA1 := hid1 (HA.out w1 · g1)
  clear HN HF1 HA
  go_wp2_with fail
  refine HF2.out.mono ?_
  rintro e w2 ⟨t,ev,rfl,hd⟩
  have HD := hid1 (HA1.out w2 _ ⟨t,ev,rfl,hd⟩)
  clear HF2 HA1 hd
  go_wp2
  go_ret2
  exact HD.out
theorem putText_calls (HC : Caches0 es At) {B : Nat} {W : World} {pb yb : Nat} {L : YL} {y : Bf.Yd} {sv : Value} {RS : Nat → Prop} (h : ScAt At B W pb yb L y sv RS) {m : Int} (hB : ScB B W es m) (s : List UInt8) (hs : s.length ≤ 100000) :
  Calls Tryz.prog 44 #[Ptr pb,.string (ba s)] W (Does es At B W pb yb L RS (Sc.putY y s) (Sc.putA y s)) := by
 have hcl : (Lib.cut s [32]).1.length ≤ 100000 ∧ (Lib.cut s [32]).2.1.length ≤ 100000 := by
  unfold Lib.cut
  split <;> simp <;> omega
 obtain ⟨w1,hw1⟩ : ∃ w1,W.alloc (.cells #[Ptr pb] 43) = w1 := ⟨_,rfl⟩
 have g1 : Below W.heap.size W w1 := by rw [← hw1];exact (Below.refl _ W).alloc (Nat.le_refl _) _
 have bx1 : Boxed w1 W.heap.size 43 (Ptr pb) := by rw [← hw1];exact Boxed.new W _ _
 have hB1 := hB.trans (g1.mono h.bw)
 have HCt := hid1 (rcut_calls s [32] (by omega) m w1 hB1.max)
 have HE := hid1 fun (V : World) (g : Below W.heap.size W V) => Does.err (es := es) HC h g (c := 0) (by omega) []
 have HO := hid1 fun (V : World) (g : Below W.heap.size W V) (b1 b2 : Nat) (p t : List UInt8) (hp : p.length ≤ 100000) (ht : t.length ≤ 100000) (h1 : V.cell? ⟨b1,0,none⟩ = some (Ptr pb)) (h2 : V.cell? ⟨b2,0,none⟩ = some (.string (ba t))) (n1 : W.heap.size ≤ b1) (n2 : W.heap.size ≤ b2) =>
  onPath_c HC (h.below HC g) (hB.trans (g.mono h.bw)) p (by omega) 63 (enters_of Tryz.func63 (by kernel_rfl) rfl) (.pointer (some ⟨b1,0,none⟩)) (.pointer (some ⟨b2,0,none⟩)) _ _
   (hid1 fun _ U gU => putText1_calls HC ((h.below HC g).below HC gU) ((hB.trans (g.mono h.bw)).trans (gU.mono (h.below HC g).bw)) p t (by omega) (by omega) b1 b2 (cell_below' h1 gU) (cell_below' h2 gU) (h.new b1 n1) (h.new b2 n2) (by have := h.lt;omega) (by have := h.lt;omega))
 have HA := hid1 fun (V w' : World) (g : Below W.heap.size W V) (e : Ending) (y' : Bf.Yd) (a : Sc.An) (hd : Does es At B V pb yb L RS y' a e w') => Does.ahead h.bw g hd
 have hx := hB.text
 simp only [erOf] at hx HE
 unfold Sc.putY Sc.putA Sc.putT
 clear h hB hB1 HC
 generalize Lib.cut s [32] = ct at *
 obtain ⟨file,text,is⟩ := ct
 simp only at hcl HCt ⊢
 cases is with
 | false =>
  simp only [true_or,if_true]
  go_enter Tryz.func44,Tryz.ntmps44
  go_wp2_with fail
  refine HCt.out.mono ?_
  rintro e w2 ⟨rfl,g2⟩
  have G2 := below_then g1 g2
  have gA : Below W.heap.size W (w2.alloc (.cells #[.string (ba text)] 9)) := G2.alloc G2.size _
  have hx2 := cell_below' hx gA
  have HD := hid1 (HE.out _ gA.drew)
  clear HE HO HA HCt
  go_wp2
  go_region
  go_wp2
  go_ret2
  exact HD.out
 | true =>
  have e1 : ((true = false ∨ pathB file = false)) = (pathB file = false) := by simp
  simp only [e1]
  have HQ : Hid ((if pathB file = false then y else { y with fs := Tf.putF pathB y.fs file (Lib.replaceAll text [59] [10]) }) = (if pathB file = true then { y with fs := Tf.putF pathB y.fs file (Lib.replaceAll text [59] [10]) } else y)) := hid1 (by cases pathB file <;> rfl)
  have HR : Hid ((if pathB file = false then (([],1) : Sc.An) else (if Tf.putCode pathB y.fs file (Lib.replaceAll text [59] [10]) = 0 then Sc.ok else [],Tf.putCode pathB y.fs file (Lib.replaceAll text [59] [10]))) = (if pathB file = true then (if Tf.putCode pathB y.fs file (Lib.replaceAll text [59] [10]) = 0 then Sc.ok else [],Tf.putCode pathB y.fs file (Lib.replaceAll text [59] [10])) else ([],1))) := hid1 (by cases pathB file <;> rfl)
  rw [HQ.out,HR.out]
  clear HQ HR e1 HE
  have HO1 := hid1 fun (V : World) (g : Below W.heap.size W V) (b1 b2 : Nat) => HO.out V g b1 b2 file text hcl.1 hcl.2
  clear HO
  generalize ((if Tf.putCode pathB y.fs file (Lib.replaceAll text [59] [10]) = 0 then Sc.ok else [],Tf.putCode pathB y.fs file (Lib.replaceAll text [59] [10])) : Sc.An) = a1 at *
  generalize ({ y with fs := Tf.putF pathB y.fs file (Lib.replaceAll text [59] [10]) } : Bf.Yd) = y1 at *
  generalize (if pathB file = true then a1 else ([],1)) = a2 at *
  generalize (if pathB file = true then y1 else y) = y2 at *
  go_enter Tryz.func44,Tryz.ntmps44
  go_wp2_with fail
  refine HCt.out.mono ?_
  rintro e w2 ⟨rfl,g2⟩
  have G2 := below_then g1 g2
  have gA : Below W.heap.size W (w2.alloc (.cells #[.string (ba text)] 9)) := G2.alloc G2.size _
  have bx2 : (w2.alloc (.cells #[.string (ba text)] 9)).cell? ⟨w2.heap.size,0,none⟩ = some (.string (ba text)) := (Boxed.new w2 9 _).cell
  have bx3 : (w2.alloc (.cells #[.string (ba text)] 9)).cell? ⟨W.heap.size,0,none⟩ = some (Ptr pb) := cell_below' (cell_below' bx1.cell g2) ((Below.refl _ w2).alloc (Nat.le_refl _) _)
  have HO2 := hid1 (HO1.out _ gA W.heap.size w2.heap.size bx3 bx2 (Nat.le_refl _) G2.size)
  have HA2 := hid1 (HA.out _ · gA)
  clear HO1 HA HCt bx2 bx3
  generalize hwA : w2.alloc (.cells #[.string (ba text)] 9) = wA at *
  go_wp2_with fail
  refine HO2.out.mono ?_
  rintro e w3 ⟨t,ev,rfl,hd⟩
  have HD := hid1 (HA2.out w3 _ _ _ ⟨t,ev,rfl,hd⟩)
  clear HO2 HA2 hd
  go_wp2
  go_ret2
  exact HD.out
end Go.Proofs.YtdljhggillgpfaaGreatDoor
namespace Go.Proofs.YtdljhggillgpfaaGreatDoor
open Go.RowKit Go.Shelf Go.Lib
variable {es : Nat → Addr} {At : (Nat → Prop) → World → Value → Nat → Cf.Ens → Prop} {BAt : (Nat → Prop) → World → Value → Value → Bf.Bd → Prop}
theorem Does.same {B : Nat} {W w' : World} {pb yb : Nat} {L : YL} {y : Bf.Yd} {sv : Value} {RS : Nat → Prop} (HC : Caches0 es At) (h : ScAt At B W pb yb L y sv RS) (hb : Below W.heap.size W w') {a : Sc.An} {t : List UInt8} {ev : Value} (hv : CmdV w' es a t ev) :
  Does es At B W pb yb L RS y a (.returned (.tuple #[.string (ba t),ev])) w' :=
 ⟨t,_,rfl,hb.mono h.bw,hv,L,sv,RS,h.below HC hb,.below L pb hb,fun _ h _ => h⟩
theorem well_bytes {fs : Tf.Fs} (h : Tf.Well pathB fs) : ∀ x b,Tf.get fs x = some b → b.length ≤ 2000 := fun x b hb => by
 unfold Tf.get at hb
 obtain ⟨f,hf,rfl⟩ := Option.map_eq_some_iff.1 hb
 exact (h.each f (List.mem_of_find?_eq_some hf)).2
theorem spshow_calls (HC : Caches0 es At) {B : Nat} {W : World} {pb yb : Nat} {L : YL} {y : Bf.Yd} {sv : Value} {RS : Nat → Prop} (h : ScAt At B W pb yb L y sv RS) {m : Int} (hB : ScB B W es m) (p : List UInt8) (hp : p.length ≤ 1000000) :
  Calls Tryz.prog 51 #[Ptr pb,.string (ba p)] W (Does es At B W pb yb L RS y (Sc.showA y p)) := by
 have c0 := h.c0
 have HO := hid1 (yOut_calls h.yard)
 have HT := hid1 fun (V : World) (g : Below W.heap.size W V) => yTree_calls (h.yard.below HC g)
 have HG1 := hid1 (Get_calls h.yard.o p hp)
 have HG2 := hid1 fun (V : World) (g : Below W.heap.size W V) => Get_calls (h.yard.t.below g) p hp
 rw [hasP_get] at HG1 HG2
 have HD := hid1 fun (w' : World) (g : Below W.heap.size W w') (a : Sc.An) (t : List UInt8) (ev : Value) (hv : CmdV w' es a t ev) => Does.same HC h g hv
 have hn := hB.none
 have b1 := well_bytes h.ok.os p
 have b2 := well_bytes h.ok.fs p
 have HI := hid1 fun (s : List UInt8) (hs : s.length ≤ 2000) (V : World) (g : Below W.heap.size W V) => inLine_calls s (by omega) m V (hB.trans (g.mono h.bw)).max
 have HE : Hid (∀ w' : World,CmdV w' es ([],6) [] (erOf es 6)) := hid1 fun w' => CmdV.err (es := es) (c := 5) (by omega) []
 unfold Sc.showA
 simp only [erOf] at hn HE
 clear h hB HC
 cases ho : Tf.get y.os p with
 | some b =>
  rw [ho] at HG1
  simp only [Option.getD_some,Option.isSome_some] at HG1 ⊢
  have HI1 := hid1 (HI.out b (b1 b ho))
  clear ho b1 b2 HG2 HT HI HE
  generalize Sc.inLine b = il at *
  go_enter Tryz.func51,Tryz.ntmps51
  go_wp2_with fail
  refine HO.out.mono ?_
  rintro e w1 ⟨rfl,rfl⟩
  go_wp2_with fail
  refine HG1.out.mono ?_
  rintro e w2 ⟨rfl,g2⟩
  have HI2 := hid1 (HI1.out w2 g2)
  clear HG1 HO HI1
  go_wp2_with fail
  refine HI2.out.mono ?_
  rintro e w3 ⟨rfl,g3⟩
  have HD2 := hid1 (HD.out w3 (below_then g2 g3) (il,0) il _ (.fine il))
  clear HI2 HD
  go_wp2
  go_ret2
  exact HD2.out
 | none =>
  rw [ho] at HG1
  simp only [Option.getD_none,Option.isSome_none] at HG1 ⊢
  cases hf : Tf.get y.fs p with
  | some b =>
   rw [hf] at HG2
   simp only [Option.getD_some,Option.isSome_some] at HG2 ⊢
   have HI1 := hid1 (HI.out b (b2 b hf))
   clear ho hf b1 b2 HI HE
   generalize Sc.inLine b = il at *
   go_enter Tryz.func51,Tryz.ntmps51
   go_wp2_with fail
   refine HO.out.mono ?_
   rintro e w1 ⟨rfl,rfl⟩
   go_wp2_with fail
   refine HG1.out.mono ?_
   rintro e w2 ⟨rfl,g2⟩
   have c2 := cell_below' c0 g2
   have HT2 := hid1 (HT.out w2 g2)
   have HG3 := hid1 (HG2.out w2 g2)
   clear HG1 HO HG2 HT
   go_wp2_with fail
   refine HT2.out.mono ?_
   rintro e w3 ⟨rfl,rfl⟩
   go_wp2_with fail
   refine HG3.out.mono ?_
   rintro e w4 ⟨rfl,g4⟩
   have G4 := below_then g2 g4
   have HI2 := hid1 (HI1.out w4 G4)
   clear HG3 HT2 HI1
   go_wp2_with fail
   refine HI2.out.mono ?_
   rintro e w5 ⟨rfl,g5⟩
   have HD2 := hid1 (HD.out w5 (below_then G4 g5) (il,0) il _ (.fine il))
   clear HI2 HD
   go_wp2
   go_ret2
   exact HD2.out
  | none =>
   rw [hf] at HG2
   simp only [Option.getD_none,Option.isSome_none] at HG2 ⊢
   clear ho hf b1 b2 HI
   go_enter Tryz.func51,Tryz.ntmps51
   go_wp2_with fail
   refine HO.out.mono ?_
   rintro e w1 ⟨rfl,rfl⟩
   go_wp2_with fail
   refine HG1.out.mono ?_
   rintro e w2 ⟨rfl,g2⟩
   have c2 := cell_below' c0 g2
   have HT2 := hid1 (HT.out w2 g2)
   have HG3 := hid1 (HG2.out w2 g2)
   clear HG1 HO HG2 HT
   go_wp2_with fail
   refine HT2.out.mono ?_
   rintro e w3 ⟨rfl,rfl⟩
   go_wp2_with fail
   refine HG3.out.mono ?_
   rintro e w4 ⟨rfl,g4⟩
   have G4 := below_then g2 g4
   have hn4 := cell_below' hn G4
   have HD2 := hid1 (HD.out _ G4.drew ([],6) [] _ (HE.out _))
   clear HG3 HT2 HD HE
   go_wp2
   go_region
   go_wp2
   go_ret2
   exact HD2.out
end Go.Proofs.YtdljhggillgpfaaGreatDoor
namespace Go.Proofs.YtdljhggillgpfaaGreatDoor
open Go.RowKit Go.Shelf Go.Lib
variable {es : Nat → Addr} {At : (Nat → Prop) → World → Value → Nat → Cf.Ens → Prop} {BAt : (Nat → Prop) → World → Value → Value → Bf.Bd → Prop}
theorem Bf.winB_code {f : List UInt8 → List UInt8 × Nat} (h : ∀ x,(f x).2 ≤ 12) : ∀ (l : List (List UInt8)),(Bf.winB f l).2 ≤ 12
 | [] => by simp [Bf.winB]
 | x :: r => by
  have h1 := h x
  have h2 := Bf.winB_code h r
  unfold Bf.winB
  repeat' split
  all_goals first | omega | exact h1 | exact h2
theorem Bf.wantF_code {fs : Tf.Fs} {l : List Ru} : ∀ n x,(Bf.wantF Af.actO fs l n x).2 ≤ 12
 | 0,_ => by simp [Bf.wantF]
 | n + 1,x => by
  unfold Bf.wantF
  split
  ·unfold Bf.wrule
   split
   ·exact (actFit _ _ _).1
   ·exact Bf.winB_code (Bf.wantF_code n) _
  ·split <;> simp
theorem wantS_len {fs : Tf.Fs} {l : List Ru} (hf : Tf.Well pathB fs) (out : List UInt8) : (Bf.want Af.actO fs l out).1.length ≤ 2000 ∧ (Bf.want Af.actO fs l out).2 ≤ 12 :=
 ⟨Bf.want_len (well_bytes hf) out _,Bf.wantF_code _ out⟩
theorem spwant_calls (HC : Caches0 es At) {B : Nat} {W : World} {pb yb : Nat} {L : YL} {y : Bf.Yd} {sv : Value} {RS : Nat → Prop} (h : ScAt At B W pb yb L y sv RS) {m : Int} (hB : ScB B W es m) (p : List UInt8) (hp : p.length ≤ 1000) :
  Calls Tryz.prog 52 #[Ptr pb,.string (ba p)] W (Does es At B W pb yb L RS y (Sc.wantA y p)) := by
 have c0 := h.c0
 have c1 := h.c1
 have HT := hid1 fun (V : World) (g : Below W.heap.size W V) => yTree_calls (h.yard.below HC g)
 have HW := hid1 fun (V : World) (g : Below W.heap.size W V) => wOf_calls (hB.trans (g.mono h.bw)).y.want (h.yard.t.below g) (well_bytes h.ok.fs) sv y.l (h.rrow.below g) (by have := h.ok.l.len;omega) h.ok.l.small p hp
 have HD := hid1 fun (w' : World) (g : Below W.heap.size W w') (a : Sc.An) (t : List UInt8) (ev : Value) (hv : CmdV w' es a t ev) => Does.same HC h g hv
 have HI := hid1 fun (s : List UInt8) (hs : s.length ≤ 2000) (V : World) (g : Below W.heap.size W V) => inLine_calls s (by omega) m V (hB.trans (g.mono h.bw)).max
 -- what Of tells,as a command's answer
 have HX : Hid (∀ (w' : World) (s : List UInt8) (ev : Value),OfTells es y.fs y.l p w' s ev → (ev = .nilIface ∧ s.length ≤ 2000 ∧ Sc.wantA y p = (Sc.inLine s,0)) ∨ ((∃ t u,ev = .iface t u) ∧ CmdV w' es (Sc.wantA y p) [] ev)) := hid1 fun w' s ev ht => by
  have hfine := h.ok.l.fine
  unfold Sc.wantA
  rcases ht with ⟨hf,_⟩ | ⟨_,hno,rfl,rfl⟩ | ⟨_,hex,hno,_⟩ | ⟨_,hex,_,rfl,rfl⟩
  ·exact absurd hfine hf
  ·rw [if_neg (by simpa using hno)]
   exact .inr ⟨⟨_,_,rfl⟩,CmdV.err (c := 5) (by omega) []⟩
  ·have := h.ok.l.part [p]
   rw [hno] at this
   cases this
  ·have hl := wantS_len (l := y.l) h.ok.fs p
   rw [if_pos (by simpa using hex)]
   generalize Bf.want Af.actO y.fs y.l p = r at *
   obtain ⟨s,c⟩ := r
   cases c with
   | zero => exact .inl ⟨rfl,hl.1,rfl⟩
   | succ c => exact .inr ⟨⟨_,_,rfl⟩,CmdV.err (by have := hl.2;simp at this;omega) []⟩
 obtain ⟨ps,cs,rfl,-⟩ := h.rrow
 clear h hB HC
 generalize Sc.wantA y p = a at *
 go_enter Tryz.func52,Tryz.ntmps52
 go_wp2
 go_region_held3 (fun w' => w'.cell? ⟨pb,0,none⟩ = some (Ptr yb) ∧ w'.cell? ⟨pb,1,none⟩ = some (.slice ps y.l.length cs)) (first | go_keep | fail)
  (first
   | (go_at_call 79;refine (HW.out _ (by exact (Below.refl _ W).drew)).mono ?_;rintro e w2 ⟨s,ev,rfl,g2',ht⟩;have g2 := below_then (Below.refl W.heap.size W).drew g2';have f1 := cell_below' c0 g2;have f2 := cell_below' c1 g2)
   | (go_at_call 58;refine (HT.out _ (by exact (Below.refl _ W).drew)).mono ?_;rintro e w1 ⟨rfl,rfl⟩)
   | fail)
 all_goals
  have hx := HX.out _ _ _ ht
  clear HX ht HW HT
  rcases hx with ⟨rfl,hs,ea⟩ | ⟨⟨tt,uu,rfl⟩,hv⟩
  ·have HI2 := hid1 (HI.out s hs w2 g2)
   subst ea
   generalize Sc.inLine s = il at *
   clear HI
   go_wp2_with fail
   refine HI2.out.mono ?_
   rintro e w3 ⟨rfl,g3⟩
   have HD2 := hid1 (HD.out w3 (below_then g2 g3) (il,0) il _ (.fine il))
   clear HI2 HD
   go_wp2
   go_ret2
   exact HD2.out
  ·have HD2 := hid1 (HD.out w2 g2 a [] _ hv)
   clear HI HD hv
   go_wp2
   go_ret2
   exact HD2.out
end Go.Proofs.YtdljhggillgpfaaGreatDoor
namespace Go.Proofs.YtdljhggillgpfaaGreatDoor
open Go.RowKit Go.Shelf Go.Lib
variable {es : Nat → Addr} {At : (Nat → Prop) → World → Value → Nat → Cf.Ens → Prop} {BAt : (Nat → Prop) → World → Value → Value → Bf.Bd → Prop}
theorem HRow.cap {B : Nat} {w : World} {v : Value} {l : List (List UInt8)} (h : HRow B w v l) : CapRow v := by
 rcases h with ⟨_,rfl⟩ | ⟨g,cap,rfl,_,_,h,_⟩
 ·exact fun p n c e => by cases e
 ·exact fun p n c e => by cases e;exact h
theorem spleaves_calls {B : Nat} {W : World} {pb yb : Nat} {L : YL} {y : Bf.Yd} {sv : Value} {RS : Nat → Prop} (h : ScAt At B W pb yb L y sv RS) {m : Int} (hB : ScB B W es m) :
  Calls Tryz.prog 57 #[Ptr pb] W fun e w' => ∃ u,e = .returned u ∧ IRow w' u (Sc.leavesL y.l) ∧ CapRow u ∧ Below W.heap.size W w' := by
 have c1 := h.c1
 have HG := hid1 (gLeaves_cap hB.y.want.g.s sv y.l h.rrow (by have := h.ok.l.len;omega) h.ok.l.small)
 have HX : Hid (∀ (w' : World) (u ev : Value),LeavesTells es y.l w' u ev → IRow w' u (Sc.leavesL y.l)) := hid1 fun w' u ev ht => by
  rcases ht with ⟨hf,_⟩ | ⟨_,_,r,hr,hi⟩
  ·exact absurd h.ok.l.fine hf
  ·rw [← Sc.leaves_eq hr]
   exact hi
 obtain ⟨ps,cs,rfl,-⟩ := h.rrow
 clear h hB
 go_enter Tryz.func57,Tryz.ntmps57
 go_wp2_with fail
 refine HG.out.mono ?_
 rintro e w1 ⟨u,ev,rfl,g1,ht,-,hk⟩
 have HR := hid1 (HX.out _ _ _ ht)
 have HK := hid1 hk
 clear HX HG ht hk
 go_wp2
 go_ret
 exact ⟨_,rfl,HR.out,HK.out,g1⟩
theorem sporder_calls {B : Nat} {W : World} {pb yb : Nat} {L : YL} {y : Bf.Yd} {sv' : Value} {RS : Nat → Prop} (h : ScAt At B W pb yb L y sv' RS) {m : Int} (hB : ScB B W es m) :
  Calls Tryz.prog 56 #[Ptr pb] W fun e w' => ∃ u,e = .returned u ∧ IRow w' u (Sc.orderL y.l) ∧ CapRow u ∧ Below W.heap.size W w' := by
 have c1 := h.c1
 have HG := hid1 (gOrder_calls hB.y.want.g sv' y.l h.rrow (by have := h.ok.l.len;omega) h.ok.l.small)
 have h40 := h.ok.l.len
 have HX : Hid (∀ (w' : World) (u ev : Value),OrderTells es y.l w' u ev → ∃ o,Ru.order y.l allB1 = some o ∧ NIRow w' u o) := hid1 fun w' u ev ht => by
  rcases ht with ⟨hf,_⟩ | ⟨_,hn,_⟩ | ⟨_,o,ho,_,hi⟩
  ·exact absurd h.ok.l.fine hf
  ·have := h.ok.l.some
   rw [hn] at this
   cases this
  ·exact ⟨o,ho,hi⟩
 obtain ⟨ps,cs,rfl,hcap,-,hin⟩ := h.rrow
 have HI := hid1 hin
 obtain ⟨i0,hi,hz0,hz1,hz2⟩ := info_parts Tryz.infoStr
 clear h hB hin
 generalize y.l = l at *
 go_enter Tryz.func56,Tryz.ntmps56
 go_wp2_with fail
 refine HG.out.mono ?_
 rintro e w1 ⟨u,ev,rfl,g1,ht⟩
 obtain ⟨o,ho,hN⟩ := HX.out _ _ _ ht
 have HQ : Hid (Sc.orderL l = o.map fun i => (l.getD i ⟨[],[],[],[]⟩).out) := hid1 (by unfold Sc.orderL;rw [ho];rfl)
 obtain ⟨hnd,hlt0⟩ := Ru.order_nodup ho
 have HOk := hid1 hlt0
 have hol : o.length ≤ 40 := Nat.le_trans (Cf.nodup_len (b := List.range l.length) hnd fun x hx => List.mem_range.2 (hlt0 x hx)) (by simpa using h40)
 have hc1 := cell_below' c1 g1
 clear HX HG ht ho c1 hnd hlt0
 obtain ⟨po,co,rfl,hio⟩ := hN
 have HN := hid1 hio
 clear hio
 go_wp2
 go_loopw [5,18] (fun ov iv wr => ∃ j : Nat,j ≤ o.length ∧ iv = .int .i64 j ∧ wr.ownsRow w1.heap.size 9 1 ov j (((o.take j).map fun i => (l.getD i ⟨[],[],[],[]⟩).out).map sv) ∧ Below w1.heap.size w1 wr) (fun _ iv _ => o.length - (intOf iv).toNat)
 case atStart => exact ⟨0,Nat.zero_le _,rfl,World.ownsRow_nil _ _ _ _,Below.refl _ _⟩
 case round =>
  obtain ⟨j,hj,rfl,hO,B⟩ := hrel
  have HO := hid1 hO
  have j0 : (0 : Int) ≤ (j : Int) := by omega
  by_cases hlt : j < o.length
  ·have j1 : (j : Int) < (o.length : Int) := by omega
   obtain ⟨gi,oi,rfl,hgi,hci⟩ := HN.out (by intro e;rw [e] at hlt;simp at hlt)
   have di : wr.cell? ⟨gi,oi + j,none⟩ = some (nv o[j]) := (B.cell (p := ⟨gi,oi + j,none⟩) hgi).trans (hci j hlt)
   have hx : o[j] < l.length := HOk.out _ (List.getElem_mem hlt)
   obtain ⟨g,ol,rfl,hg,hc⟩ := HI.out (by intro e;rw [e] at hx;simp at hx)
   have d0 := cell_below' (cell_below' (hc o[j] hx).1 g1) B
   have d1 := cell_below' hc1 B
   have HS : Hid (((o.take (j + 1)).map fun i => (l.getD i ⟨[],[],[],[]⟩).out).map sv = ((o.take j).map fun i => (l.getD i ⟨[],[],[],[]⟩).out).map sv ++ [sv l[o[j]].out]) := hid1 (by
    rw [List.take_succ_eq_append_getElem hlt,List.map_append,List.map_append]
    simp [List.getD_eq_getElem?_getD,hx])
   have hbz := B.size
   have hml : j + 1 ≤ maxLen := by unfold maxLen;omega
   have hrow := HO.out
   have x0 : (0 : Int) ≤ (o[j] : Int) := by omega
   have x1 : (o[j] : Int) < (l.length : Int) := by omega
   unfold nv at di
   clear hc hci HI HN hO
   generalize hs : l[o[j]].out = s at *
   generalize hk : o[j] = k at *
   go_wp2_with (at_builtin;refine wpList_append_own _ rfl _ _ 22 rfl w1.heap.size 9 i0 (.string ⟨#[]⟩) 1 16 Tryz.underlying22 hi hz0 hz1 hz2 rfl (by decide) _ _ _ rfl (hrow.alloc _) ⟨wr.heap.size,0,none⟩ 1 1 [.string (ba s)] rfl rfl (cell_one_new _ _ _) (by simp [Value.oneCell']) hml (by omega) (by simp;omega) ?_;intro v' w4 hown' hgrow _)
   exact ⟨⟨j + 1,by omega,by go_num,by rw [HS.out];exact hown',below_appended B hbz hrow hgrow⟩,by simp [intOf];omega⟩
  ·have j1 : (o.length : Int) ≤ (j : Int) := by omega
   obtain rfl : j = o.length := by omega
   have hO := HO.out
   rw [List.take_length] at hO
   have HF := hid1 (HRow.of_owns (l := o.map fun i => (l.getD i ⟨[],[],[],[]⟩).out) (by rw [List.length_map];exact hO))
   clear hO HO
   go_wp2
   go_ret
   exact ⟨_,rfl,HQ.out ▸ HF.out.ir,HF.out.cap,below_then g1 B⟩
end Go.Proofs.YtdljhggillgpfaaGreatDoor
