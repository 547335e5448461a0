import Derived.Test.YtdljhggillgpfaaGreatDoorSR42
set_option maxRecDepth 100000
set_option maxHeartbeats 16000000
namespace Go.Proofs.YtdljhggillgpfaaGreatDoor
open Go.RowKit Go.Shelf Go.Lib
variable {es : Nat → Addr} {At : (Nat → Prop) → World → Value → Nat → Cf.Ens → Prop} {BAt : (Nat → Prop) → World → Value → Value → Bf.Bd → Prop}
theorem Bf.winB_code {f : List UInt8 → List UInt8 × Nat} (h : ∀ x,(f x).2 ≤ 12) : ∀ (l : List (List UInt8)),(Bf.winB f l).2 ≤ 12
 | [] => by simp [Bf.winB]
 | x :: r => by
  have h1 := h x
  have h2 := Bf.winB_code h r
  unfold Bf.winB
  repeat' split
  all_goals first | omega | exact h1 | exact h2
theorem Bf.wantF_code {fs : Tf.Fs} {l : List Ru} : ∀ n x,(Bf.wantF Af.actO fs l n x).2 ≤ 12
 | 0,_ => by simp [Bf.wantF]
 | n + 1,x => by
  unfold Bf.wantF
  split
  ·unfold Bf.wrule
   split
   ·exact (actFit _ _ _).1
   ·exact Bf.winB_code (Bf.wantF_code n) _
  ·split <;> simp
theorem wantS_len {fs : Tf.Fs} {l : List Ru} (hf : Tf.Well pathB fs) (out : List UInt8) : (Bf.want Af.actO fs l out).1.length ≤ 2000 ∧ (Bf.want Af.actO fs l out).2 ≤ 12 :=
 ⟨Bf.want_len (well_bytes hf) out _,Bf.wantF_code _ out⟩
theorem spwant_calls (HC : Caches0 es At) {B : Nat} {W : World} {pb yb : Nat} {L : YL} {y : Bf.Yd} {sv : Value} {RS : Nat → Prop} (h : ScAt At B W pb yb L y sv RS) {m : Int} (hB : ScB B W es m) (p : List UInt8) (hp : p.length ≤ 1000) :
  Calls Tryz.prog 52 #[Ptr pb,.string (ba p)] W (Does es At B W pb yb L RS y (Sc.wantA y p)) := by
 have c0 := h.c0
 have c1 := h.c1
 have HT := hid1 fun (V : World) (g : Below W.heap.size W V) => yTree_calls (h.yard.below HC g)
 have HW := hid1 fun (V : World) (g : Below W.heap.size W V) => wOf_calls (hB.trans (g.mono h.bw)).y.want (h.yard.t.below g) (well_bytes h.ok.fs) sv y.l (h.rrow.below g) (by have := h.ok.l.len;omega) h.ok.l.small p hp
 have HD := hid1 fun (w' : World) (g : Below W.heap.size W w') (a : Sc.An) (t : List UInt8) (ev : Value) (hv : CmdV w' es a t ev) => Does.same HC h g hv
 have HI := hid1 fun (s : List UInt8) (hs : s.length ≤ 2000) (V : World) (g : Below W.heap.size W V) => inLine_calls s (by omega) m V (hB.trans (g.mono h.bw)).max
 -- what Of tells,as a command's answer
 have HX : Hid (∀ (w' : World) (s : List UInt8) (ev : Value),OfTells es y.fs y.l p w' s ev → (ev = .nilIface ∧ s.length ≤ 2000 ∧ Sc.wantA y p = (Sc.inLine s,0)) ∨ ((∃ t u,ev = .iface t u) ∧ CmdV w' es (Sc.wantA y p) [] ev)) := hid1 fun w' s ev ht => by
  have hfine := h.ok.l.fine
  unfold Sc.wantA
  rcases ht with ⟨hf,_⟩ | ⟨_,hno,rfl,rfl⟩ | ⟨_,hex,hno,_⟩ | ⟨_,hex,_,rfl,rfl⟩
  ·exact absurd hfine hf
  ·rw [if_neg (by simpa using hno)]
   exact .inr ⟨⟨_,_,rfl⟩,CmdV.err (c := 5) (by omega) []⟩
  ·have := h.ok.l.part [p]
   rw [hno] at this
   cases this
  ·have hl := wantS_len (l := y.l) h.ok.fs p
   rw [if_pos (by simpa using hex)]
   generalize Bf.want Af.actO y.fs y.l p = r at *
   obtain ⟨s,c⟩ := r
   cases c with
   | zero => exact .inl ⟨rfl,hl.1,rfl⟩
   | succ c => exact .inr ⟨⟨_,_,rfl⟩,CmdV.err (by have := hl.2;simp at this;omega) []⟩
 obtain ⟨ps,cs,rfl,-⟩ := h.rrow
 clear h hB HC
 generalize Sc.wantA y p = a at *
 go_enter Tryz.func52,Tryz.ntmps52
 go_wp2
 go_region_held3 (fun w' => w'.cell? ⟨pb,0,none⟩ = some (Ptr yb) ∧ w'.cell? ⟨pb,1,none⟩ = some (.slice ps y.l.length cs)) (first | go_keep | fail)
  (first
   | (go_at_call 79;refine (HW.out _ (by exact (Below.refl _ W).drew)).mono ?_;rintro e w2 ⟨s,ev,rfl,g2',ht⟩;have g2 := below_then (Below.refl W.heap.size W).drew g2';have f1 := cell_below' c0 g2;have f2 := cell_below' c1 g2)
   | (go_at_call 58;refine (HT.out _ (by exact (Below.refl _ W).drew)).mono ?_;rintro e w1 ⟨rfl,rfl⟩)
   | fail)
 all_goals
  have hx := HX.out _ _ _ ht
  clear HX ht HW HT
  rcases hx with ⟨rfl,hs,ea⟩ | ⟨⟨tt,uu,rfl⟩,hv⟩
  ·have HI2 := hid1 (HI.out s hs w2 g2)
   subst ea
   generalize Sc.inLine s = il at *
   clear HI
   go_wp2_with fail
   refine HI2.out.mono ?_
   rintro e w3 ⟨rfl,g3⟩
   have HD2 := hid1 (HD.out w3 (below_then g2 g3) (il,0) il _ (.fine il))
   clear HI2 HD
   go_wp2
   go_ret2
   exact HD2.out
  ·have HD2 := hid1 (HD.out w2 g2 a [] _ hv)
   clear HI HD hv
   go_wp2
   go_ret2
   exact HD2.out
end Go.Proofs.YtdljhggillgpfaaGreatDoor
namespace Go.Proofs.YtdljhggillgpfaaGreatDoor
open Go.RowKit Go.Shelf Go.Lib
variable {es : Nat → Addr} {At : (Nat → Prop) → World → Value → Nat → Cf.Ens → Prop} {BAt : (Nat → Prop) → World → Value → Value → Bf.Bd → Prop}
theorem HRow.cap {B : Nat} {w : World} {v : Value} {l : List (List UInt8)} (h : HRow B w v l) : CapRow v := by
 rcases h with ⟨_,rfl⟩ | ⟨g,cap,rfl,_,_,h,_⟩
 ·exact fun p n c e => by cases e
 ·exact fun p n c e => by cases e;exact h
theorem spleaves_calls {B : Nat} {W : World} {pb yb : Nat} {L : YL} {y : Bf.Yd} {sv : Value} {RS : Nat → Prop} (h : ScAt At B W pb yb L y sv RS) {m : Int} (hB : ScB B W es m) :
  Calls Tryz.prog 57 #[Ptr pb] W fun e w' => ∃ u,e = .returned u ∧ IRow w' u (Sc.leavesL y.l) ∧ CapRow u ∧ Below W.heap.size W w' := by
 have c1 := h.c1
 have HG := hid1 (gLeaves_cap hB.y.want.g.s sv y.l h.rrow (by have := h.ok.l.len;omega) h.ok.l.small)
 have HX : Hid (∀ (w' : World) (u ev : Value),LeavesTells es y.l w' u ev → IRow w' u (Sc.leavesL y.l)) := hid1 fun w' u ev ht => by
  rcases ht with ⟨hf,_⟩ | ⟨_,_,r,hr,hi⟩
  ·exact absurd h.ok.l.fine hf
  ·rw [← Sc.leaves_eq hr]
   exact hi
 obtain ⟨ps,cs,rfl,-⟩ := h.rrow
 clear h hB
 go_enter Tryz.func57,Tryz.ntmps57
 go_wp2_with fail
 refine HG.out.mono ?_
 rintro e w1 ⟨u,ev,rfl,g1,ht,-,hk⟩
 have HR := hid1 (HX.out _ _ _ ht)
 have HK := hid1 hk
 clear HX HG ht hk
 go_wp2
 go_ret
 exact ⟨_,rfl,HR.out,HK.out,g1⟩
theorem sporder_calls {B : Nat} {W : World} {pb yb : Nat} {L : YL} {y : Bf.Yd} {sv' : Value} {RS : Nat → Prop} (h : ScAt At B W pb yb L y sv' RS) {m : Int} (hB : ScB B W es m) :
  Calls Tryz.prog 56 #[Ptr pb] W fun e w' => ∃ u,e = .returned u ∧ IRow w' u (Sc.orderL y.l) ∧ CapRow u ∧ Below W.heap.size W w' := by
 have c1 := h.c1
 have HG := hid1 (gOrder_calls hB.y.want.g sv' y.l h.rrow (by have := h.ok.l.len;omega) h.ok.l.small)
 have h40 := h.ok.l.len
 have HX : Hid (∀ (w' : World) (u ev : Value),OrderTells es y.l w' u ev → ∃ o,Ru.order y.l allB1 = some o ∧ NIRow w' u o) := hid1 fun w' u ev ht => by
  rcases ht with ⟨hf,_⟩ | ⟨_,hn,_⟩ | ⟨_,o,ho,_,hi⟩
  ·exact absurd h.ok.l.fine hf
  ·have := h.ok.l.some
   rw [hn] at this
   cases this
  ·exact ⟨o,ho,hi⟩
 obtain ⟨ps,cs,rfl,hcap,-,hin⟩ := h.rrow
 have HI := hid1 hin
 obtain ⟨i0,hi,hz0,hz1,hz2⟩ := info_parts Tryz.infoStr
 clear h hB hin
 generalize y.l = l at *
 go_enter Tryz.func56,Tryz.ntmps56
 go_wp2_with fail
 refine HG.out.mono ?_
 rintro e w1 ⟨u,ev,rfl,g1,ht⟩
 obtain ⟨o,ho,hN⟩ := HX.out _ _ _ ht
 have HQ : Hid (Sc.orderL l = o.map fun i => (l.getD i ⟨[],[],[],[]⟩).out) := hid1 (by unfold Sc.orderL;rw [ho];rfl)
 obtain ⟨hnd,hlt0⟩ := Ru.order_nodup ho
 have HOk := hid1 hlt0
 have hol : o.length ≤ 40 := Nat.le_trans (Cf.nodup_len (b := List.range l.length) hnd fun x hx => List.mem_range.2 (hlt0 x hx)) (by simpa using h40)
 have hc1 := cell_below' c1 g1
 clear HX HG ht ho c1 hnd hlt0
 obtain ⟨po,co,rfl,hio⟩ := hN
 have HN := hid1 hio
 clear hio
 go_wp2
 go_loopw [5,18] (fun ov iv wr => ∃ j : Nat,j ≤ o.length ∧ iv = .int .i64 j ∧ wr.ownsRow w1.heap.size 9 1 ov j (((o.take j).map fun i => (l.getD i ⟨[],[],[],[]⟩).out).map sv) ∧ Below w1.heap.size w1 wr) (fun _ iv _ => o.length - (intOf iv).toNat)
 case atStart => exact ⟨0,Nat.zero_le _,rfl,World.ownsRow_nil _ _ _ _,Below.refl _ _⟩
 case round =>
  obtain ⟨j,hj,rfl,hO,B⟩ := hrel
  have HO := hid1 hO
  have j0 : (0 : Int) ≤ (j : Int) := by omega
  by_cases hlt : j < o.length
  ·have j1 : (j : Int) < (o.length : Int) := by omega
   obtain ⟨gi,oi,rfl,hgi,hci⟩ := HN.out (by intro e;rw [e] at hlt;simp at hlt)
   have di : wr.cell? ⟨gi,oi + j,none⟩ = some (nv o[j]) := (B.cell (p := ⟨gi,oi + j,none⟩) hgi).trans (hci j hlt)
   have hx : o[j] < l.length := HOk.out _ (List.getElem_mem hlt)
   obtain ⟨g,ol,rfl,hg,hc⟩ := HI.out (by intro e;rw [e] at hx;simp at hx)
   have d0 := cell_below' (cell_below' (hc o[j] hx).1 g1) B
   have d1 := cell_below' hc1 B
   have HS : Hid (((o.take (j + 1)).map fun i => (l.getD i ⟨[],[],[],[]⟩).out).map sv = ((o.take j).map fun i => (l.getD i ⟨[],[],[],[]⟩).out).map sv ++ [sv l[o[j]].out]) := hid1 (by
    rw [List.take_succ_eq_append_getElem hlt,List.map_append,List.map_append]
    simp [List.getD_eq_getElem?_getD,hx])
   have hbz := B.size
   have hml : j + 1 ≤ maxLen := by unfold maxLen;omega
   have hrow := HO.out
   have x0 : (0 : Int) ≤ (o[j] : Int) := by omega
   have x1 : (o[j] : Int) < (l.length : Int) := by omega
   unfold nv at di
   clear hc hci HI HN hO
   generalize hs : l[o[j]].out = s at *
   generalize hk : o[j] = k at *
   go_wp2_with (at_builtin;refine wpList_append_own _ rfl _ _ 22 rfl w1.heap.size 9 i0 (.string ⟨#[]⟩) 1 16 Tryz.underlying22 hi hz0 hz1 hz2 rfl (by decide) _ _ _ rfl (hrow.alloc _) ⟨wr.heap.size,0,none⟩ 1 1 [.string (ba s)] rfl rfl (cell_one_new _ _ _) (by simp [Value.oneCell']) hml (by omega) (by simp;omega) ?_;intro v' w4 hown' hgrow _)
   exact ⟨⟨j + 1,by omega,by go_num,by rw [HS.out];exact hown',below_appended B hbz hrow hgrow⟩,by simp [intOf];omega⟩
  ·have j1 : (o.length : Int) ≤ (j : Int) := by omega
   obtain rfl : j = o.length := by omega
   have hO := HO.out
   rw [List.take_length] at hO
   have HF := hid1 (HRow.of_owns (l := o.map fun i => (l.getD i ⟨[],[],[],[]⟩).out) (by rw [List.length_map];exact hO))
   clear hO HO
   go_wp2
   go_ret
   exact ⟨_,rfl,HQ.out ▸ HF.out.ir,HF.out.cap,below_then g1 B⟩
end Go.Proofs.YtdljhggillgpfaaGreatDoor
namespace Go.Proofs.YtdljhggillgpfaaGreatDoor
open Go.RowKit Go.Shelf Go.Lib
namespace Sc
def cnt (a : Nat) (l : List Nat) (j : Nat) : List UInt8 := Lib.decDigits a ++ (l.take j).flatMap fun n => 32 :: Lib.decDigits n
theorem cnt_more {a : Nat} {l : List Nat} {j : Nat} (h : j < l.length) : cnt a l (j + 1) = cnt a l j ++ (32 :: Lib.decDigits l[j]) := by
 unfold cnt
 rw [List.take_succ_eq_append_getElem h,List.flatMap_append,← List.append_assoc]
 congr 1
 exact List.append_nil _
theorem cnt_len {a : Nat} {l : List Nat} (ha : a ≤ 1000000000) (hl : ∀ x ∈ l,x ≤ 1000000000) : ∀ j,j ≤ l.length → (cnt a l j).length ≤ 21 + j * 22
 | 0,_ => by have := digits_len2 a ha;simp [cnt];omega
 | j + 1,h => by
  have h1 := cnt_len ha hl j (by omega)
  have h2 := digits_len2 l[j] (hl _ (List.getElem_mem (by omega)))
  rw [cnt_more (by omega)]
  simp
  omega
end Sc
theorem countText_calls (a b c d : Nat) (ha : a ≤ 1000) (hb : b ≤ 1000) (hc : c ≤ 1000) (hd : d ≤ 1000) (W : World) (hP : Pow W) :
  Calls Tryz.prog 73 #[.agg #[.int .i64 a,.int .i64 b,.int .i64 c,.int .i64 d]] W fun e w' => e = .returned (.string (ba (Sc.cnt a [b,c,d] 3))) ∧ Below W.heap.size W w' := by
 have HI := hid1 fun (n : Nat) (hn : n ≤ 1000) (V : World) (hV : Below W.heap.size W V) => itoa_calls n (by omega) hP hV
 have gA : Below W.heap.size W (W.alloc (.cells #[.int .i64 a,.int .i64 b,.int .i64 c,.int .i64 d] 137)) := (Below.refl _ W).alloc (Nat.le_refl _) _
 have rA := row_newW W (.cells #[.int .i64 a,.int .i64 b,.int .i64 c,.int .i64 d] 137)
 have hl : ∀ x ∈ [b,c,d],x ≤ 1000 := by simp;omega
 have HL := hid1 (Sc.cnt_len (a := a) (l := [b,c,d]) (by omega) fun x hx => by have := hl x hx;omega)
 have H0 : Hid (Sc.cnt a [b,c,d] 0 = Lib.decDigits a) := hid1 (by simp [Sc.cnt])
 obtain ⟨out,HOut⟩ : ∃ o,Hid (o = Sc.cnt a [b,c,d] 3) := ⟨_,hid1 rfl⟩
 rw [← HOut.out]
 clear hP
 go_enter Tryz.func73,Tryz.ntmps73
 go_wp2_with fail
 refine (HI.out a ha _ gA).mono ?_
 rintro e w1 ⟨rfl,g1⟩
 have r1 := row_below rA g1
 have c1 := cell_of_row (j := 1) r1 rfl
 have c2 := cell_of_row (j := 2) r1 rfl
 have c3 := cell_of_row (j := 3) r1 rfl
 have G1 := below_then gA g1
 have g2 : Below w1.heap.size w1 (w1.alloc (.cells #[.int .i64 b,.int .i64 c,.int .i64 d] 3)) := (Below.refl _ w1).alloc (Nat.le_refl _) _
 have r2 := row_newW w1 (.cells #[.int .i64 b,.int .i64 c,.int .i64 d] 3)
 have HC : Hid (∀ j (hj : j < [b,c,d].length),(w1.alloc (.cells #[.int .i64 b,.int .i64 c,.int .i64 d] 3)).cell? ⟨w1.heap.size,j,none⟩ = some (.int .i64 (([b,c,d][j] : Nat) : Int))) := hid1 fun j hj => by
  match j,hj with
  | 0,_ => exact cell_of_row (j := 0) r2 rfl
  | 1,_ => exact cell_of_row (j := 1) r2 rfl
  | 2,_ => exact cell_of_row (j := 2) r2 rfl
 have hz2 : w1.heap.size < (w1.alloc (.cells #[.int .i64 b,.int .i64 c,.int .i64 d] 3)).heap.size := by simp
 clear rA r1 r2 gA g1
 go_wp2
 generalize (w1.alloc (.cells #[.int .i64 b,.int .i64 c,.int .i64 d] 3)) = w2 at *
 have hll : [b,c,d].length = 3 := rfl
 generalize [b,c,d] = l at *
 go_loopw [3,17] (fun tv iv wr => ∃ j : Nat,j ≤ 3 ∧ iv = .int .i64 j ∧ tv = .string (ba (Sc.cnt a l j)) ∧ Below w2.heap.size w2 wr) (fun _ iv _ => 3 - (intOf iv).toNat)
 case atStart => exact ⟨0,by omega,rfl,by rw [H0.out],Below.refl _ _⟩
 case round =>
  obtain ⟨j,hj,rfl,rfl,B⟩ := hrel
  have j0 : (0 : Int) ≤ (j : Int) := by omega
  by_cases hlt : j < 3
  ·have j1 : (j : Int) < 3 := by omega
   have hlt' : j < l.length := by omega
   have d0 := (B.cell (p := ⟨w1.heap.size,j,none⟩) hz2).trans (HC.out j hlt')
   have hx := hl _ (List.getElem_mem hlt')
   have HS := hid1 (Sc.cnt_more (a := a) hlt')
   have h1 := HL.out j (by omega)
   have h2 := digits_len2 l[j] (by omega)
   generalize l[j] = n at *
   have HN := hid1 (HI.out n hx wr (below_then G1 (g2.trans (B.mono (by omega)))))
   generalize Sc.cnt a l j = s at *
   generalize hD : Lib.decDigits n = D at *
   go_wp2_with fail
   refine HN.out.mono ?_
   rintro e w3 ⟨rfl,g3⟩
   have ecat : ba s ++ ({ data := #[32] } ++ ba D) = ba (Sc.cnt a l (j + 1)) := by
    rw [show (ByteArray.mk #[32]) = ba [32] from rfl,HS.out]
    simp only [ba_append]
    simp
   go_wp2
   exact ⟨⟨j + 1,by omega,by go_num,rfl,below_then B g3⟩,by simp [intOf];omega⟩
  ·have j1 : (3 : Int) ≤ (j : Int) := by omega
   obtain rfl : j = 3 := by omega
   have G := below_then G1 (g2.trans (B.mono (by omega)))
   go_wp2
   go_ret
   exact ⟨by rw [HOut.out];rfl,G⟩
end Go.Proofs.YtdljhggillgpfaaGreatDoor
namespace Go.Proofs.YtdljhggillgpfaaGreatDoor
open Go.RowKit Go.Shelf Go.Lib
variable {es : Nat → Addr} {At : (Nat → Prop) → World → Value → Nat → Cf.Ens → Prop} {BAt : (Nat → Prop) → World → Value → Value → Bf.Bd → Prop}
theorem ErrV.aside {w w' : World} {v : Value} {f : Nat × Int} {b : Nat} {z : Int} (h : ErrV w es v f) (hk : Kept (fun j => j = b) w w') (hb : w.cell? ⟨b,1,none⟩ = Option.some (.int .i64 z)) : ErrV w' es v f := by
 rcases h with h | ⟨pb,m,e,hm,h0,h1,h2⟩
 ·exact .inl h
 ·have hne : pb ≠ b := fun e => by
   subst e
   rw [hb,h0] at h2
   cases h2
  have hlt : pb < w.heap.size := lt_of_cell h1
  have he := hk.block pb hlt hne
  exact .inr ⟨pb,m,e,hm,h0,(World.cell?_of_block (a := ⟨pb,0,none⟩) he).trans h1,(World.cell?_of_block (a := ⟨pb,1,none⟩) he).trans h2⟩
theorem yMakeE_calls (HB : Builds es Af.actO At BAt) {B : Nat} {W : World} {yb : Nat} {L : YL} {y : Bf.Yd} (h : YdAt At B W yb L y) (hY : YBase B W es) (hok : y.Ok) (ov : Value) (outs : List (List UInt8)) (hov : XRow W ov outs) (hol : outs.length ≤ 1000) (hos : ∀ p ∈ outs,p.length ≤ 300) (hno : ¬ ∀ p ∈ outs,∃ x ∈ y.l,x.out = p) :
  Calls Tryz.prog 72 #[Ptr yb,ov] W fun e w' => ∃ ev k,e = .returned (.tuple #[.agg #[.int .i64 0,.int .i64 0,.int .i64 0,.int .i64 0],ev]) ∧ ErrV w' es ev (6,k) ∧ Below W.heap.size W w' := by
 have h40 := hok.l.len
 have hne : outs ≠ [] := fun e => hno (by rw [e];simp)
 have zo : (0 : Int) < (outs.length : Int) := by have := List.length_pos_iff.2 hne;omega
 have hBW : B ≤ W.heap.size := by have := h.low;have := h.lt;omega
 have gA : Below W.heap.size W (W.alloc (.cells #[.int .i64 0,.int .i64 0,.int .i64 0,.int .i64 0] 137)) := (Below.refl _ W).alloc (Nat.le_refl _) _
 have rA := row_newW W (.cells #[.int .i64 0,.int .i64 0,.int .i64 0,.int .i64 0] 137)
 have hsA : (W.alloc (.cells #[.int .i64 0,.int .i64 0,.int .i64 0,.int .i64 0] 137)).heap.size = W.heap.size + 1 := by simp
 have HNew := hid1 fun (V : World) (g : Below W.heap.size W V) => HB.new V B L.tb y.fs L.o1 L.lv y.l ov outs L.cv (hY.trans (g.mono hBW)).build.w (h.t.below g) hok.fs.rises (by have := hok.fs.few;omega) (fun f hf => ⟨by have := well_len hok.fs f hf;omega,(hok.fs.each f hf).2⟩) (h.rrow.below g) (by omega) hok.l.small (hov.below g) hol hos (by obtain ⟨p,e⟩ := h.cp;exact ⟨_,e⟩)
 have HNt : Hid (∀ (n : Nat) (w : World) (bv ev : Value),NewTells es BAt n y.fs y.l outs L.cv w bv ev → bv = .pointer none ∧ (∃ t u,ev = .iface t u) ∧ ∃ k,ErrV w es ev (6,k)) := hid1 fun n w bv ev hN => by
  have hall : ¬ ∀ j (hj : j < outs.length),∃ x ∈ y.l,x.out = outs[j] := fun hh => hno fun p hp => by
   obtain ⟨j,hj,rfl⟩ := List.getElem_of_mem hp
   exact hh j hj
  rcases hN with ⟨hb,⟨h1,_⟩ | ⟨_,k,hk,_,_,hE⟩ | ⟨_,h2,_,_⟩⟩ | ⟨_,h2,_⟩
  ·exact absurd hok.l.fine h1
  ·exact ⟨hb,hE.iface (by simp),_,hE⟩
  ·exact absurd h2 hall
  ·exact absurd h2 hall
 have q0 := cell_below' h.c0 gA
 have q2 := cell_below' h.c2 gA
 have q3 := cell_below' h.c3 gA
 obtain ⟨pc,ecv⟩ := h.cp
 obtain ⟨pl,cl,elv,-⟩ := h.rrow
 rw [elv,ecv] at HNew
 rw [ecv] at HNt q3
 rw [elv] at q2
 obtain ⟨po,co,rfl,-⟩ := hov
 clear h hY hok hno hos
 generalize hWa : W.alloc (.cells #[.int .i64 0,.int .i64 0,.int .i64 0,.int .i64 0] 137) = Wa at *
 go_enter Tryz.func72,Tryz.ntmps72
 go_wp2
 go_region_held3 (fun w' => w'.cell? ⟨yb,0,none⟩ = some (Ptr L.tb) ∧ w'.cell? ⟨yb,2,none⟩ = some (.slice pl y.l.length cl) ∧ w'.cell? ⟨yb,3,none⟩ = some (.pointer (some pc))) (first | go_keep | fail)
   (first
    | (go_at_call 108;refine (HNew.out _ (by exact gA.drew)).mono ?_;rintro e w2 ⟨bv,ev,rfl,g2,hN⟩;(have r0 := cell_below' (show Wa.drew.cell? _ = _ from q0) g2);(have r2 := cell_below' (show Wa.drew.cell? _ = _ from q2) g2);(have r3 := cell_below' (show Wa.drew.cell? _ = _ from q3) g2);(obtain ⟨rfl,⟨tt,uu,rfl⟩,hE⟩ := HNt.out _ _ _ _ hN))
    | fail)
 all_goals
  have g12 : Below Wa.heap.size Wa w2 := below_then (Below.refl Wa.heap.size Wa).drew g2
  have rr := row_below rA g12
  have u0 := cell_of_row (j := 0) rr rfl
  have u1 := cell_of_row (j := 1) rr rfl
  have u2 := cell_of_row (j := 2) rr rfl
  have u3 := cell_of_row (j := 3) rr rfl
  have f0 : w2.frozen? ⟨W.heap.size,0,none⟩ = false := by simp [World.frozen?,rr]
  have f1 : w2.frozen? ⟨W.heap.size,1,none⟩ = false := by simp [World.frozen?,rr]
  have f2 : w2.frozen? ⟨W.heap.size,2,none⟩ = false := by simp [World.frozen?,rr]
  have f3 : w2.frozen? ⟨W.heap.size,3,none⟩ = false := by simp [World.frozen?,rr]
  have qq := hid1 (four_cells u0 u1 u2 u3 (.int .i64 0) (.int .i64 0) (.int .i64 0) (.int .i64 0))
  have HE := hid1 hE
  have G2 := below_then gA g12
  clear HNew HNt hN hE
  go_wp2
  obtain ⟨k,hE⟩ := HE.out
  have b7 : Below W.heap.size W ((((w2.setCell ⟨W.heap.size,0,none⟩ (.int .i64 0)).setCell ⟨W.heap.size,1,none⟩ (.int .i64 0)).setCell ⟨W.heap.size,2,none⟩ (.int .i64 0)).setCell ⟨W.heap.size,3,none⟩ (.int .i64 0)) := (((G2.setCell (p := ⟨W.heap.size,0,none⟩) (Nat.le_refl _) _).setCell (p := ⟨W.heap.size,1,none⟩) (Nat.le_refl _) _).setCell (p := ⟨W.heap.size,2,none⟩) (Nat.le_refl _) _).setCell (p := ⟨W.heap.size,3,none⟩) (Nat.le_refl _) _
  have k8 : Kept (fun j => j = W.heap.size) w2 ((((w2.setCell ⟨W.heap.size,0,none⟩ (.int .i64 0)).setCell ⟨W.heap.size,1,none⟩ (.int .i64 0)).setCell ⟨W.heap.size,2,none⟩ (.int .i64 0)).setCell ⟨W.heap.size,3,none⟩ (.int .i64 0)) := ((((Kept.refl (fun j => j = W.heap.size) w2).setCell (p := ⟨W.heap.size,0,none⟩) rfl _).setCell (p := ⟨W.heap.size,1,none⟩) rfl _).setCell (p := ⟨W.heap.size,2,none⟩) rfl _).setCell (p := ⟨W.heap.size,3,none⟩) rfl _
  refine bodyPost_ret (v := .tuple #[.agg #[.int .i64 0,.int .i64 0,.int .i64 0,.int .i64 0],.iface tt uu]) ?_ rfl ⟨_,rfl,⟨k,hE.aside k8 u1⟩,b7⟩
  obtain ⟨t0,t1,t2,t3⟩ := qq.out
  simp [results,Tryz.f72,go_sem,t0,t1,t2,t3]
end Go.Proofs.YtdljhggillgpfaaGreatDoor
namespace Go.Proofs.YtdljhggillgpfaaGreatDoor
open Go.RowKit Go.Shelf Go.Lib
variable {es : Nat → Addr} {At : (Nat → Prop) → World → Value → Nat → Cf.Ens → Prop} {BAt : (Nat → Prop) → World → Value → Value → Bf.Bd → Prop}
theorem Bf.Yd.Ok.made {y : Bf.Yd} (h : y.Ok) (outs : List (List UInt8)) : (y.made outs).1.l = y.l ∧ Bf.CFit (y.made outs).2 := by
 have hF := Bf.allF_keeps actFit ((Bf.init y.fs y.l (Bf.whole y.l outs)).waits + 1) y.c (Bf.init y.fs y.l (Bf.whole y.l outs)) (Bf.init_fit fun f hf => (h.fs.each f hf).2) h.c
 exact ⟨hF.1,hF.2.2.2⟩
theorem Bf.Yd.Ok.makeP {y : Bf.Yd} (h : y.Ok) (outs : List (List UInt8)) : (y.makeP outs).Ok := ⟨h.fs,Bf.outP_well h.os,h.l,(h.made outs).2⟩
theorem Sc.counts_cnt (d : Bf.Bd) : Sc.counts d = Sc.cnt d.ran [d.hits,d.fails,d.lefts] 3 := by
 unfold Sc.counts Sc.cnt
 simp
theorem Does.errV {B : Nat} {W w' : World} {pb yb : Nat} {L : YL} {y : Bf.Yd} {sv : Value} {RS : Nat → Prop} (HC : Caches0 es At) (h : ScAt At B W pb yb L y sv RS) (hb : Below W.heap.size W w') {ev : Value} {c : Nat} {p : Int} (hE : ErrV w' es ev (c,p)) (hc : c ≠ 0) (t : List UInt8) :
  Does es At B W pb yb L RS y ([],c) (.returned (.tuple #[.string (ba t),ev])) w' := Does.same HC h hb ⟨⟨p,hE⟩,fun e => absurd e hc⟩
theorem spmakeOf_calls (HC : Caches0 es At) (HB : Builds es Af.actO At BAt) {B : Nat} {W : World} {pb yb : Nat} {L : YL} {y : Bf.Yd} {sv : Value} {RS : Nat → Prop} (h : ScAt At B W pb yb L y sv RS) {m : Int} (hB : ScB B W es m) (ov : Value) (outs : List (List UInt8)) (hov : XRow W ov outs) (hol : outs.length ≤ 1000) (hos : ∀ p ∈ outs,p.length ≤ 300) :
  Calls Tryz.prog 48 #[Ptr pb,ov] W (Does es At B W pb yb L RS (Sc.makeY y outs) (Sc.makeA y outs)) := by
 have c0 := h.c0
 have hBW := h.bw
 unfold Sc.makeY Sc.makeA
 by_cases ha : Sc.allOuts y.l outs = true
 ·rw [if_pos ha,if_pos ha]
  have HM := hid1 (yMake_calls HC HB h.yard hB.y h.ok ov outs hov hol (Sc.allOuts_iff.1 ha))
  have HY := hid1 h
  have HCs := hid1 HC
  have hP := hid1 hB
  have hm := h.ok.made outs
  have h40 := h.ok.l.len
  have e1 : (y.made outs).1.ran ≤ 1000 := by unfold Bf.Bd.ran;have := Bf.many_le (y.made outs).1.st (fun s => s.isDone && !s.hit) (y.made outs).1.l.length;rw [hm.1] at *;omega
  have e2 : (y.made outs).1.hits ≤ 1000 := by unfold Bf.Bd.hits;have := Bf.many_le (y.made outs).1.st (fun s => s.isDone && s.hit) (y.made outs).1.l.length;rw [hm.1] at *;omega
  have e3 : (y.made outs).1.fails ≤ 1000 := by unfold Bf.Bd.fails;have := Bf.many_le (y.made outs).1.st Bf.St.isFailed (y.made outs).1.l.length;rw [hm.1] at *;omega
  have e4 : (y.made outs).1.lefts ≤ 1000 := by unfold Bf.Bd.lefts;have := Bf.many_le (y.made outs).1.st Bf.St.isLeft (y.made outs).1.l.length;rw [hm.1] at *;omega
  have HQ := hid1 (Sc.counts_cnt (y.made outs).1)
  have HOk := hid1 (h.ok.makeP outs)
  have HL : Hid ((y.makeP outs).l = y.l) := hid1 rfl
  have HCt := hid1 fun (V : World) (hV : KPow V) => countText_calls (y.made outs).1.ran (y.made outs).1.hits (y.made outs).1.fails (y.made outs).1.lefts e1 e2 e3 e4 V hV
  rw [← HQ.out] at HCt
  obtain ⟨p,c,rfl,-⟩ := hov
  clear h hB HC HB hm h40 e1 e2 e3 e4 HQ ha hos hol
  generalize y.makeP outs = y' at *
  generalize Sc.counts (y.made outs).1 = ct at *
  unfold countV at HM
  generalize ((y.made outs).1.ran : Nat) = d1 at *
  generalize ((y.made outs).1.hits : Nat) = d2 at *
  generalize ((y.made outs).1.fails : Nat) = d3 at *
  generalize ((y.made outs).1.lefts : Nat) = d4 at *
  go_enter Tryz.func48,Tryz.ntmps48
  go_wp2_with fail
  refine HM.out.mono ?_
  rintro e w1 ⟨rfl,g1,hr,L1,-,-,hk,hy1⟩
  have hz : W.heap.size ≤ w1.heap.size := g1.size
  have hS := HY.out.yard.made2 hz hr hk
  obtain ⟨L2,h2,hs2⟩ := HY.out.go HCs.out hS hy1 HL.out HOk.out
  have gA : Below w1.heap.size w1 (w1.alloc (.cells #[.int .i64 (d1 : Nat),.int .i64 (d2 : Nat),.int .i64 (d3 : Nat),.int .i64 (d4 : Nat)] 137)) := (Below.refl _ w1).alloc (Nat.le_refl _) _
  have HCt2 := hid1 (HCt.out _ (hP.out.trans (g1.trans (gA.mono (by omega)))).pow)
  have HD : Hid (∀ w',Below w1.heap.size w1 w' → Does es At B W pb yb L RS y' (ct,0) (.returned (.tuple #[.string (ba ct),.nilIface])) w') := hid1 fun w' g => ⟨ct,_,rfl,g1.trans (g.mono (by omega)),.fine ct,L2,sv,RS,h2.below HCs.out g,hs2.trans (.below L2 pb g),fun _ h _ => h⟩
  clear HM hr hk hy1 hS h2 hs2 HCt
  go_wp2_with fail
  refine HCt2.out.mono ?_
  rintro e w3 ⟨rfl,g3⟩
  have HD2 := hid1 (HD.out _ (below_then gA g3))
  clear HD HCt2
  go_wp2
  go_ret2
  exact HD2.out
 ·rw [if_neg ha,if_neg ha]
  have HM := hid1 (yMakeE_calls HB h.yard hB.y h.ok ov outs hov hol hos (fun hh => ha (Sc.allOuts_iff.2 hh)))
  have HD := hid1 fun (w' : World) (g : Below W.heap.size W w') (ev : Value) (k : Int) (hE : ErrV w' es ev (6,k)) => Does.errV HC h g hE (by omega) []
  obtain ⟨p,c,rfl,-⟩ := hov
  clear h hB HC HB ha hos hol
  go_enter Tryz.func48,Tryz.ntmps48
  go_wp2_with fail
  refine HM.out.mono ?_
  rintro e w1 ⟨ev,k,rfl,hE,g1⟩
  have gA : Below w1.heap.size w1 (w1.alloc (.cells #[.int .i64 0,.int .i64 0,.int .i64 0,.int .i64 0] 137)) := (Below.refl _ w1).alloc (Nat.le_refl _) _
  have HD2 := hid1 (HD.out _ (below_then g1 gA) ev k (hE.below gA))
  obtain ⟨t,u,rfl⟩ := hE.face (by simp)
  clear HD HM hE
  go_wp2
  go_ret2
  exact HD2.out
end Go.Proofs.YtdljhggillgpfaaGreatDoor
namespace Go.Proofs.YtdljhggillgpfaaGreatDoor
open Go.RowKit Go.Shelf Go.Lib
variable {es : Nat → Addr} {At : (Nat → Prop) → World → Value → Nat → Cf.Ens → Prop} {BAt : (Nat → Prop) → World → Value → Value → Bf.Bd → Prop}
theorem indexFuncS_calls {w : World} (v : Value) (l : List (List UInt8)) (hrow : IRow w v l) (hl : l.length ≤ 1000000) (f : Nat) (caps : Array Value) (eg : ∀ args w,(callFunc f args).run Tryz.prog w = .ok (.enter f args) w) (b : List UInt8 → Bool)
  (HS : Hid (∀ x ∈ l,∀ W,Below w.heap.size w W → Calls Tryz.prog f (#[.string (ba x)] ++ caps) W fun e w' => e = .returned (.bool (b x)) ∧ Below W.heap.size W w')) :
  Calls Tryz.prog 103 #[v,.func (.func f) #[] caps] w fun e w' => ∃ r : Int,e = .returned (.int .i64 r) ∧ Below w.heap.size w w' ∧ ((r = -1 ∧ ∀ x ∈ l,b x = false) ∨ ∃ k : Nat,r = k ∧ ∃ h : k < l.length,b l[k] = true) := by
 obtain ⟨p,cap,rfl,hin⟩ := hrow
 have HI := hid1 hin
 go_enter Tryz.func103,Tryz.ntmps103
 go_wp2
 go_loopw [8] (fun i wr => ∃ k : Nat,k ≤ l.length ∧ i = .int .i64 k ∧ (∀ x ∈ l.take k,b x = false) ∧ Below w.heap.size w wr) (fun i _ => l.length - (intOf i).toNat)
 case atStart => exact ⟨0,Nat.zero_le _,rfl,by simp,Below.refl _ _⟩
 case round =>
  obtain ⟨k,hk,rfl,hz,hB⟩ := hrel
  have HZ := hid1 hz
  have c0 : (0 : Int) ≤ (k : Int) := by omega
  by_cases hlt : k < l.length
  ·have c1 : (k : Int) < (l.length : Int) := by omega
   obtain ⟨g',o,rfl,hg,hcur⟩ := HI.out (by intro e;rw [e] at hlt;simp at hlt)
   have d0 := (hB.cell (p := ⟨g',o + k,none⟩) hg).trans (hcur k hlt)
   have HC := HS.out l[k] (List.getElem_mem hlt) wr hB
   have HN : Hid (b l[k] = false → ∀ x ∈ l.take (k + 1),b x = false) := hid1 fun h x hx => by
    rw [List.take_succ_eq_append_getElem hlt] at hx
    rcases List.mem_append.1 hx with h1 | h1
    ·exact HZ.out x h1
    ·rw [List.mem_singleton.1 h1];exact h
   have HP : Hid (b l[k] = true → ∃ j : Nat,(k : Int) = j ∧ ∃ h : j < l.length,b l[j] = true) := hid1 fun h => ⟨k,rfl,hlt,h⟩
   generalize l[k] = y at *
   cases hc : b y with
   | false =>
    rw [hc] at HC
    have HN2 := hid1 (HN.out hc)
    go_wp2_with fail
    refine Calls.mono HC ?_
    rintro e w1 ⟨rfl,hb1⟩
    go_wp2
    exact ⟨⟨k + 1,by omega,by go_num,HN2.out,below_then hB hb1⟩,by simp [intOf];omega⟩
   | true =>
    rw [hc] at HC
    have HE := hid1 (HP.out hc)
    go_wp2_with fail
    refine Calls.mono HC ?_
    rintro e w1 ⟨rfl,hb1⟩
    go_wp2
    go_ret
    exact ⟨_,rfl,below_then hB hb1,.inr HE.out⟩
  ·have c1 : (l.length : Int) ≤ (k : Int) := by omega
   have HN : Hid (∀ x ∈ l,b x = false) := hid1 fun x hx => HZ.out x (by rwa [List.take_of_length_le (by omega)])
   go_wp2
   go_ret
   exact ⟨_,rfl,hB,.inl ⟨rfl,HN.out⟩⟩
theorem containsFuncS_calls {w : World} (v : Value) (l : List (List UInt8)) (hrow : IRow w v l) (hl : l.length ≤ 1000000) (f : Nat) (caps : Array Value) (eg : ∀ args w,(callFunc f args).run Tryz.prog w = .ok (.enter f args) w) (b : List UInt8 → Bool)
  (HS : Hid (∀ x ∈ l,∀ W,Below w.heap.size w W → Calls Tryz.prog f (#[.string (ba x)] ++ caps) W fun e w' => e = .returned (.bool (b x)) ∧ Below W.heap.size W w')) :
  Calls Tryz.prog 69 #[v,.func (.func f) #[] caps] w fun e w' => e = .returned (.bool (l.any b)) ∧ Below w.heap.size w w' := by
 have HC := hid1 (indexFuncS_calls v l hrow hl f caps eg b HS)
 obtain ⟨p,cap,rfl,hin⟩ := hrow
 have HD : Hid (∀ d : Bool,(d = true ↔ ∃ x ∈ l,b x = true) → l.any b = d) := hid1 fun d hd => by
  rw [Bool.eq_iff_iff,hd,List.any_eq_true]
 generalize l.any b = d at *
 go_enter Tryz.func69,Tryz.ntmps69
 go_wp2_with fail
 refine HC.out.mono ?_
 rintro e w1 ⟨r,rfl,hb,h⟩
 rcases h with ⟨rfl,h⟩ | ⟨k,rfl,hk,h⟩
 ·obtain rfl := HD.out false (by
   simp
   intro x hx
   simpa using h x hx)
  go_wp2
  go_ret
  exact ⟨rfl,hb⟩
 ·have z : (0 : Int) ≤ (k : Int) := by omega
  obtain rfl := HD.out true (by
   simp
   exact ⟨_,List.getElem_mem hk,h⟩)
  go_wp2
  go_ret
  exact ⟨rfl,hb⟩
theorem onPaths_calls (HC : Caches0 es At) {B : Nat} {W : World} {pb yb : Nat} {L : YL} {y : Bf.Yd} {sv : Value} {RS : Nat → Prop} (h : ScAt At B W pb yb L y sv RS) {m : Int} (hB : ScB B W es m) (v : Value) (l : List (List UInt8)) (hrow : IRow W v l) (hl : l.length ≤ 1000000) (hs : ∀ s ∈ l,s.length ≤ 1000000) (F : Nat) (eg : ∀ args w,(callFunc F args).run Tryz.prog w = .ok (.enter F args) w) (y' : Bf.Yd) (a : Sc.An)
  (HF : Hid (l.all pathB = true → ∀ V,Below W.heap.size W V → Calls Tryz.prog F #[Ptr pb,v] V (Does es At B V pb yb L RS y' a))) :
  Calls Tryz.prog 46 #[v,.func (.func F) #[Ptr pb] #[]] W (Does es At B W pb yb L RS (if l.all pathB = true then y' else y) (if l.all pathB = true then a else ([],1))) := by
 have HN := hid1 (containsFuncS_calls v l hrow hl 70 #[] (enters_of Tryz.func70 (by kernel_rfl) rfl) (fun s => !pathB s) (hid1 fun x hx V g => by
  have := notPath_calls (hB.trans (g.mono h.bw)).e12.es x (hs x hx)
  exact this))
 have hx := hB.text
 have HE := hid1 fun (V : World) (g : Below W.heap.size W V) => Does.err (es := es) HC h g (c := 0) (by omega) []
 have HA := hid1 fun (V w' : World) (g : Below W.heap.size W V) (e : Ending) (hd : Does es At B V pb yb L RS y' a e w') => Does.ahead h.bw g hd
 have hq : (l.any fun s => !pathB s) = !(l.all pathB) := by rw [List.not_all_eq_any_not]
 rw [hq] at HN
 obtain ⟨p,cap,rfl,-⟩ := hrow
 clear h hB hq hs
 cases hp : l.all pathB with
 | false =>
  rw [hp] at HN
  simp only [Bool.false_eq_true,if_false]
  simp only [erOf] at hx HE
  clear HF HA hp
  go_enter Tryz.func46,Tryz.ntmps46
  go_wp2_with fail
  refine HN.out.mono ?_
  rintro e w1 ⟨rfl,g1⟩
  have hx1 := cell_below' hx g1
  have HD := hid1 (HE.out _ g1.drew)
  clear HN HE
  go_wp2
  go_region
  go_wp2
  go_ret2
  exact HD.out
 | true =>
  rw [hp] at HN
  simp only [if_true]
  have HF1 := hid1 (HF.out hp)
  clear HF hp HE
  go_enter Tryz.func46,Tryz.ntmps46
  go_wp2_with fail
  refine HN.out.mono ?_
  rintro e w1 ⟨rfl,g1⟩
  have HF2 := hid1 (HF1.out w1 g1)
  have HA1 := hid1 (HA.out w1 · g1)
  clear HN HF1 HA
  go_wp2_with fail
  refine HF2.out.mono ?_
  rintro e w2 ⟨t,ev,rfl,hd⟩
  have HD := hid1 (HA1.out w2 _ ⟨t,ev,rfl,hd⟩)
  clear HF2 HA1 hd
  go_wp2
  go_ret2
  exact HD.out
end Go.Proofs.YtdljhggillgpfaaGreatDoor
