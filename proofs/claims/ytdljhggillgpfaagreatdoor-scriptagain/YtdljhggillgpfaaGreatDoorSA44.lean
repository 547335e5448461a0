import Derived.Test.YtdljhggillgpfaaGreatDoorSA43
set_option maxRecDepth 100000
set_option maxHeartbeats 16000000
namespace Go.Proofs.YtdljhggillgpfaaGreatDoor
open Go.RowKit Go.Shelf Go.Lib
namespace Sc
def cnt (a : Nat) (l : List Nat) (j : Nat) : List UInt8 := Lib.decDigits a ++ (l.take j).flatMap fun n => 32 :: Lib.decDigits n
theorem cnt_more {a : Nat} {l : List Nat} {j : Nat} (h : j < l.length) : cnt a l (j + 1) = cnt a l j ++ (32 :: Lib.decDigits l[j]) := by
 unfold cnt
 rw [List.take_succ_eq_append_getElem h,List.flatMap_append,← List.append_assoc]
 congr 1
 exact List.append_nil _
theorem cnt_len {a : Nat} {l : List Nat} (ha : a ≤ 1000000000) (hl : ∀ x ∈ l,x ≤ 1000000000) : ∀ j,j ≤ l.length → (cnt a l j).length ≤ 21 + j * 22
 | 0,_ => by have := digits_len2 a ha;simp [cnt];omega
 | j + 1,h => by
  have h1 := cnt_len ha hl j (by omega)
  have h2 := digits_len2 l[j] (hl _ (List.getElem_mem (by omega)))
  rw [cnt_more (by omega)]
  simp
  omega
end Sc
theorem countText_calls (a b c d : Nat) (ha : a ≤ 1000) (hb : b ≤ 1000) (hc : c ≤ 1000) (hd : d ≤ 1000) (W : World) (hP : Pow W) :
  Calls Tryz.prog 73 #[.agg #[.int .i64 a,.int .i64 b,.int .i64 c,.int .i64 d]] W fun e w' => e = .returned (.string (ba (Sc.cnt a [b,c,d] 3))) ∧ Below W.heap.size W w' := by
 have HI := hid1 fun (n : Nat) (hn : n ≤ 1000) (V : World) (hV : Below W.heap.size W V) => itoa_calls n (by omega) hP hV
 have gA : Below W.heap.size W (W.alloc (.cells #[.int .i64 a,.int .i64 b,.int .i64 c,.int .i64 d] 137)) := (Below.refl _ W).alloc (Nat.le_refl _) _
 have rA := row_newW W (.cells #[.int .i64 a,.int .i64 b,.int .i64 c,.int .i64 d] 137)
 have hl : ∀ x ∈ [b,c,d],x ≤ 1000 := by simp;omega
 have HL := hid1 (Sc.cnt_len (a := a) (l := [b,c,d]) (by omega) fun x hx => by have := hl x hx;omega)
 have H0 : Hid (Sc.cnt a [b,c,d] 0 = Lib.decDigits a) := hid1 (by simp [Sc.cnt])
 obtain ⟨out,HOut⟩ : ∃ o,Hid (o = Sc.cnt a [b,c,d] 3) := ⟨_,hid1 rfl⟩
 rw [← HOut.out]
 clear hP
 go_enter Tryz.func73,Tryz.ntmps73
 go_wp2_with fail
 refine (HI.out a ha _ gA).mono ?_
 rintro e w1 ⟨rfl,g1⟩
 have r1 := row_below rA g1
 have c1 := cell_of_row (j := 1) r1 rfl
 have c2 := cell_of_row (j := 2) r1 rfl
 have c3 := cell_of_row (j := 3) r1 rfl
 have G1 := below_then gA g1
 have g2 : Below w1.heap.size w1 (w1.alloc (.cells #[.int .i64 b,.int .i64 c,.int .i64 d] 3)) := (Below.refl _ w1).alloc (Nat.le_refl _) _
 have r2 := row_newW w1 (.cells #[.int .i64 b,.int .i64 c,.int .i64 d] 3)
 have HC : Hid (∀ j (hj : j < [b,c,d].length),(w1.alloc (.cells #[.int .i64 b,.int .i64 c,.int .i64 d] 3)).cell? ⟨w1.heap.size,j,none⟩ = some (.int .i64 (([b,c,d][j] : Nat) : Int))) := hid1 fun j hj => by
  match j,hj with
  | 0,_ => exact cell_of_row (j := 0) r2 rfl
  | 1,_ => exact cell_of_row (j := 1) r2 rfl
  | 2,_ => exact cell_of_row (j := 2) r2 rfl
 have hz2 : w1.heap.size < (w1.alloc (.cells #[.int .i64 b,.int .i64 c,.int .i64 d] 3)).heap.size := by simp
 clear rA r1 r2 gA g1
 go_wp2
 generalize (w1.alloc (.cells #[.int .i64 b,.int .i64 c,.int .i64 d] 3)) = w2 at *
 have hll : [b,c,d].length = 3 := rfl
 generalize [b,c,d] = l at *
 go_loopw [3,17] (fun tv iv wr => ∃ j : Nat,j ≤ 3 ∧ iv = .int .i64 j ∧ tv = .string (ba (Sc.cnt a l j)) ∧ Below w2.heap.size w2 wr) (fun _ iv _ => 3 - (intOf iv).toNat)
 case atStart => exact ⟨0,by omega,rfl,by rw [H0.out],Below.refl _ _⟩
 case round =>
  obtain ⟨j,hj,rfl,rfl,B⟩ := hrel
  have j0 : (0 : Int) ≤ (j : Int) := by omega
  by_cases hlt : j < 3
  ·have j1 : (j : Int) < 3 := by omega
   have hlt' : j < l.length := by omega
   have d0 := (B.cell (p := ⟨w1.heap.size,j,none⟩) hz2).trans (HC.out j hlt')
   have hx := hl _ (List.getElem_mem hlt')
   have HS := hid1 (Sc.cnt_more (a := a) hlt')
   have h1 := HL.out j (by omega)
   have h2 := digits_len2 l[j] (by omega)
   generalize l[j] = n at *
   have HN := hid1 (HI.out n hx wr (below_then G1 (g2.trans (B.mono (by omega)))))
   generalize Sc.cnt a l j = s at *
   generalize hD : Lib.decDigits n = D at *
   go_wp2_with fail
   refine HN.out.mono ?_
   rintro e w3 ⟨rfl,g3⟩
   have ecat : ba s ++ ({ data := #[32] } ++ ba D) = ba (Sc.cnt a l (j + 1)) := by
    rw [show (ByteArray.mk #[32]) = ba [32] from rfl,HS.out]
    simp only [ba_append]
    simp
   go_wp2
   exact ⟨⟨j + 1,by omega,by go_num,rfl,below_then B g3⟩,by simp [intOf];omega⟩
  ·have j1 : (3 : Int) ≤ (j : Int) := by omega
   obtain rfl : j = 3 := by omega
   have G := below_then G1 (g2.trans (B.mono (by omega)))
   go_wp2
   go_ret
   exact ⟨by rw [HOut.out];rfl,G⟩
end Go.Proofs.YtdljhggillgpfaaGreatDoor
namespace Go.Proofs.YtdljhggillgpfaaGreatDoor
open Go.RowKit Go.Shelf Go.Lib
variable {es : Nat → Addr} {At : (Nat → Prop) → World → Value → Nat → Cf.Ens → Prop} {BAt : (Nat → Prop) → World → Value → Value → Bf.Bd → Prop}
theorem ErrV.aside {w w' : World} {v : Value} {f : Nat × Int} {b : Nat} {z : Int} (h : ErrV w es v f) (hk : Kept (fun j => j = b) w w') (hb : w.cell? ⟨b,1,none⟩ = Option.some (.int .i64 z)) : ErrV w' es v f := by
 rcases h with h | ⟨pb,m,e,hm,h0,h1,h2⟩
 ·exact .inl h
 ·have hne : pb ≠ b := fun e => by
   subst e
   rw [hb,h0] at h2
   cases h2
  have hlt : pb < w.heap.size := lt_of_cell h1
  have he := hk.block pb hlt hne
  exact .inr ⟨pb,m,e,hm,h0,(World.cell?_of_block (a := ⟨pb,0,none⟩) he).trans h1,(World.cell?_of_block (a := ⟨pb,1,none⟩) he).trans h2⟩
theorem yMakeE_calls (HB : Builds es Af.actO At BAt) {B : Nat} {W : World} {yb : Nat} {L : YL} {y : Bf.Yd} (h : YdAt At B W yb L y) (hY : YBase B W es) (hok : y.Ok) (ov : Value) (outs : List (List UInt8)) (hov : XRow W ov outs) (hol : outs.length ≤ 1000) (hos : ∀ p ∈ outs,p.length ≤ 300) (hno : ¬ ∀ p ∈ outs,∃ x ∈ y.l,x.out = p) :
  Calls Tryz.prog 72 #[Ptr yb,ov] W fun e w' => ∃ ev k,e = .returned (.tuple #[.agg #[.int .i64 0,.int .i64 0,.int .i64 0,.int .i64 0],ev]) ∧ ErrV w' es ev (6,k) ∧ Below W.heap.size W w' := by
 have h40 := hok.l.len
 have hne : outs ≠ [] := fun e => hno (by rw [e];simp)
 have zo : (0 : Int) < (outs.length : Int) := by have := List.length_pos_iff.2 hne;omega
 have hBW : B ≤ W.heap.size := by have := h.low;have := h.lt;omega
 have gA : Below W.heap.size W (W.alloc (.cells #[.int .i64 0,.int .i64 0,.int .i64 0,.int .i64 0] 137)) := (Below.refl _ W).alloc (Nat.le_refl _) _
 have rA := row_newW W (.cells #[.int .i64 0,.int .i64 0,.int .i64 0,.int .i64 0] 137)
 have hsA : (W.alloc (.cells #[.int .i64 0,.int .i64 0,.int .i64 0,.int .i64 0] 137)).heap.size = W.heap.size + 1 := by simp
 have HNew := hid1 fun (V : World) (g : Below W.heap.size W V) => HB.new V B L.tb y.fs L.o1 L.lv y.l ov outs L.cv (hY.trans (g.mono hBW)).build.w (h.t.below g) hok.fs.rises (by have := hok.fs.few;omega) (fun f hf => ⟨by have := well_len hok.fs f hf;omega,(hok.fs.each f hf).2⟩) (h.rrow.below g) (by omega) hok.l.small (hov.below g) hol hos (by obtain ⟨p,e⟩ := h.cp;exact ⟨_,e⟩)
 have HNt : Hid (∀ (n : Nat) (w : World) (bv ev : Value),NewTells es BAt n y.fs y.l outs L.cv w bv ev → bv = .pointer none ∧ (∃ t u,ev = .iface t u) ∧ ∃ k,ErrV w es ev (6,k)) := hid1 fun n w bv ev hN => by
  have hall : ¬ ∀ j (hj : j < outs.length),∃ x ∈ y.l,x.out = outs[j] := fun hh => hno fun p hp => by
   obtain ⟨j,hj,rfl⟩ := List.getElem_of_mem hp
   exact hh j hj
  rcases hN with ⟨hb,⟨h1,_⟩ | ⟨_,k,hk,_,_,hE⟩ | ⟨_,h2,_,_⟩⟩ | ⟨_,h2,_⟩
  ·exact absurd hok.l.fine h1
  ·exact ⟨hb,hE.iface (by simp),_,hE⟩
  ·exact absurd h2 hall
  ·exact absurd h2 hall
 have q0 := cell_below' h.c0 gA
 have q2 := cell_below' h.c2 gA
 have q3 := cell_below' h.c3 gA
 obtain ⟨pc,ecv⟩ := h.cp
 obtain ⟨pl,cl,elv,-⟩ := h.rrow
 rw [elv,ecv] at HNew
 rw [ecv] at HNt q3
 rw [elv] at q2
 obtain ⟨po,co,rfl,-⟩ := hov
 clear h hY hok hno hos
 generalize hWa : W.alloc (.cells #[.int .i64 0,.int .i64 0,.int .i64 0,.int .i64 0] 137) = Wa at *
 go_enter Tryz.func72,Tryz.ntmps72
 go_wp2
 go_region_held3 (fun w' => w'.cell? ⟨yb,0,none⟩ = some (Ptr L.tb) ∧ w'.cell? ⟨yb,2,none⟩ = some (.slice pl y.l.length cl) ∧ w'.cell? ⟨yb,3,none⟩ = some (.pointer (some pc))) (first | go_keep | fail)
   (first
    | (go_at_call 108;refine (HNew.out _ (by exact gA.drew)).mono ?_;rintro e w2 ⟨bv,ev,rfl,g2,hN⟩;(have r0 := cell_below' (show Wa.drew.cell? _ = _ from q0) g2);(have r2 := cell_below' (show Wa.drew.cell? _ = _ from q2) g2);(have r3 := cell_below' (show Wa.drew.cell? _ = _ from q3) g2);(obtain ⟨rfl,⟨tt,uu,rfl⟩,hE⟩ := HNt.out _ _ _ _ hN))
    | fail)
 all_goals
  have g12 : Below Wa.heap.size Wa w2 := below_then (Below.refl Wa.heap.size Wa).drew g2
  have rr := row_below rA g12
  have u0 := cell_of_row (j := 0) rr rfl
  have u1 := cell_of_row (j := 1) rr rfl
  have u2 := cell_of_row (j := 2) rr rfl
  have u3 := cell_of_row (j := 3) rr rfl
  have f0 : w2.frozen? ⟨W.heap.size,0,none⟩ = false := by simp [World.frozen?,rr]
  have f1 : w2.frozen? ⟨W.heap.size,1,none⟩ = false := by simp [World.frozen?,rr]
  have f2 : w2.frozen? ⟨W.heap.size,2,none⟩ = false := by simp [World.frozen?,rr]
  have f3 : w2.frozen? ⟨W.heap.size,3,none⟩ = false := by simp [World.frozen?,rr]
  have qq := hid1 (four_cells u0 u1 u2 u3 (.int .i64 0) (.int .i64 0) (.int .i64 0) (.int .i64 0))
  have HE := hid1 hE
  have G2 := below_then gA g12
  clear HNew HNt hN hE
  go_wp2
  obtain ⟨k,hE⟩ := HE.out
  have b7 : Below W.heap.size W ((((w2.setCell ⟨W.heap.size,0,none⟩ (.int .i64 0)).setCell ⟨W.heap.size,1,none⟩ (.int .i64 0)).setCell ⟨W.heap.size,2,none⟩ (.int .i64 0)).setCell ⟨W.heap.size,3,none⟩ (.int .i64 0)) := (((G2.setCell (p := ⟨W.heap.size,0,none⟩) (Nat.le_refl _) _).setCell (p := ⟨W.heap.size,1,none⟩) (Nat.le_refl _) _).setCell (p := ⟨W.heap.size,2,none⟩) (Nat.le_refl _) _).setCell (p := ⟨W.heap.size,3,none⟩) (Nat.le_refl _) _
  have k8 : Kept (fun j => j = W.heap.size) w2 ((((w2.setCell ⟨W.heap.size,0,none⟩ (.int .i64 0)).setCell ⟨W.heap.size,1,none⟩ (.int .i64 0)).setCell ⟨W.heap.size,2,none⟩ (.int .i64 0)).setCell ⟨W.heap.size,3,none⟩ (.int .i64 0)) := ((((Kept.refl (fun j => j = W.heap.size) w2).setCell (p := ⟨W.heap.size,0,none⟩) rfl _).setCell (p := ⟨W.heap.size,1,none⟩) rfl _).setCell (p := ⟨W.heap.size,2,none⟩) rfl _).setCell (p := ⟨W.heap.size,3,none⟩) rfl _
  refine bodyPost_ret (v := .tuple #[.agg #[.int .i64 0,.int .i64 0,.int .i64 0,.int .i64 0],.iface tt uu]) ?_ rfl ⟨_,rfl,⟨k,hE.aside k8 u1⟩,b7⟩
  obtain ⟨t0,t1,t2,t3⟩ := qq.out
  simp [results,Tryz.f72,go_sem,t0,t1,t2,t3]
end Go.Proofs.YtdljhggillgpfaaGreatDoor
namespace Go.Proofs.YtdljhggillgpfaaGreatDoor
open Go.RowKit Go.Shelf Go.Lib
variable {es : Nat → Addr} {At : (Nat → Prop) → World → Value → Nat → Cf.Ens → Prop} {BAt : (Nat → Prop) → World → Value → Value → Bf.Bd → Prop}
theorem Bf.Yd.Ok.made {y : Bf.Yd} (h : y.Ok) (outs : List (List UInt8)) : (y.made outs).1.l = y.l ∧ Bf.CFit (y.made outs).2 := by
 have hF := Bf.allF_keeps actFit ((Bf.init y.fs y.l (Bf.whole y.l outs)).waits + 1) y.c (Bf.init y.fs y.l (Bf.whole y.l outs)) (Bf.init_fit fun f hf => (h.fs.each f hf).2) h.c
 exact ⟨hF.1,hF.2.2.2⟩
theorem Bf.Yd.Ok.makeP {y : Bf.Yd} (h : y.Ok) (outs : List (List UInt8)) : (y.makeP outs).Ok := ⟨h.fs,Bf.outP_well h.os,h.l,(h.made outs).2⟩
theorem Sc.counts_cnt (d : Bf.Bd) : Sc.counts d = Sc.cnt d.ran [d.hits,d.fails,d.lefts] 3 := by
 unfold Sc.counts Sc.cnt
 simp
theorem Does.errV {B : Nat} {W w' : World} {pb yb : Nat} {L : YL} {y : Bf.Yd} {sv : Value} {RS : Nat → Prop} (HC : Caches0 es At) (h : ScAt At B W pb yb L y sv RS) (hb : Below W.heap.size W w') {ev : Value} {c : Nat} {p : Int} (hE : ErrV w' es ev (c,p)) (hc : c ≠ 0) (t : List UInt8) :
  Does es At B W pb yb L RS y ([],c) (.returned (.tuple #[.string (ba t),ev])) w' := Does.same HC h hb ⟨⟨p,hE⟩,fun e => absurd e hc⟩
theorem spmakeOf_calls (HC : Caches0 es At) (HB : Builds es Af.actO At BAt) {B : Nat} {W : World} {pb yb : Nat} {L : YL} {y : Bf.Yd} {sv : Value} {RS : Nat → Prop} (h : ScAt At B W pb yb L y sv RS) {m : Int} (hB : ScB B W es m) (ov : Value) (outs : List (List UInt8)) (hov : XRow W ov outs) (hol : outs.length ≤ 1000) (hos : ∀ p ∈ outs,p.length ≤ 300) :
  Calls Tryz.prog 48 #[Ptr pb,ov] W (Does es At B W pb yb L RS (Sc.makeY y outs) (Sc.makeA y outs)) := by
 have c0 := h.c0
 have hBW := h.bw
 unfold Sc.makeY Sc.makeA
 by_cases ha : Sc.allOuts y.l outs = true
 ·rw [if_pos ha,if_pos ha]
  have HM := hid1 (yMake_calls HC HB h.yard hB.y h.ok ov outs hov hol (Sc.allOuts_iff.1 ha))
  have HY := hid1 h
  have HCs := hid1 HC
  have hP := hid1 hB
  have hm := h.ok.made outs
  have h40 := h.ok.l.len
  have e1 : (y.made outs).1.ran ≤ 1000 := by unfold Bf.Bd.ran;have := Bf.many_le (y.made outs).1.st (fun s => s.isDone && !s.hit) (y.made outs).1.l.length;rw [hm.1] at *;omega
  have e2 : (y.made outs).1.hits ≤ 1000 := by unfold Bf.Bd.hits;have := Bf.many_le (y.made outs).1.st (fun s => s.isDone && s.hit) (y.made outs).1.l.length;rw [hm.1] at *;omega
  have e3 : (y.made outs).1.fails ≤ 1000 := by unfold Bf.Bd.fails;have := Bf.many_le (y.made outs).1.st Bf.St.isFailed (y.made outs).1.l.length;rw [hm.1] at *;omega
  have e4 : (y.made outs).1.lefts ≤ 1000 := by unfold Bf.Bd.lefts;have := Bf.many_le (y.made outs).1.st Bf.St.isLeft (y.made outs).1.l.length;rw [hm.1] at *;omega
  have HQ := hid1 (Sc.counts_cnt (y.made outs).1)
  have HOk := hid1 (h.ok.makeP outs)
  have HL : Hid ((y.makeP outs).l = y.l) := hid1 rfl
  have HCt := hid1 fun (V : World) (hV : KPow V) => countText_calls (y.made outs).1.ran (y.made outs).1.hits (y.made outs).1.fails (y.made outs).1.lefts e1 e2 e3 e4 V hV
  rw [← HQ.out] at HCt
  obtain ⟨p,c,rfl,-⟩ := hov
  clear h hB HC HB hm h40 e1 e2 e3 e4 HQ ha hos hol
  generalize y.makeP outs = y' at *
  generalize Sc.counts (y.made outs).1 = ct at *
  unfold countV at HM
  generalize ((y.made outs).1.ran : Nat) = d1 at *
  generalize ((y.made outs).1.hits : Nat) = d2 at *
  generalize ((y.made outs).1.fails : Nat) = d3 at *
  generalize ((y.made outs).1.lefts : Nat) = d4 at *
  go_enter Tryz.func48,Tryz.ntmps48
  go_wp2_with fail
  refine HM.out.mono ?_
  rintro e w1 ⟨rfl,g1,hr,L1,-,-,hk,hy1⟩
  have hz : W.heap.size ≤ w1.heap.size := g1.size
  have hS := HY.out.yard.made2 hz hr hk
  obtain ⟨L2,h2,hs2⟩ := HY.out.go HCs.out hS hy1 HL.out HOk.out
  have gA : Below w1.heap.size w1 (w1.alloc (.cells #[.int .i64 (d1 : Nat),.int .i64 (d2 : Nat),.int .i64 (d3 : Nat),.int .i64 (d4 : Nat)] 137)) := (Below.refl _ w1).alloc (Nat.le_refl _) _
  have HCt2 := hid1 (HCt.out _ (hP.out.trans (g1.trans (gA.mono (by omega)))).pow)
  have HD : Hid (∀ w',Below w1.heap.size w1 w' → Does es At B W pb yb L RS y' (ct,0) (.returned (.tuple #[.string (ba ct),.nilIface])) w') := hid1 fun w' g => ⟨ct,_,rfl,g1.trans (g.mono (by omega)),.fine ct,L2,sv,RS,h2.below HCs.out g,hs2.trans (.below L2 pb g),fun _ h _ => h⟩
  clear HM hr hk hy1 hS h2 hs2 HCt
  go_wp2_with fail
  refine HCt2.out.mono ?_
  rintro e w3 ⟨rfl,g3⟩
  have HD2 := hid1 (HD.out _ (below_then gA g3))
  clear HD HCt2
  go_wp2
  go_ret2
  exact HD2.out
 ·rw [if_neg ha,if_neg ha]
  have HM := hid1 (yMakeE_calls HB h.yard hB.y h.ok ov outs hov hol hos (fun hh => ha (Sc.allOuts_iff.2 hh)))
  have HD := hid1 fun (w' : World) (g : Below W.heap.size W w') (ev : Value) (k : Int) (hE : ErrV w' es ev (6,k)) => Does.errV HC h g hE (by omega) []
  obtain ⟨p,c,rfl,-⟩ := hov
  clear h hB HC HB ha hos hol
  go_enter Tryz.func48,Tryz.ntmps48
  go_wp2_with fail
  refine HM.out.mono ?_
  rintro e w1 ⟨ev,k,rfl,hE,g1⟩
  have gA : Below w1.heap.size w1 (w1.alloc (.cells #[.int .i64 0,.int .i64 0,.int .i64 0,.int .i64 0] 137)) := (Below.refl _ w1).alloc (Nat.le_refl _) _
  have HD2 := hid1 (HD.out _ (below_then g1 gA) ev k (hE.below gA))
  obtain ⟨t,u,rfl⟩ := hE.face (by simp)
  clear HD HM hE
  go_wp2
  go_ret2
  exact HD2.out
end Go.Proofs.YtdljhggillgpfaaGreatDoor
namespace Go.Proofs.YtdljhggillgpfaaGreatDoor
open Go.RowKit Go.Shelf Go.Lib
variable {es : Nat → Addr} {At : (Nat → Prop) → World → Value → Nat → Cf.Ens → Prop} {BAt : (Nat → Prop) → World → Value → Value → Bf.Bd → Prop}
theorem indexFuncS_calls {w : World} (v : Value) (l : List (List UInt8)) (hrow : IRow w v l) (hl : l.length ≤ 1000000) (f : Nat) (caps : Array Value) (eg : ∀ args w,(callFunc f args).run Tryz.prog w = .ok (.enter f args) w) (b : List UInt8 → Bool)
  (HS : Hid (∀ x ∈ l,∀ W,Below w.heap.size w W → Calls Tryz.prog f (#[.string (ba x)] ++ caps) W fun e w' => e = .returned (.bool (b x)) ∧ Below W.heap.size W w')) :
  Calls Tryz.prog 103 #[v,.func (.func f) #[] caps] w fun e w' => ∃ r : Int,e = .returned (.int .i64 r) ∧ Below w.heap.size w w' ∧ ((r = -1 ∧ ∀ x ∈ l,b x = false) ∨ ∃ k : Nat,r = k ∧ ∃ h : k < l.length,b l[k] = true) := by
 obtain ⟨p,cap,rfl,hin⟩ := hrow
 have HI := hid1 hin
 go_enter Tryz.func103,Tryz.ntmps103
 go_wp2
 go_loopw [8] (fun i wr => ∃ k : Nat,k ≤ l.length ∧ i = .int .i64 k ∧ (∀ x ∈ l.take k,b x = false) ∧ Below w.heap.size w wr) (fun i _ => l.length - (intOf i).toNat)
 case atStart => exact ⟨0,Nat.zero_le _,rfl,by simp,Below.refl _ _⟩
 case round =>
  obtain ⟨k,hk,rfl,hz,hB⟩ := hrel
  have HZ := hid1 hz
  have c0 : (0 : Int) ≤ (k : Int) := by omega
  by_cases hlt : k < l.length
  ·have c1 : (k : Int) < (l.length : Int) := by omega
   obtain ⟨g',o,rfl,hg,hcur⟩ := HI.out (by intro e;rw [e] at hlt;simp at hlt)
   have d0 := (hB.cell (p := ⟨g',o + k,none⟩) hg).trans (hcur k hlt)
   have HC := HS.out l[k] (List.getElem_mem hlt) wr hB
   have HN : Hid (b l[k] = false → ∀ x ∈ l.take (k + 1),b x = false) := hid1 fun h x hx => by
    rw [List.take_succ_eq_append_getElem hlt] at hx
    rcases List.mem_append.1 hx with h1 | h1
    ·exact HZ.out x h1
    ·rw [List.mem_singleton.1 h1];exact h
   have HP : Hid (b l[k] = true → ∃ j : Nat,(k : Int) = j ∧ ∃ h : j < l.length,b l[j] = true) := hid1 fun h => ⟨k,rfl,hlt,h⟩
   generalize l[k] = y at *
   cases hc : b y with
   | false =>
    rw [hc] at HC
    have HN2 := hid1 (HN.out hc)
    go_wp2_with fail
    refine Calls.mono HC ?_
    rintro e w1 ⟨rfl,hb1⟩
    go_wp2
    exact ⟨⟨k + 1,by omega,by go_num,HN2.out,below_then hB hb1⟩,by simp [intOf];omega⟩
   | true =>
    rw [hc] at HC
    have HE := hid1 (HP.out hc)
    go_wp2_with fail
    refine Calls.mono HC ?_
    rintro e w1 ⟨rfl,hb1⟩
    go_wp2
    go_ret
    exact ⟨_,rfl,below_then hB hb1,.inr HE.out⟩
  ·have c1 : (l.length : Int) ≤ (k : Int) := by omega
   have HN : Hid (∀ x ∈ l,b x = false) := hid1 fun x hx => HZ.out x (by rwa [List.take_of_length_le (by omega)])
   go_wp2
   go_ret
   exact ⟨_,rfl,hB,.inl ⟨rfl,HN.out⟩⟩
theorem containsFuncS_calls {w : World} (v : Value) (l : List (List UInt8)) (hrow : IRow w v l) (hl : l.length ≤ 1000000) (f : Nat) (caps : Array Value) (eg : ∀ args w,(callFunc f args).run Tryz.prog w = .ok (.enter f args) w) (b : List UInt8 → Bool)
  (HS : Hid (∀ x ∈ l,∀ W,Below w.heap.size w W → Calls Tryz.prog f (#[.string (ba x)] ++ caps) W fun e w' => e = .returned (.bool (b x)) ∧ Below W.heap.size W w')) :
  Calls Tryz.prog 69 #[v,.func (.func f) #[] caps] w fun e w' => e = .returned (.bool (l.any b)) ∧ Below w.heap.size w w' := by
 have HC := hid1 (indexFuncS_calls v l hrow hl f caps eg b HS)
 obtain ⟨p,cap,rfl,hin⟩ := hrow
 have HD : Hid (∀ d : Bool,(d = true ↔ ∃ x ∈ l,b x = true) → l.any b = d) := hid1 fun d hd => by
  rw [Bool.eq_iff_iff,hd,List.any_eq_true]
 generalize l.any b = d at *
 go_enter Tryz.func69,Tryz.ntmps69
 go_wp2_with fail
 refine HC.out.mono ?_
 rintro e w1 ⟨r,rfl,hb,h⟩
 rcases h with ⟨rfl,h⟩ | ⟨k,rfl,hk,h⟩
 ·obtain rfl := HD.out false (by
   simp
   intro x hx
   simpa using h x hx)
  go_wp2
  go_ret
  exact ⟨rfl,hb⟩
 ·have z : (0 : Int) ≤ (k : Int) := by omega
  obtain rfl := HD.out true (by
   simp
   exact ⟨_,List.getElem_mem hk,h⟩)
  go_wp2
  go_ret
  exact ⟨rfl,hb⟩
theorem onPaths_calls (HC : Caches0 es At) {B : Nat} {W : World} {pb yb : Nat} {L : YL} {y : Bf.Yd} {sv : Value} {RS : Nat → Prop} (h : ScAt At B W pb yb L y sv RS) {m : Int} (hB : ScB B W es m) (v : Value) (l : List (List UInt8)) (hrow : IRow W v l) (hl : l.length ≤ 1000000) (hs : ∀ s ∈ l,s.length ≤ 1000000) (F : Nat) (eg : ∀ args w,(callFunc F args).run Tryz.prog w = .ok (.enter F args) w) (y' : Bf.Yd) (a : Sc.An)
  (HF : Hid (l.all pathB = true → ∀ V,Below W.heap.size W V → Calls Tryz.prog F #[Ptr pb,v] V (Does es At B V pb yb L RS y' a))) :
  Calls Tryz.prog 46 #[v,.func (.func F) #[Ptr pb] #[]] W (Does es At B W pb yb L RS (if l.all pathB = true then y' else y) (if l.all pathB = true then a else ([],1))) := by
 have HN := hid1 (containsFuncS_calls v l hrow hl 70 #[] (enters_of Tryz.func70 (by kernel_rfl) rfl) (fun s => !pathB s) (hid1 fun x hx V g => by
  have := notPath_calls (hB.trans (g.mono h.bw)).e12.es x (hs x hx)
  exact this))
 have hx := hB.text
 have HE := hid1 fun (V : World) (g : Below W.heap.size W V) => Does.err (es := es) HC h g (c := 0) (by omega) []
 have HA := hid1 fun (V w' : World) (g : Below W.heap.size W V) (e : Ending) (hd : Does es At B V pb yb L RS y' a e w') => Does.ahead h.bw g hd
 have hq : (l.any fun s => !pathB s) = !(l.all pathB) := by rw [List.not_all_eq_any_not]
 rw [hq] at HN
 obtain ⟨p,cap,rfl,-⟩ := hrow
 clear h hB hq hs
 cases hp : l.all pathB with
 | false =>
  rw [hp] at HN
  simp only [Bool.false_eq_true,if_false]
  simp only [erOf] at hx HE
  clear HF HA hp
  go_enter Tryz.func46,Tryz.ntmps46
  go_wp2_with fail
  refine HN.out.mono ?_
  rintro e w1 ⟨rfl,g1⟩
  have hx1 := cell_below' hx g1
  have HD := hid1 (HE.out _ g1.drew)
  clear HN HE
  go_wp2
  go_region
  go_wp2
  go_ret2
  exact HD.out
 | true =>
  rw [hp] at HN
  simp only [if_true]
  have HF1 := hid1 (HF.out hp)
  clear HF hp HE
  go_enter Tryz.func46,Tryz.ntmps46
  go_wp2_with fail
  refine HN.out.mono ?_
  rintro e w1 ⟨rfl,g1⟩
  have HF2 := hid1 (HF1.out w1 g1)
  have HA1 := hid1 (HA.out w1 · g1)
  clear HN HF1 HA
  go_wp2_with fail
  refine HF2.out.mono ?_
  rintro e w2 ⟨t,ev,rfl,hd⟩
  have HD := hid1 (HA1.out w2 _ ⟨t,ev,rfl,hd⟩)
  clear HF2 HA1 hd
  go_wp2
  go_ret2
  exact HD.out
end Go.Proofs.YtdljhggillgpfaaGreatDoor
namespace Go.Proofs.YtdljhggillgpfaaGreatDoor
open Go.RowKit Go.Shelf Go.Lib
variable {es : Nat → Addr} {At : (Nat → Prop) → World → Value → Nat → Cf.Ens → Prop} {BAt : (Nat → Prop) → World → Value → Value → Bf.Bd → Prop}
theorem yRulesV_calls (HC : Caches0 es At) {B : Nat} {W : World} {yb : Nat} {L : YL} {y : Bf.Yd} (h : YdAt At B W yb L y) (hG : GraphW W es) (v : Value) (l : List Ru) (hrow : RRow W v l) (hl : l.length ≤ 1000) (hS : ∀ x ∈ l,x.Small) :
  Calls Tryz.prog 101 #[Ptr yb,v] W fun e w' => ∃ ev,e = .returned ev ∧ Below B W w' ∧
   ((∃ c k,(Sc.takeA l).2 = c + 1 ∧ (∃ t u,ev = .iface t u) ∧ ErrV w' es ev (c + 1,k) ∧ Below W.heap.size W w') ∨
    (ev = .nilIface ∧ (Sc.takeA l).2 = 0 ∧ ∃ L',YStep W w' L L' ∧ YdAt At B w' yb L' { y with l := l })) := by
 have HO := hid1 (gOrder_calls hG v l hrow hl hS)
 have HCp := hid1 fun (V : World) (g : Below W.heap.size W V) => ycopy_calls v l (hrow.below g) hl fun x hx => by have := (hS x hx).many;omega
 have HY := hid1 h
 have hBW : B ≤ W.heap.size := by have := h.low;have := h.lt;omega
 have HCs := hid1 HC
 obtain ⟨pl,cl,rfl,-⟩ := hrow
 obtain ⟨tk,htk⟩ : ∃ tk,Sc.takeA l = tk := ⟨_,rfl⟩
 have HTk := hid1 htk
 rw [htk]
 clear htk
 go_enter Tryz.func101,Tryz.ntmps101
 go_wp2_with fail
 refine HO.out.mono ?_
 rintro e w1 ⟨u1,ev,rfl,g1,hT⟩
 have hcase : (∃ p n c,u1 = .slice p n c) ∧ ((∃ c k,tk.2 = c + 1 ∧ (∃ t x,ev = .iface t x) ∧ ErrV w1 es ev (c + 1,k)) ∨ (ev = .nilIface ∧ tk.2 = 0)) := by
  rw [← HTk.out]
  unfold Sc.takeA
  rcases hT with ⟨hf,hE,p,c,rfl⟩ | ⟨hf,ho,rfl,p,c,rfl⟩ | ⟨hf,o,ho,rfl,p,c,rfl,-⟩
  ·rw [if_pos hf]
   exact ⟨⟨_,_,_,rfl⟩,.inl ⟨(Ru.fault l).1 - 1,(Ru.fault l).2,by show (Ru.fault l).1 = _;omega,hE.some hf,by rw [Nat.sub_add_cancel (by omega)];exact hE⟩⟩
  ·rw [if_neg (by omega),if_neg (by rw [ho];simp)]
   exact ⟨⟨_,_,_,rfl⟩,.inl ⟨8,-1,rfl,⟨_,_,rfl⟩,.inl ⟨rfl,rfl,by omega⟩⟩⟩
  ·rw [if_neg (by omega),if_pos (by rw [ho];rfl)]
   exact ⟨⟨_,_,_,rfl⟩,.inr ⟨rfl,rfl⟩⟩
 obtain ⟨⟨p1,n1,c1,rfl⟩,hcase⟩ := hcase
 clear hT HTk
 rcases hcase with ⟨c,k,hc,⟨t,x,rfl⟩,hE⟩ | ⟨rfl,hok⟩
 ·have HB := hid1 (And.intro hc hE)
  clear hc hE
  go_wp2
  go_ret
  exact ⟨_,rfl,g1.mono hBW,.inl ⟨c,k,HB.out.1,⟨_,_,rfl⟩,HB.out.2,g1⟩⟩
 ·have HOk := hid1 hok
  have HC1 := hid1 (HCp.out w1 g1)
  clear hok
  go_wp2_with fail
  refine HC1.out.mono ?_
  rintro e w2 ⟨v2,rfl,g2,hN⟩
  have G2 := below_then g1 g2
  have HN := hid1 hN
  obtain ⟨p2,c2,rfl,-⟩ := hN w2 (Nat.le_refl _) fun _ _ _ => rfl
  have hy2 := HY.out.below HCs.out G2
  have d2 := hy2.c2
  have f2 : w2.frozen? ⟨yb,2,none⟩ = false := by simp [World.frozen?,hy2.row]
  have HR : Hid ((w2.setCell ⟨yb,2,none⟩ (.slice p2 l.length c2)).heap[yb]? = some (.cells #[Ptr L.tb,Ptr L.ob,.slice p2 l.length c2,L.cv] 78 (0,0))) := hid1 (by
   rw [heap_setCell_same w2 yb 2 _ _ _ hy2.row]
   rfl)
  have hst : ∀ (a : Addr) (m : Mode) (W : World),Sem.run Tryz.prog (store a (.slice p2 l.length c2) m) W = stored Tryz.prog W a (.slice p2 l.length c2) m := fun a m W => run_store _ W a _ m rfl
  have hlow := HY.out.low
  have HG1 := hid1 g1
  go_wp2
  go_ret
  have hNew : ∀ V : World,w2.heap.size ≤ V.heap.size → (∀ j,W.heap.size ≤ j → j < w2.heap.size → V.heap[j]? = w2.heap[j]?) → RRow V (.slice p2 l.length c2) l := fun V hz hV => HN.out V hz fun j h1 h2 => hV j (by have := HG1.out.size;omega) h2
  refine ⟨_,rfl,(G2.mono hBW).setCell (p := ⟨yb,2,none⟩) hlow _,.inr ⟨rfl,HOk.out,_,⟨?_,fun j hj hk => ?_,fun j hj => ?_⟩,HY.out.ruled HCs.out G2 hNew HR.out⟩⟩
  ·have e1 : (w2.setCell ⟨yb,2,none⟩ (.slice p2 l.length c2)).heap.size = w2.heap.size := by simp
   rw [e1]
   exact G2.size
  ·exact (Below.heap_setCell _ _ _ _ fun e => by have e' : j = yb := e;rw [e',HY.out.ky] at hk;omega).trans (G2.block j hj)
  ·exact L.more_old hj
def SheetIn (W : World) (L : YL) (pb : Nat) (v : Value) (l : List Ru) (R : Nat → Prop) : Prop :=
 (∀ V : World,W.heap.size ≤ V.heap.size → (∀ j,R j → V.heap[j]? = W.heap[j]?) → RRow V v l) ∧ (∀ j,R j → j < W.heap.size) ∧ (∀ j,R j → L.k j = 9) ∧ ∀ j,R j → j ≠ pb
theorem takeOk {y : Bf.Yd} (h : y.Ok) {l : List Ru} (hS : ∀ x ∈ l,x.Small) (h0 : (Sc.takeA l).2 = 0) : Bf.Yd.Ok { y with l := l } := by
 refine ⟨h.fs,h.os,⟨?_,?_,hS⟩,h.c⟩
 ·unfold Sc.takeA at h0
  split at h0
  ·rename_i h1;exact absurd h0 h1
  ·rename_i h1;exact Classical.byContradiction fun h2 => h1 h2
 ·unfold Sc.takeA at h0
  split at h0
  ·rename_i h1;exact absurd h0 h1
  ·split at h0
   ·rename_i h2;exact h2
   ·simp at h0
theorem sptake_calls (HC : Caches0 es At) {B : Nat} {W : World} {pb yb : Nat} {L : YL} {y : Bf.Yd} {sv : Value} {RS : Nat → Prop} (h : ScAt At B W pb yb L y sv RS) {m : Int} (hB : ScB B W es m) (v : Value) (l : List Ru) (R : Nat → Prop) (hR : SheetIn W L pb v l R) (hl : l.length ≤ 1000) (hS : ∀ x ∈ l,x.Small) :
  Calls Tryz.prog 67 #[Ptr pb,v] W (Does es At B W pb yb L (fun j => RS j ∨ R j) (Sc.takeY y l) (Sc.takeA l)) := by
 have c0 := h.c0
 have hBW := h.bw
 have hrow := hR.1 W (Nat.le_refl _) fun _ _ => rfl
 have HR := hid1 (yRulesV_calls HC h.yard hB.y.build.w.g v l hrow hl hS)
 have HY := hid1 h
 have HCs := hid1 HC
 have HRr := hid1 hR
 have HTy : Hid ((Sc.takeA l).2 = 0 → Sc.takeY y l = { y with l := l } ∧ Sc.takeA l = (Sc.ok,0) ∧ Bf.Yd.Ok { y with l := l }) := hid1 fun h0 => by
  refine ⟨by unfold Sc.takeY;rw [if_pos h0],?_,takeOk h.ok hS h0⟩
  revert h0
  unfold Sc.takeA
  split
  ·rename_i h1;intro h0;exact absurd h0 h1
  ·split
   ·intro _;rfl
   ·intro h0;simp at h0
 have HTn : Hid (∀ c,(Sc.takeA l).2 = c + 1 → Sc.takeY y l = y ∧ Sc.takeA l = ([],c + 1)) := hid1 fun c h0 => by
  refine ⟨by unfold Sc.takeY;rw [if_neg (by omega)],?_⟩
  revert h0
  unfold Sc.takeA
  split
  ·intro h0;exact Prod.ext rfl h0
  ·split
   ·intro h0;simp at h0
   ·intro h0;exact Prod.ext rfl h0
 obtain ⟨pl,cl,rfl,-⟩ := hrow
 clear h hB HC hR hS
 generalize Sc.takeY y l = ty at *
 generalize Sc.takeA l = ta at *
 have hst : ∀ (a : Addr) (m : Mode) (W : World),Sem.run Tryz.prog (store a (.slice pl l.length cl) m) W = stored Tryz.prog W a (.slice pl l.length cl) m := fun a m W => run_store _ W a _ m rfl
 go_enter Tryz.func67,Tryz.ntmps67
 go_wp2_with fail
 refine HR.out.mono ?_
 rintro e w1 ⟨ev,rfl,g1,hcase⟩
 rcases hcase with ⟨c,k,hc,⟨t,u,rfl⟩,hE,g1'⟩ | ⟨rfl,hok,L1,hs1,hy1⟩
 ·obtain ⟨rfl,rfl⟩ := HTn.out c hc
  have HD := hid1 (done_calls (w := w1) (es := es) (.iface t u) (c + 1) k hE)
  have HF := hid1 (And.intro g1' g1)
  clear hE HTn HTy hc g1 g1' HRr HR
  go_wp2_with fail
  refine HD.out.mono ?_
  rintro e w3 ⟨s,rfl,rfl,hv⟩
  have HV := hid1 hv
  clear hv HD
  go_wp2
  go_ret2
  refine ⟨s,_,rfl,HF.out.2,⟨HV.out.1,fun h0 => by simp at h0⟩,L,sv,RS,HY.out.below HCs.out HF.out.1,.below L pb HF.out.1,fun _ h _ => .inl h⟩
 ·obtain ⟨rfl,rfl,hOk⟩ := HTy.out hok
  have hpb := HY.out.lt
  have r1 : w1.heap[pb]? = some (.cells #[Ptr yb,sv] 60 (0,0)) := (hs1.rest pb hpb HY.out.kp).trans HY.out.row
  have d1 := cell_of_row (j := 1) r1 rfl
  have f1 : w1.frozen? ⟨pb,1,none⟩ = false := by simp [World.frozen?,r1]
  obtain ⟨w2,hw2⟩ : ∃ w2,w1.setCell ⟨pb,1,none⟩ (.slice pl l.length cl) = w2 := ⟨_,rfl⟩
  have e1 : w2.heap.size = w1.heap.size := by rw [← hw2];simp
  have r2 : w2.heap[pb]? = some (.cells #[Ptr yb,.slice pl l.length cl] 60 (0,0)) := by
   rw [← hw2,heap_setCell_same w1 pb 1 _ _ _ r1]
   rfl
  have o2 : ∀ j,j ≠ pb → w2.heap[j]? = w1.heap[j]? := fun j hj => by
   rw [← hw2]
   exact Below.heap_setCell _ _ _ _ fun e => hj e
  have HF : Hid (Below B W w2 ∧ ∃ L2,ScAt At B w2 pb yb L2 { y with l := l } (.slice pl l.length cl) R ∧ ScStep W w2 L L2 pb) := hid1 (by
   have hlow := HY.out.low
   have hp9 : L1.k pb = 9 := (hs1.kk pb hpb).trans HY.out.kp
   have hk : Kept (fun j => L1.k j = 9) w1 w2 := ⟨by omega,fun j _ hs => o2 j fun e => hs (by rw [e];exact hp9)⟩
   have hlt : ∀ j,j < W.heap.size → j < w2.heap.size := fun j hj => by have := hs1.size;omega
   refine ⟨by rw [← hw2];exact g1.setCell (p := ⟨pb,1,none⟩) hlow _,{ L1 with k := L1.more w2.heap.size 9 },⟨(hy1.aside HCs.out hk).retag HCs.out 9,hOk,r2,hlow,fun V hz hV => ?_,fun j hj => hlt j (HRr.out.2.1 j hj),?_,fun j hj => ?_,fun j hj => L1.more_new hj,HRr.out.2.2.2⟩,⟨?_,fun j hj h9 hn => ?_,fun j hj => ?_⟩⟩
   ·refine HRr.out.1 V (by have := hs1.size;omega) fun j hj => (hV j hj).trans ((o2 j (HRr.out.2.2.2 j hj)).trans (hs1.rest j (HRr.out.2.1 j hj) (HRr.out.2.2.1 j hj)))
   ·exact (L1.more_old (hlt pb hpb)).trans hp9
   ·exact (L1.more_old (hlt j (HRr.out.2.1 j hj))).trans ((hs1.kk j (HRr.out.2.1 j hj)).trans (HRr.out.2.2.1 j hj))
   ·have := hs1.size;omega
   ·exact (o2 j hn).trans (hs1.rest j hj h9)
   ·exact (L1.more_old (hlt j hj)).trans (hs1.kk j hj))
  have HD := hid1 (done_calls (w := w2) (es := es) .nilIface 0 (-1) .nil)
  clear HTn HTy hok g1 HRr HR hs1 hy1 hOk r1 r2 o2 e1
  go_wp2_with fail
  refine HD.out.mono ?_
  rintro e w3 ⟨s,rfl,rfl,hv⟩
  have HV := hid1 hv
  clear hv HD
  go_wp2
  go_ret2
  obtain ⟨gb,L2,h2,s2⟩ := HF.out
  exact ⟨s,_,rfl,gb,HV.out,L2,_,R,h2,s2,fun _ h _ => .inr h⟩
theorem spclear_calls (HC : Caches0 es At) {B : Nat} {W : World} {pb yb : Nat} {L : YL} {y : Bf.Yd} {sv : Value} {RS : Nat → Prop} (h : ScAt At B W pb yb L y sv RS) {m : Int} (hB : ScB B W es m) :
  Calls Tryz.prog 53 #[Ptr pb] W (Does es At B W pb yb L RS (Sc.takeY y []) (Sc.takeA [])) := by
 have HT := hid1 ((sptake_calls HC h hB (.slice none 0 0) [] (fun _ => False) ⟨fun V _ _ => RRow.nil V,fun _ hj => hj.elim,fun _ hj => hj.elim,fun _ hj => hj.elim⟩ (by simp) (by simp)).mono fun e w' hd => Does.aheadR (RS := RS) h.bw (Below.refl _ W) hd fun j hj _ => hj.elim id False.elim)
 clear h hB
 generalize Sc.takeY y [] = ty at *
 generalize Sc.takeA [] = ta at *
 go_enter Tryz.func53,Tryz.ntmps53
 go_wp2_with fail
 refine HT.out.mono ?_
 rintro e w1 ⟨t,ev,rfl,hd⟩
 have HD : Hid (Does es At B W pb yb L RS ty ta _ w1) := hid1 ⟨t,ev,rfl,hd⟩
 clear hd HT
 go_wp2
 go_ret2
 exact HD.out
end Go.Proofs.YtdljhggillgpfaaGreatDoor
