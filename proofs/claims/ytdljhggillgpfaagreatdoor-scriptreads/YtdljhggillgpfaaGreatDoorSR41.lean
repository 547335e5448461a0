import Derived.Test.YtdljhggillgpfaaGreatDoorSR40
set_option maxRecDepth 100000
set_option maxHeartbeats 16000000
namespace Go.Proofs.YtdljhggillgpfaaGreatDoor
open Go.RowKit Go.Shelf Go.Lib
variable {es : Nat → Addr} {At : (Nat → Prop) → World → Value → Nat → Cf.Ens → Prop} {BAt : (Nat → Prop) → World → Value → Value → Bf.Bd → Prop}
namespace Bf
noncomputable def Yd.makeP (y : Yd) (outs : List (List UInt8)) : Yd :=
 { y with os := outP y.l (y.made outs).1 ((Ru.order y.l allB1).getD []) y.os,c := (y.made outs).2 }
structure Yd.Ok (y : Yd) : Prop where
 fs : Tf.Well pathB y.fs
 os : Tf.Well pathB y.os
 l : SheetOk y.l
 c : CFit y.c
end Bf
abbrev countV (d : Bf.Bd) : Value := .agg #[.int .i64 (d.ran : Nat),.int .i64 (d.hits : Nat),.int .i64 (d.fails : Nat),.int .i64 (d.lefts : Nat)]
theorem yMake_calls (HC : Caches0 es At) (HB : Builds es Af.actO At BAt) {B : Nat} {W : World} {yb : Nat} {L : YL} {y : Bf.Yd} (h : YdAt At B W yb L y) (hY : YBase B W es) (hok : y.Ok) (ov : Value) (outs : List (List UInt8)) (hov : XRow W ov outs) (hol : outs.length ≤ 1000) (hor : ∀ p ∈ outs,∃ x ∈ y.l,x.out = p) :
  Calls Tryz.prog 72 #[Ptr yb,ov] W fun e w' => e = .returned (.tuple #[countV (y.made outs).1,.nilIface]) ∧ Below B W w' ∧ (∀ j,j < W.heap.size → j ≠ L.ob → L.o2 ≠ some j → ¬ L.SC j → w'.heap[j]? = W.heap[j]?) ∧ ∃ L',L'.tb = L.tb ∧ L'.ob = L.ob ∧ (∀ j,j < W.heap.size → L'.k j = L.k j) ∧ YdAt At B w' yb L' (y.makeP outs) := by
 have h40 := hok.l.len
 obtain ⟨o,ho⟩ := Option.isSome_iff_exists.1 hok.l.some
 have hwl : (Bf.whole y.l outs).length ≤ 1000 := Bf.whole_len (by omega) hol
 have hwr : ∀ p ∈ Bf.whole y.l outs,∃ x ∈ y.l,x.out = p := fun p hp => by
  unfold Bf.whole at hp
  split at hp
  ·obtain ⟨x,hx,e⟩ := List.mem_map.1 hp
   exact ⟨x,hx,e⟩
  ·exact hor p hp
 have hws : ∀ p ∈ Bf.whole y.l outs,p.length ≤ 300 := fun p hp => by
  obtain ⟨x,hx,rfl⟩ := hwr p hp
  have := (hok.l.small x hx).out
  omega
 have hBW : B ≤ W.heap.size := by have := h.low;have := h.lt;omega
 have gA : Below W.heap.size W (W.alloc (.cells #[.int .i64 0,.int .i64 0,.int .i64 0,.int .i64 0] 137)) := (Below.refl _ W).alloc (Nat.le_refl _) _
 have rA := row_newW W (.cells #[.int .i64 0,.int .i64 0,.int .i64 0,.int .i64 0] 137)
 have hsA : (W.alloc (.cells #[.int .i64 0,.int .i64 0,.int .i64 0,.int .i64 0] 137)).heap.size = W.heap.size + 1 := by simp
 have hya := (h.retag HC 9).below HC gA
 have HK9 : Hid (L.more W.heap.size 9 W.heap.size = 9) := hid1 (L.more_new (Nat.le_refl _))
 have HYa := hid1 hya
 have HOu := hid1 (youts_calls hya (by have h1 : y.l.length ≤ 40 := h40;show y.l.length ≤ 1000;omega))
 have HNew := hid1 fun (V : World) (g : Below W.heap.size W V) (v : Value) (hv : XRow V v (Bf.whole y.l outs)) => HB.new V B L.tb y.fs L.o1 L.lv y.l v (Bf.whole y.l outs) L.cv (hY.trans (g.mono hBW)).build.w (h.t.below g) hok.fs.rises (by have := hok.fs.few;omega) (fun f hf => ⟨by have := well_len hok.fs f hf;omega,(hok.fs.each f hf).2⟩) (h.rrow.below g) (by omega) hok.l.small hv hwl hws (by obtain ⟨p,e⟩ := h.cp;exact ⟨_,e⟩)
 have HNt : Hid (∀ (n : Nat) (w : World) (bv ev : Value),NewTells es BAt n y.fs y.l (Bf.whole y.l outs) L.cv w bv ev → ev = .nilIface ∧ ∃ p,bv = .pointer (some p) ∧ ∃ S,BAt S w (.pointer (some p)) L.cv (Bf.init y.fs y.l (Bf.whole y.l outs)) ∧ ∀ k,S k → n ≤ k) := hid1 fun n w bv ev hN => by
  rcases hN with ⟨_,⟨h1,_⟩ | ⟨_,k,hk,h1,_⟩ | ⟨_,_,h1,_⟩⟩ | ⟨_,_,_,h1,⟨p,h2⟩,S,h3,h4⟩
  ·exact absurd hok.l.fine h1
  ·obtain ⟨x,hx,e⟩ := hwr _ (List.getElem_mem hk)
   exact absurd e (h1 x hx)
  ·have := hok.l.part (Bf.whole y.l outs)
   rw [h1] at this
   cases this
  ·exact ⟨h1,p,h2,S,by rw [← h2];exact h3,h4⟩
 have HAll := hid1 fun (V : World) (hV : Below B W V) (S : Nat → Prop) (p : Addr) (hbA : BAt S V (.pointer (some p)) L.cv (Bf.init y.fs y.l (Bf.whole y.l outs))) (hCa : CaAt At L.SC V L.cv y.c) (hap : ∀ j,S j → ¬ L.SC j) (hSB : ∀ j,S j → B ≤ j) => HB.all B S L.SC V p L.cv (Bf.init y.fs y.l (Bf.whole y.l outs)) y.c hbA hCa hap (hY.trans hV).build hSB h.lowC hok.l.fine hok.l.small (Bf.init_fit fun f hf => (hok.fs.each f hf).2) hok.c
 have HMd : Hid (y.made outs = Bf.all Af.actO y.c (Bf.init y.fs y.l (Bf.whole y.l outs))) := hid1 rfl
 rw [← HMd.out] at HAll
 have hdl : (y.made outs).1.l = y.l := by
  rw [HMd.out]
  exact (Bf.allF_keeps actFit _ _ _ (Bf.init_fit fun f hf => (hok.fs.each f hf).2) hok.c).1
 have HLay := hid1 fun (V : World) (hV : Below B W V) (L' : YL) (hy : YdAt At B V yb L' { y with c := (y.made outs).2 }) (S : Nat → Prop) (p : Addr) (hb : BAt S V (.pointer (some p)) L.cv (y.made outs).1) (hSo : ∀ j,S j → j ≠ L'.ob ∧ L'.o2 ≠ some j) => ylay_calls HC HB hy (hY.trans hV) hok.l hok.os hb hdl hSo ho
 have HSwp := hid1 fun (V : World) (hV : Below B W V) (L' : YL) (os : Tf.Fs) (hy : YdAt At B V yb L' { y with c := (y.made outs).2,os := os }) (S : Nat → Prop) (p : Addr) (hb : BAt S V (.pointer (some p)) L.cv (y.made outs).1) (hSo : ∀ j,S j → j ≠ L'.ob ∧ L'.o2 ≠ some j) => ysweep_calls HC HB hy (hY.trans hV) hok.l hb hdl hSo
 have HP : Hid (y.makeP outs = { y with c := (y.made outs).2,os := Bf.sweepW y.l (y.made outs).1 y.l.length (Bf.layW y.l (y.made outs).1 o y.os) }) := hid1 (by unfold Bf.Yd.makeP Bf.outP;rw [ho];rfl)
 rw [HP.out]
 have HSl : Hid (∀ j,L.SC j → j < W.heap.size) := hid1 fun j hj => h.ca.ltG HC j hj
 have HMo : Hid (∀ j,L.o2 = some j → j < W.heap.size) := hid1 fun j e => h.mapo e
 have hobl : L.ob < W.heap.size := h.o.lt
 have HCs := hid1 HC
 have HBs := hid1 HB
 have HRA := hid1 rA
 obtain ⟨pc,ecv⟩ := h.cp
 obtain ⟨pl,cl,elv,-⟩ := h.rrow
 rw [elv,ecv] at HNew
 rw [ecv] at HNt HAll HLay HSwp
 generalize y.made outs = md at *
 obtain ⟨d,c'⟩ := md
 simp only at HAll HLay HSwp hdl ⊢
 have hov0 := hov
 have HOv := hid1 fun (V : World) (g : Below W.heap.size W V) => hov.below g
 obtain ⟨po,co,rfl,-⟩ := hov
 have HLv := hid1 (And.intro elv ecv)
 have hcase : (outs = [] ∧ Bf.whole y.l outs = y.l.map Ru.out) ∨ (outs ≠ [] ∧ Bf.whole y.l outs = outs) := by
  by_cases e : outs = []
  ·exact .inl ⟨e,by unfold Bf.whole;rw [if_pos e]⟩
  ·exact .inr ⟨e,by unfold Bf.whole;rw [if_neg e]⟩
 generalize hWa : W.alloc (.cells #[.int .i64 0,.int .i64 0,.int .i64 0,.int .i64 0] 137) = Wa at *
 have HCase := hid1 hcase
 go_enter Tryz.func72,Tryz.ntmps72
 go_upto_if 11 with fail
 go_cut [1] (fun vo wc => XRow wc vo (Bf.whole y.l outs) ∧ Below Wa.heap.size Wa wc)
 case first =>
  rcases HCase.out with ⟨rfl,hwh⟩ | ⟨hne,hwh⟩
  ·go_wp2_with fail
   refine HOu.out.mono ?_
   rintro e w1 ⟨v1,rfl,hrow,g1⟩
   have HX1 : Hid (XRow w1 v1 (Bf.whole y.l [])) := hid1 (by rw [hwh];exact XRow.of_owns hrow)
   obtain ⟨p1,k1,e1,-⟩ := XRow.of_owns hrow
   rw [List.length_map] at e1
   subst e1
   go_wp2
   go_meet
   case rel => exact ⟨HX1.out,g1⟩
  ·have zo : (0 : Int) < (outs.length : Int) := by have := List.length_pos_iff.2 hne;omega
   have HX1 : Hid (XRow Wa (.slice po outs.length co) (Bf.whole y.l outs)) := hid1 (by rw [hwh];exact HOv.out Wa gA)
   go_wp2
   go_meet
   case rel => exact ⟨HX1.out,Below.refl _ _⟩
 case rest =>
  obtain ⟨hX1,g1⟩ := hcut
  obtain ⟨w1,hw1⟩ : ∃ w1,w1 = wc := ⟨_,rfl⟩
  subst hw1
  have HX1 := hid1 hX1
  obtain ⟨p1,k1,e1,-⟩ := hX1
  subst e1
  have G1a := below_then gA g1
  have y1 := HYa.out.below HCs.out g1
  have q0 := y1.c0
  have q2 := y1.c2
  have q3 := y1.c3
  have r1 := row_below HRA.out g1
  simp only at q0 q2 q3
  rw [HLv.out.1] at q2
  rw [HLv.out.2] at q3
  have HY1 := hid1 y1
  have HR1 := hid1 r1
  have z1 := g1.size
  go_wp2
  go_region_held3 (fun w' => w'.cell? ⟨yb,0,none⟩ = some (Ptr L.tb) ∧ w'.cell? ⟨yb,2,none⟩ = some (.slice pl y.l.length cl) ∧ w'.cell? ⟨yb,3,none⟩ = some (.pointer (some pc))) (first | go_keep | fail)
   (first
    | (go_at_call 108;refine (HNew.out _ (by exact G1a.drew) _ (by exact HX1.out.below (Below.refl w1.heap.size w1).drew)).mono ?_;rintro e w2 ⟨bv,ev,rfl,g2,hN⟩;(have r0 := cell_below' (show w1.drew.cell? _ = _ from q0) g2);(have r2 := cell_below' (show w1.drew.cell? _ = _ from q2) g2);(have r3 := cell_below' (show w1.drew.cell? _ = _ from q3) g2);(obtain ⟨rfl,pb,rfl,hS⟩ := HNt.out _ _ _ _ hN))
    | fail)
  all_goals
   obtain ⟨S,hbA,hSn⟩ := hS
   have g12 : Below w1.heap.size w1 w2 := below_then (Below.refl w1.heap.size w1).drew g2
   have hSn' : ∀ j,S j → w1.heap.size ≤ j := hSn
   have G2 := below_then G1a g12
   have y2 := HY1.out.below HCs.out g12
   have z2 := g12.size
   have HSn := hid1 hSn'
   have HA2 := hid1 (HAll.out w2 (G2.mono hBW) S pb hbA (by have h2 := y2.ca;rw [HLv.out.2] at h2;exact h2) (fun j h1 h2 => by have h3 := hSn' j h1;have h4 := HSl.out j h2;omega) (fun j h1 => by have h3 := hSn' j h1;omega))
   have HR2 := hid1 (row_below HR1.out g12)
   have HG12 := hid1 g12
   go_wp2_with fail
   refine HA2.out.mono ?_
   rintro e w3 ⟨rfl,hO3,S',SC',hB3,hC3,hap3,hS3,hT3⟩
   have hB3l := HBs.out.lt _ _ _ _ _ hB3
   have z3 := hO3.size
   have hnq : ¬ (S W.heap.size ∨ L.SC W.heap.size) := fun e => by
    rcases e with e | e
    ·have := HSn.out _ e;omega
    ·have := HSl.out _ e;omega
   have r3 : w3.heap[W.heap.size]? = some (.cells #[.int .i64 0,.int .i64 0,.int .i64 0,.int .i64 0] 137 (0,0)) := (hO3.block W.heap.size (by omega) hnq).trans HR2.out
   have y3 := HY1.out.cached (c := c') (SC := SC') (by have h2 := hC3;rw [← HLv.out.2] at h2;exact h2) (by omega) (fun j hj hn => (hO3.block j (by omega) (fun e => e.elim (fun e => by have h3 := HSn.out j e;omega) hn)).trans (HG12.out.block j hj)) (fun j hj => (hT3 j hj).imp_right fun h => by omega) (fun j hj => by have h4 := HSl.out j hj;omega)
   have B3 : Below B W w3 := (G2.mono hBW).trans (hO3.below (fun j hj => by
    rcases hj with h5 | h5
    ·have h3 := HSn.out j h5;omega
    ·exact HY1.out.lowC j h5) (by omega))
   have gB : Below w3.heap.size w3 (w3.alloc (.cells #[.int .i64 (d.ran : Nat),.int .i64 (d.hits : Nat),.int .i64 (d.fails : Nat),.int .i64 (d.lefts : Nat)] 137)) := (Below.refl _ w3).alloc (Nat.le_refl _) _
   have rB := row_newW w3 (.cells #[.int .i64 (d.ran : Nat),.int .i64 (d.hits : Nat),.int .i64 (d.fails : Nat),.int .i64 (d.lefts : Nat)] 137)
   have y4 := y3.below HCs.out gB
   have HRs := hid1 fun (j : Nat) (hj : j < W.heap.size) (hn : ¬ L.SC j) => (gB.block j (by omega)).trans ((hO3.block j (by omega) (fun e => e.elim (fun e => by have := HSn.out j e;omega) hn)).trans (G2.block j hj))
   have B4 := B3.trans (gB.mono (by omega))
   have hb4 := HBs.out.same _ _ _ _ _ _ hB3 gB.size fun k hk => gB.block k (hB3l k hk)
   have hS4 : ∀ j,S' j → j ≠ L.ob ∧ L.o2 ≠ some j := fun j hj => by
    have h6 : W.heap.size ≤ j := by
     rcases hS3 j hj with h | h
     ·have := HSn.out j h;omega
     ·omega
    exact ⟨by omega,fun e => by have := HMo.out j e;omega⟩
   have HLy := hid1 (HLay.out _ B4 _ y4 S' pb hb4 hS4)
   have HRB := hid1 rB
   have HR4 := hid1 (row_below r3 gB)
   have HB4 := hid1 B4
   have hk4 : (if W.heap.size < w1.heap.size then L.more W.heap.size 9 W.heap.size else 3) = 9 := by rw [if_pos (by omega)];exact HK9.out
   have HK4 := hid1 hk4
   have z4 : w3.heap.size < (w3.alloc (.cells #[.int .i64 (d.ran : Nat),.int .i64 (d.hits : Nat),.int .i64 (d.fails : Nat),.int .i64 (d.lefts : Nat)] 137)).heap.size := by simp
   generalize hw4 : w3.alloc (.cells #[.int .i64 (d.ran : Nat),.int .i64 (d.hits : Nat),.int .i64 (d.fails : Nat),.int .i64 (d.lefts : Nat)] 137) = w4 at *
   go_wp2_with fail
   refine HLy.out.mono ?_
   rintro e w5 ⟨rfl,L5,hL5⟩
   have HL5 := hid1 hL5
   have HSw := hid1 (HSwp.out w5 (HB4.out.trans hL5.base) L5 _ hL5.yard S' pb hL5.build hL5.apart)
   go_wp2_with fail
   refine HSw.out.mono ?_
   rintro e w6 ⟨rfl,L6,hL6⟩
   have z5 := HL5.out.size
   have z6 := hL6.size
   have hno : ∀ q,W.heap.size ≤ q → q < w4.heap.size → w6.heap[q]? = w4.heap[q]? := fun q h1 h2 => by
    refine (hL6.rest q (by omega) ?_ ?_).trans (HL5.out.rest q h2 (fun e => by have e' : q = L.ob := e;omega) fun e => by have := HMo.out q e;omega)
    ·intro e
     have e' : q = L.ob := e.trans HL5.out.ob
     omega
    ·intro e
     rcases HL5.out.o2 q e with h | h
     ·have := HMo.out q h;omega
     ·omega
   have rr := (hno W.heap.size (Nat.le_refl _) (by omega)).trans HR4.out
   have rc := (hno w3.heap.size (by omega) z4).trans HRB.out
   have s0 := cell_of_row (j := 0) rc rfl
   have s1 := cell_of_row (j := 1) rc rfl
   have s2 := cell_of_row (j := 2) rc rfl
   have s3 := cell_of_row (j := 3) rc rfl
   have u0 := cell_of_row (j := 0) rr rfl
   have u1 := cell_of_row (j := 1) rr rfl
   have u2 := cell_of_row (j := 2) rr rfl
   have u3 := cell_of_row (j := 3) rr rfl
   have f0 : w6.frozen? ⟨W.heap.size,0,none⟩ = false := by simp [World.frozen?,rr]
   have f1 : w6.frozen? ⟨W.heap.size,1,none⟩ = false := by simp [World.frozen?,rr]
   have f2 : w6.frozen? ⟨W.heap.size,2,none⟩ = false := by simp [World.frozen?,rr]
   have f3 : w6.frozen? ⟨W.heap.size,3,none⟩ = false := by simp [World.frozen?,rr]
   have qq := hid1 (four_cells u0 u1 u2 u3 (.int .i64 (d.ran : Nat)) (.int .i64 (d.hits : Nat)) (.int .i64 (d.fails : Nat)) (.int .i64 (d.lefts : Nat)))
   have HK6 : Hid (L6.k W.heap.size = 9) := hid1 (by
    rw [hL6.kk _ (by omega),HL5.out.kk _ (by omega)]
    exact HK4.out)
   have HKk : Hid (∀ j,j < W.heap.size → L6.k j = L.k j) := hid1 fun j hj => by
    rw [hL6.kk j (by omega),HL5.out.kk j (by omega)]
    show (if j < w1.heap.size then L.more W.heap.size 9 j else 3) = _
    rw [if_pos (by omega)]
    exact L.more_old hj
   have HL6 := hid1 hL6
   have HRt := hid1 fun (j : Nat) (hj : j < W.heap.size) (h1 : j ≠ L.ob) (h2 : L.o2 ≠ some j) (h3 : ¬ L.SC j) => (hL6.rest j (by omega) (fun e => h1 (e.trans HL5.out.ob)) (fun e => (HL5.out.o2 j e).elim h2 (fun h => by omega))).trans ((HL5.out.rest j (by omega) h1 h2).trans (HRs.out j hj h3))
   go_wp2
   have b7 : Below B W ((((w6.setCell ⟨W.heap.size,0,none⟩ (.int .i64 (d.ran : Nat))).setCell ⟨W.heap.size,1,none⟩ (.int .i64 (d.hits : Nat))).setCell ⟨W.heap.size,2,none⟩ (.int .i64 (d.fails : Nat))).setCell ⟨W.heap.size,3,none⟩ (.int .i64 (d.lefts : Nat))) := ((((HB4.out.trans (HL5.out.base.trans HL6.out.base)).setCell (p := ⟨W.heap.size,0,none⟩) hBW _).setCell (p := ⟨W.heap.size,1,none⟩) hBW _).setCell (p := ⟨W.heap.size,2,none⟩) hBW _).setCell (p := ⟨W.heap.size,3,none⟩) hBW _
   have k7 : Kept (fun j => L6.k j = 9) w6 ((((w6.setCell ⟨W.heap.size,0,none⟩ (.int .i64 (d.ran : Nat))).setCell ⟨W.heap.size,1,none⟩ (.int .i64 (d.hits : Nat))).setCell ⟨W.heap.size,2,none⟩ (.int .i64 (d.fails : Nat))).setCell ⟨W.heap.size,3,none⟩ (.int .i64 (d.lefts : Nat))) := ((((Kept.refl _ w6).setCell (p := ⟨W.heap.size,0,none⟩) HK6.out _).setCell (p := ⟨W.heap.size,1,none⟩) HK6.out _).setCell (p := ⟨W.heap.size,2,none⟩) HK6.out _).setCell (p := ⟨W.heap.size,3,none⟩) HK6.out _
   have k8 : Kept (fun j => j = W.heap.size) w6 ((((w6.setCell ⟨W.heap.size,0,none⟩ (.int .i64 (d.ran : Nat))).setCell ⟨W.heap.size,1,none⟩ (.int .i64 (d.hits : Nat))).setCell ⟨W.heap.size,2,none⟩ (.int .i64 (d.fails : Nat))).setCell ⟨W.heap.size,3,none⟩ (.int .i64 (d.lefts : Nat))) := ((((Kept.refl (fun j => j = W.heap.size) w6).setCell (p := ⟨W.heap.size,0,none⟩) rfl _).setCell (p := ⟨W.heap.size,1,none⟩) rfl _).setCell (p := ⟨W.heap.size,2,none⟩) rfl _).setCell (p := ⟨W.heap.size,3,none⟩) rfl _
   refine bodyPost_ret (v := .tuple #[countV d,.nilIface]) ?_ rfl ⟨rfl,b7,fun j hj h1 h2 h3 => (k8.block j (by omega) (fun e => by omega)).trans (HRt.out j hj h1 h2 h3),L6,HL6.out.tb.trans HL5.out.tb,HL6.out.ob.trans HL5.out.ob,HKk.out,HL6.out.yard.aside HCs.out k7⟩
   obtain ⟨t0,t1,t2,t3⟩ := qq.out
   simp [results,Tryz.f72,go_sem,t0,t1,t2,t3]
end Go.Proofs.YtdljhggillgpfaaGreatDoor
namespace Go.Proofs.YtdljhggillgpfaaGreatDoor
open Go.RowKit Go.Shelf Go.Lib
namespace Sc
open Bf
def takeA (l : List Ru) : An := if (Ru.fault l).1 ≠ 0 then ([],(Ru.fault l).1) else if (Ru.order l allB1).isSome then (ok,0) else ([],9)
def takeY (y : Yd) (l : List Ru) : Yd := if (takeA l).2 = 0 then { y with l := l } else y
def counts (d : Bd) : List UInt8 := Lib.decDigits d.ran ++ 32 :: (Lib.decDigits d.hits ++ 32 :: (Lib.decDigits d.fails ++ 32 :: Lib.decDigits d.lefts))
def allOuts (l : List Ru) (outs : List (List UInt8)) : Bool := outs.all fun p => l.any fun x => x.out == p
theorem allOuts_iff {l : List Ru} {outs : List (List UInt8)} : allOuts l outs = true ↔ ∀ p ∈ outs,∃ x ∈ l,x.out = p := by simp [allOuts]
noncomputable def makeY (y : Yd) (outs : List (List UInt8)) : Yd := if allOuts y.l outs then y.makeP outs else y
noncomputable def makeA (y : Yd) (outs : List (List UInt8)) : An := if allOuts y.l outs then (counts (y.made outs).1,0) else ([],6)
def showA (y : Yd) (p : List UInt8) : An := match Tf.get y.os p with
 | some b => (inLine b,0)
 | none => match Tf.get y.fs p with
  | some b => (inLine b,0)
  | none => ([],6)
noncomputable def wantA (y : Yd) (p : List UInt8) : An :=
 if y.l.any fun x => x.out == p then if (want Af.actO y.fs y.l p).2 = 0 then (inLine (want Af.actO y.fs y.l p).1,0) else ([],(want Af.actO y.fs y.l p).2) else ([],6)
def orderL (l : List Ru) : List (List UInt8) := ((Ru.order l allB1).getD []).map fun i => (l.getD i ⟨[],[],[],[]⟩).out
open Classical in
noncomputable def leavesL (l : List Ru) : List (List UInt8) := if h : ∃ r,Ru.Leaves l r then h.choose else []
theorem leaves_eq {l : List Ru} {r : List (List UInt8)} (h : Ru.Leaves l r) : r = leavesL l := by
 have e : ∃ r,Ru.Leaves l r := ⟨r,h⟩
 unfold leavesL
 rw [dif_pos e]
 exact h.unique e.choose_spec
def ruleA (y : Yd) (s : List UInt8) : An :=
 if (Rd.fault (s ++ [10])).1 ≠ 0 then ([],(Rd.fault (s ++ [10])).1)
 else if (Rd.rules (Rd.lines (s ++ [10]))).length = 1 then takeA (y.l ++ Rd.rules (Rd.lines (s ++ [10]))) else ([],1)
def ruleY (y : Yd) (s : List UInt8) : Yd := if (ruleA y s).2 = 0 then { y with l := y.l ++ Rd.rules (Rd.lines (s ++ [10])) } else y
def putT (s : List UInt8) : List UInt8 := Lib.replaceAll (Lib.cut s [32]).2.1 [59] [10]
def putA (y : Yd) (s : List UInt8) : An :=
 if (Lib.cut s [32]).2.2 = false ∨ pathB (Lib.cut s [32]).1 = false then ([],1)
 else (if Tf.putCode pathB y.fs (Lib.cut s [32]).1 (putT s) = 0 then ok else [],Tf.putCode pathB y.fs (Lib.cut s [32]).1 (putT s))
def putY (y : Yd) (s : List UInt8) : Yd :=
 if (Lib.cut s [32]).2.2 = false ∨ pathB (Lib.cut s [32]).1 = false then y else { y with fs := Tf.putF pathB y.fs (Lib.cut s [32]).1 (putT s) }
noncomputable def aloneA (y : Yd) (n : List UInt8) : An :=
 if n = [99,108,101,97,114] then takeA []
 else if n = [109,97,107,101] then makeA y []
 else if n = [115,116,97,108,101] then (row (stale y.fs y.os y.l),0)
 else if n = [111,114,100,101,114] then (row (orderL y.l),0)
 else if n = [108,101,97,118,101,115] then (row (leavesL y.l),0)
 else if n = [102,105,108,101,115] then (row (y.fs.map Prod.fst),0)
 else ([],1)
noncomputable def aloneY (y : Yd) (n : List UInt8) : Yd :=
 if n = [99,108,101,97,114] then takeY y [] else if n = [109,97,107,101] then makeY y [] else y
noncomputable def ofA (y : Yd) (n s : List UInt8) : An :=
 if n = [112,117,116] then putA y s
 else if n = [114,117,108,101] then ruleA y s
 else if n = [109,97,107,101] then if (cutB 32 s).all pathB then makeA y (cutB 32 s) else ([],1)
 else if n = [100,114,111,112] then if pathB s then (if Tf.hasP y.fs s then (ok,0) else ([],6)) else ([],1)
 else if n = [115,104,111,119] then if pathB s then showA y s else ([],1)
 else if n = [119,97,110,116] then if pathB s then wantA y s else ([],1)
 else ([],1)
noncomputable def ofY (y : Yd) (n s : List UInt8) : Yd :=
 if n = [112,117,116] then putY y s
 else if n = [114,117,108,101] then ruleY y s
 else if n = [109,97,107,101] then if (cutB 32 s).all pathB then makeY y (cutB 32 s) else y
 else if n = [100,114,111,112] then if pathB s then { y with fs := Tf.del y.fs s } else y
 else y
noncomputable def ans (y : Yd) (s : List UInt8) : List UInt8 :=
 told (if (Lib.cut s [32]).2.2 then ofA y (Lib.cut s [32]).1 (Lib.cut s [32]).2.1 else aloneA y (Lib.cut s [32]).1)
noncomputable def step (y : Yd) (s : List UInt8) : Yd :=
 if (Lib.cut s [32]).2.2 then ofY y (Lib.cut s [32]).1 (Lib.cut s [32]).2.1 else aloneY y (Lib.cut s [32]).1
noncomputable def run (y : Yd) : List (List UInt8) → Yd
 | [] => y
 | v :: r => run (step y v) r
noncomputable def answers (y : Yd) : List (List UInt8) → List (List UInt8)
 | [] => []
 | v :: r => ans y v :: answers (step y v) r
theorem run_snoc : ∀ (a : List (List UInt8)) (y : Yd) (v : List UInt8),run y (a ++ [v]) = step (run y a) v
 | [],_,_ => rfl
 | x :: r,y,v => run_snoc r (step y x) v
theorem answers_snoc : ∀ (a : List (List UInt8)) (y : Yd) (v : List UInt8),answers y (a ++ [v]) = answers y a ++ [ans (run y a) v]
 | [],_,_ => rfl
 | x :: r,y,v => by
  show ans y x :: answers (step y x) (r ++ [v]) = _
  rw [answers_snoc r]
  rfl
theorem answers_len : ∀ (a : List (List UInt8)) (y : Yd),(answers y a).length = a.length
 | [],_ => rfl
 | x :: r,y => by
  show (answers (step y x) r).length + 1 = _
  rw [answers_len r]
  rfl
def y0 : Yd := ⟨[],[],[],some (8,[])⟩
end Sc
end Go.Proofs.YtdljhggillgpfaaGreatDoor
namespace Go.Proofs.YtdljhggillgpfaaGreatDoor
namespace Lb
abbrev fs : Tf.Fs := [([97],[120])]
abbrev r : Ru := ⟨[98],[117,112,112,101,114],[],[[97]]⟩
abbrev l : List Ru := [r]
abbrev outs : List (List UInt8) := [[98]]
abbrev key : List UInt8 := Kp.key [117,112,112,101,114] [] [[120]]
abbrev d : Bf.Bd := ⟨fs,l,fun k => if k = 0 then .waits else .no⟩
theorem needs0 (i k : Nat) : Ru.needs l i k = false := by
 cases hn : Ru.needs l i k with
 | false => rfl
 | true =>
  obtain ⟨h1,h2⟩ := Ru.needs_lt hn
  obtain rfl : i = 0 := by simp at h1;omega
  obtain rfl : k = 0 := by simp at h2;omega
  have : Ru.needs l 0 0 = false := by decide
  rw [this] at hn
  cases hn
theorem needed : Ru.Needed l outs (fun k => decide (k = 0)) := by
 have hb : Ru.base l outs 0 = true := by decide
 refine ⟨fun k hk => ?_,fun i k _ h => ?_,fun P h1 _ k hk h => ?_⟩
 ·cases k with
  | zero => rfl
  | succ k =>
   simp [Ru.base] at hk
 ·rw [needs0] at h
  cases h
 ·obtain rfl : k = 0 := by simp at hk;omega
  exact h1 0 hb
theorem need0 : Bf.need l outs 0 = true := by
 rw [Bf.need_eq needed (by decide)]
 rfl
theorem init0 : Bf.init fs l outs = d := by
 unfold Bf.init
 congr 1
 funext k
 by_cases h : k = 0
 ·subst h
  rw [need0]
  rfl
 ·rw [Bf.need_out (by simp;omega)]
  simp [h]
theorem order0 : (Ru.order l (Bf.need l outs)).isSome = true := by
 rw [Ru.order_congr2 (g := fun k => decide (k = 0)) fun k hk => Bf.need_eq needed hk]
 decide
theorem act0 : Af.actO [117,112,112,101,114] [] [[120]] = ([88],0) := by decide
end Lb
end Go.Proofs.YtdljhggillgpfaaGreatDoor
namespace Go.Proofs.YtdljhggillgpfaaGreatDoor
namespace Bf
theorem made_eq (y : Yd) : y.made [] = all Af.actO y.c (init y.fs y.l (y.l.map Ru.out)) := by
 unfold Yd.made whole
 rw [if_pos rfl]
end Bf
end Go.Proofs.YtdljhggillgpfaaGreatDoor
namespace Go.Proofs.YtdljhggillgpfaaGreatDoor
open Go.RowKit Go.Shelf Go.Lib
namespace Sc
def names : List (List UInt8) := [[112,117,116],[100,114,111,112],[114,117,108,101],[99,108,101,97,114],[109,97,107,101],[115,104,111,119],[119,97,110,116],[115,116,97,108,101],[111,114,100,101,114],[108,101,97,118,101,115],[102,105,108,101,115]]
theorem cut_head (s : List UInt8) : (∃ r,cutB 32 s = (Lib.cut s [32]).1 :: r) ∧ ((Lib.cut s [32]).1 ≠ s → (Lib.cut s [32]).2.2 = true) := by
 unfold Lib.cut
 rw [Lib.index_one]
 by_cases hm : Lib.indexByte s 32 = -1
 ·rw [cutB_none 32 s hm,hm]
  simp
 ·have hge := Lib.indexByte_ge s 32
  obtain ⟨i,hi⟩ : ∃ i : Nat,Lib.indexByte s 32 = (i : Int) := ⟨(Lib.indexByte s 32).toNat,by omega⟩
  obtain ⟨e1,-⟩ := cutB_some 32 s i hi
  rw [e1,hi]
  simp
theorem ans_none {y : Bf.Yd} {s : List UInt8} (h : (Lib.cut s [32]).1 ∉ names) : ans y s = errT 1 := by
 unfold ans
 generalize Lib.cut s [32] = c at *
 obtain ⟨n,w,is⟩ := c
 simp only [names,List.mem_cons,List.not_mem_nil,or_false,not_or] at h
 obtain ⟨h0,h1,h2,h3,h4,h5,h6,h7,h8,h9,h10⟩ := h
 have e1 : ofA y n w = ([],1) := by unfold ofA;rw [if_neg h0,if_neg h2,if_neg h4,if_neg h1,if_neg h5,if_neg h6]
 have e2 : aloneA y n = ([],1) := by unfold aloneA;rw [if_neg h3,if_neg h4,if_neg h7,if_neg h8,if_neg h9,if_neg h10]
 simp only [e1,e2,ite_self]
 rfl
theorem ans_tail {y : Bf.Yd} {s : List UInt8} {k : Nat} (hk : k < names.length) (h7 : 6 < k) (h : names[k] = (Lib.cut s [32]).1) (hne : (Lib.cut s [32]).1 ≠ s) : ans y s = errT 1 := by
 have hi := (cut_head s).2 hne
 unfold ans
 generalize Lib.cut s [32] = c at *
 obtain ⟨n,w,is⟩ := c
 simp only at h hi hne
 subst hi
 have hk' : k < 11 := hk
 have : k = 7 ∨ k = 8 ∨ k = 9 ∨ k = 10 := by omega
 rcases this with rfl | rfl | rfl | rfl <;> (subst h;simp only [if_true];rfl)
theorem answers_get : ∀ (l : List (List UInt8)) (y : Bf.Yd) (i : Nat) (h : i < l.length) (h' : i < (answers y l).length),(answers y l)[i] = ans (run y (l.take i)) l[i]
 | [],_,_,h,_ => by simp at h
 | x :: r,y,0,_,_ => rfl
 | x :: r,y,i + 1,h,h' => by
  have := answers_get r (step y x) i (by simpa using h) (by simpa [answers] using h')
  simpa [answers,run] using this
end Sc
namespace Lh
abbrev ln1 : List UInt8 := [112,117,116,32,97,32,120,59,121]
abbrev ln2 : List UInt8 := [114,117,108,101,32,98,32,61,32,117,112,112,101,114,32,97]
abbrev ln3 : List UInt8 := [109,97,107,101]
abbrev ln4 : List UInt8 := [115,104,111,119,32,98]
abbrev fs : Tf.Fs := [([97],[120,10,121])]
abbrev key : List UInt8 := Kp.key [117,112,112,101,114] [] [[120,10,121]]
abbrev d : Bf.Bd := ⟨fs,Lb.l,fun k => if k = 0 then .waits else .no⟩
abbrev d1 : Bf.Bd := d.set 0 (.done [88,10,89] false)
abbrev y1 : Bf.Yd := ⟨fs,[],[],some (8,[])⟩
abbrev y2 : Bf.Yd := ⟨fs,[],Lb.l,some (8,[])⟩
theorem step1 : Sc.step Sc.y0 ln1 = y1 := by kernel_rfl
theorem ans1 : Sc.ans Sc.y0 ln1 = Sc.ok := by kernel_rfl
theorem step2 : Sc.step y1 ln2 = y2 := by kernel_rfl
theorem ans2 : Sc.ans y1 ln2 = Sc.ok := by kernel_rfl
theorem init0 : Bf.init fs Lb.l Lb.outs = d := by
 unfold Bf.init
 congr 1
 funext k
 by_cases h : k = 0
 ·subst h
  rw [Lb.need0]
  rfl
 ·rw [Bf.need_out (by simp;omega)]
  simp [h]
theorem act0 : Af.actO [117,112,112,101,114] [] [[120,10,121]] = ([88,10,89],0) := by decide
theorem go1 : Bf.go Af.actO (some (8,[])) d 0 = ⟨false,0,d1,some (8,[(key,[88,10,89])])⟩ := by
 unfold Bf.go
 have e1 : d.ins 0 = some [[120,10,121]] := by decide
 have e2 : d.rule 0 = Lb.r := rfl
 rw [e1]
 simp only [e2]
 have e3 : Bf.cfind (some (8,[])) (Kp.key Lb.r.kind Lb.r.word [[120,10,121]]) = none := rfl
 rw [e3]
 simp only
 rw [act0,if_pos rfl]
 rfl
theorem made : y2.made [] = (d1,some (8,[(key,[88,10,89])])) := by
 rw [Bf.made_eq,show y2.l.map Ru.out = Lb.outs from rfl,show Bf.init y2.fs y2.l Lb.outs = d from init0]
 have hr : d.ready = [0] := by decide
 have hw : d.waits = 1 := by decide
 have hr1 : d1.ready = [] := by decide
 unfold Bf.all
 rw [hw]
 unfold Bf.allF
 rw [hr]
 simp only
 rw [go1]
 simp only
 unfold Bf.allF
 rw [hr1]
theorem order0 : (Ru.order Lb.l allB1).getD [] = [0] := by decide
theorem digits : Lib.decDigits 1 = [49] ∧ Lib.decDigits 0 = [48] := by
 constructor <;> (unfold Lib.decDigits;rfl)
theorem ans3 : Sc.ans y2 ln3 = [49,32,48,32,48,32,48] := by
 show Sc.told (Sc.makeA y2 []) = _
 have e : Sc.makeA y2 [] = (Sc.counts d1,0) := by
  unfold Sc.makeA
  rw [if_pos (show Sc.allOuts y2.l [] = true from rfl),made]
 rw [e]
 show Sc.counts d1 = _
 unfold Sc.counts
 rw [show d1.ran = 1 by decide,show d1.hits = 0 by decide,show d1.fails = 0 by decide,show d1.lefts = 0 by decide,digits.1,digits.2]
 rfl
theorem step3 : Sc.step y2 ln3 = y2.makeP [] := by
 show Sc.makeY y2 [] = _
 unfold Sc.makeY
 rw [if_pos (show Sc.allOuts y2.l [] = true from rfl)]
theorem os : (y2.makeP []).os = [([98],[88,10,89])] := by
 unfold Bf.Yd.makeP
 rw [made]
 show Bf.outP Lb.l d1 ((Ru.order Lb.l allB1).getD []) [] = _
 rw [order0]
 kernel_rfl
theorem ans4 : Sc.ans (y2.makeP []) ln4 = [88,59,89] := by
 have e : Sc.ans (y2.makeP []) ln4 = Sc.told (Sc.showA (y2.makeP []) [98]) := by
  have hc : Lib.cut ln4 [32] = ([115,104,111,119],[98],true) := by kernel_rfl
  have hp : pathB [98] = true := by rw [pathB_R];decide
  unfold Sc.ans
  rw [hc]
  show Sc.told (Sc.ofA (y2.makeP []) [115,104,111,119] [98]) = _
  unfold Sc.ofA
  rw [if_neg (by decide),if_neg (by decide),if_neg (by decide),if_neg (by decide),if_pos rfl,if_pos hp]
 rw [e]
 unfold Sc.showA
 rw [os]
 rfl
theorem answers : Sc.answers Sc.y0 [ln1,ln2,ln3,ln4] = [Sc.ok,Sc.ok,[49,32,48,32,48,32,48],[88,59,89]] := by
 show [Sc.ans Sc.y0 ln1,Sc.ans (Sc.step Sc.y0 ln1) ln2,Sc.ans (Sc.step (Sc.step Sc.y0 ln1) ln2) ln3,Sc.ans (Sc.step (Sc.step (Sc.step Sc.y0 ln1) ln2) ln3) ln4] = _
 rw [step1,step2,step3,ans1,ans2,ans3,ans4]
theorem fit : ∀ x ∈ [ln1,ln2,ln3,ln4],x.length ≤ 900 := by decide
end Lh
end Go.Proofs.YtdljhggillgpfaaGreatDoor
namespace Go.Proofs.YtdljhggillgpfaaGreatDoor
open Go.RowKit Go.Shelf Go.Lib
theorem errString_calls (b : Nat) (o : Nat) (s : ByteArray) (w : World) (h : w.cell? ⟨b,o,none⟩ = some (.string s)) :
  Calls Tryz.prog 359 #[.pointer (some ⟨b,o,none⟩)] w fun e w' => e = .returned (.string s) ∧ w' = w := by
 go_enter Tryz.func359,Tryz.ntmps359
 go_wp2
 go_ret
 exact ⟨rfl,rfl⟩
theorem Tryz.methodErrorS (v : Value) (w : World) : (Go.method 496 357 v "Error").run Tryz.prog w = .ok (359, v) w := by kernel_rfl
theorem textOf_bare {w : World} {es : Nat → Addr} (hE : ES w es) (hT : ErTx w es) (k : Nat) (hk : k < 12) :
  Calls Tryz.prog 26 #[erOf es (k + 1)] w fun e w' => e = .returned (.string (ba (Sc.errT (k + 1)))) ∧ Below w.heap.size w w' := by
 have hB0 : Below w.heap.size w (w.alloc (.cells #[.pointer none] 64)) := (Below.refl _ w).alloc (Nat.le_refl _) _
 have hE0 := hE.below hB0
 obtain ⟨b,o,ek,hc⟩ := hT.cell k hk
 have hM := Tryz.methodErrorS
 simp only [erOf]
 rw [ek]
 generalize ba (Sc.errT (k + 1)) = s at *
 clear hE hT ek
 have HA := hid1 (as_miss ⟨b,o,none⟩ ⟨w.heap.size,0,none⟩ _ hE0.t)
 go_enter Tryz.func26,Tryz.ntmps26
 go_wp2_with fail
 refine HA.out.mono ?_
 rintro e w1 ⟨rfl,g1⟩
 have G1 := below_then hB0 g1
 have HS := hid1 (errString_calls b o s w1 (cell_below' hc G1))
 clear HA hE0 g1 hB0
 go_wp2_with fail
 refine HS.out.mono ?_
 rintro e w2 ⟨rfl,rfl⟩
 go_wp2
 go_ret
 exact ⟨rfl,G1⟩
theorem textOf_fault {w : World} {es : Nat → Addr} (hE : ES w es) (hT : ErTx w es) (k : Nat) (hk : k < 12) (pb : Nat) (h1 : w.cell? ⟨pb,1,none⟩ = some (erOf es (k + 1))) :
  Calls Tryz.prog 26 #[.iface 64 (.pointer (some ⟨pb,0,none⟩))] w fun e w' => e = .returned (.string (ba (Sc.errT (k + 1)))) ∧ Below w.heap.size w w' := by
 have hB0 : Below w.heap.size w (w.alloc (.cells #[.pointer none] 64)) := (Below.refl _ w).alloc (Nat.le_refl _) _
 have hE0 := hE.below hB0
 obtain ⟨b,o,ek,hc⟩ := hT.cell k hk
 have hM := Tryz.methodErrorS
 simp only [erOf] at h1
 rw [ek] at h1
 generalize ba (Sc.errT (k + 1)) = s at *
 clear hE hT ek
 go_enter Tryz.func26,Tryz.ntmps26
 go_wp2_with fail
 refine (as_hit ⟨pb,0,none⟩ ⟨w.heap.size,0,none⟩ (.pointer none) _ hE0.t (by simp) (by simp)).mono ?_
 rintro e w1 ⟨rfl,hw1⟩
 have hB1 : Below w.heap.size w w1 := by
  rw [hw1]
  exact (((((hB0.alloc (by simp) _).alloc (by simp;omega) _).alloc (by simp;omega) _).alloc (by simp;omega) _).setCell (p := ⟨w.heap.size,0,none⟩) (Nat.le_refl _) _)
 have hc1 : w1.cell? ⟨w.heap.size,0,none⟩ = some (.pointer (some ⟨pb,0,none⟩)) := by
  rw [hw1]
  refine World.cell?_setCell_same' _ _ _ ?_
  rw [World.cell?_alloc_lt _ _ ⟨w.heap.size,0,none⟩ (by simp;omega),World.cell?_alloc_lt _ _ ⟨w.heap.size,0,none⟩ (by simp;omega),World.cell?_alloc_lt _ _ ⟨w.heap.size,0,none⟩ (by simp;omega),World.cell?_alloc_lt _ _ ⟨w.heap.size,0,none⟩ (by simp)]
  simp
 clear hw1
 have g1 := cell_below h1 hB1
 have HS := hid1 (errString_calls b o s w1 (cell_below' hc hB1))
 clear hE0 hB0 h1
 go_wp2_with fail
 refine HS.out.mono ?_
 rintro e w2 ⟨rfl,rfl⟩
 go_wp2
 go_ret
 exact ⟨rfl,hB1⟩
theorem textOf_calls {w : World} {es : Nat → Addr} (hE : ES w es) (hT : ErTx w es) (ev : Value) (f : Nat × Int) (h : ErrV w es ev f) (hf : f.1 ≠ 0) :
  Calls Tryz.prog 26 #[ev] w fun e w' => e = .returned (.string (ba (Sc.errT f.1))) ∧ Below w.heap.size w w' := by
 rcases h with ⟨_,rfl,h12⟩ | ⟨pb,k,rfl,hk,e,_,h2⟩
 ·obtain ⟨k,hk⟩ : ∃ k,f.1 = k + 1 := ⟨f.1 - 1,by omega⟩
  rw [hk]
  exact textOf_bare hE hT k (by omega)
 ·rw [e] at h2 ⊢
  exact textOf_fault hE hT k hk pb h2
end Go.Proofs.YtdljhggillgpfaaGreatDoor
namespace Go.Proofs.YtdljhggillgpfaaGreatDoor
open Go.RowKit Go.Shelf Go.Lib
variable {es : Nat → Addr} {At : (Nat → Prop) → World → Value → Nat → Cf.Ens → Prop}
structure YStep (W w' : World) (L L' : YL) : Prop where
 size : W.heap.size ≤ w'.heap.size
 rest : ∀ j,j < W.heap.size → L.k j = 9 → w'.heap[j]? = W.heap[j]?
 kk : ∀ j,j < W.heap.size → L'.k j = L.k j
theorem YdAt.files2 (HC : Caches0 es At) {B : Nat} {W W' : World} {yb : Nat} {L : YL} {y : Bf.Yd} (h : YdAt At B W yb L y) {fs : Tf.Fs} {o' : Option Nat} (hT : TreeAt B W' L.tb fs o') (hon : OldNew W L.o1 o') (hK : Kept (tS L.tb L.o1) W W') : ∃ L',YdAt At B W' yb L' { y with fs := fs } ∧ YStep W W' L L' :=
 ⟨_,h.files HC hT hon hK,hK.size,fun j hj h9 => hK.block j hj fun e => e.elim (fun e => by rw [e,h.kt] at h9;omega) fun e => by rw [h.k1 j e] at h9;omega,fun j hj => L.more_old hj⟩
theorem YdAt.made2 {B : Nat} {W w' : World} {yb : Nat} {L L' : YL} {y : Bf.Yd} (h : YdAt At B W yb L y) (hz : W.heap.size ≤ w'.heap.size) (hr : ∀ j,j < W.heap.size → j ≠ L.ob → L.o2 ≠ some j → ¬ L.SC j → w'.heap[j]? = W.heap[j]?) (hk : ∀ j,j < W.heap.size → L'.k j = L.k j) : YStep W w' L L' :=
 ⟨hz,fun j hj h9 => hr j hj (fun e => by rw [e,h.ko] at h9;omega) (fun e => by rw [h.k2 j e] at h9;omega) (fun e => by rw [h.kc j e] at h9;omega),hk⟩
end Go.Proofs.YtdljhggillgpfaaGreatDoor
