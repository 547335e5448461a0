import Derived.Test.YthchjnopgagilaaGreatDoorPA41
set_option maxRecDepth 100000
set_option maxHeartbeats 16000000
namespace Go.Proofs.YthchjnopgagilaaGreatDoor
open Go.RowKit Go.Shelf Go.Lib
variable {es : Nat → Addr} {At : (Nat → Prop) → World → Value → Nat → Cf.Ens → Prop} {BAt : (Nat → Prop) → World → Value → Value → Bf.Bd → Prop}
namespace Bf
noncomputable def Yd.makeP (y : Yd) (outs : List (List UInt8)) : Yd :=
 { y with os := outP y.l (y.made outs).1 ((Ru.order y.l allB1).getD []) y.os,c := (y.made outs).2 }
structure Yd.Ok (y : Yd) : Prop where
 fs : Tf.Well pathB y.fs
 os : Tf.Well pathB y.os
 l : SheetOk y.l
 c : CFit y.c
end Bf
abbrev countV (d : Bf.Bd) : Value := .agg #[.int .i64 (d.ran : Nat),.int .i64 (d.hits : Nat),.int .i64 (d.fails : Nat),.int .i64 (d.lefts : Nat)]
theorem yMake_calls (HC : Caches0 es At) (HB : Builds es Af.actO At BAt) {B : Nat} {W : World} {yb : Nat} {L : YL} {y : Bf.Yd} (h : YdAt At B W yb L y) (hY : YBase B W es) (hok : y.Ok) (ov : Value) (outs : List (List UInt8)) (hov : XRow W ov outs) (hol : outs.length ≤ 100) (hor : ∀ p ∈ outs,∃ x ∈ y.l,x.out = p) :
  Calls Tryz.prog 84 #[Ptr yb,ov] W fun e w' => e = .returned (.tuple #[countV (y.made outs).1,.nilIface]) ∧ Below B W w' ∧ (∀ j,j < W.heap.size → j ≠ L.ob → L.o2 ≠ some j → ¬ L.SC j → w'.heap[j]? = W.heap[j]?) ∧ ∃ L',L'.tb = L.tb ∧ L'.ob = L.ob ∧ (∀ j,j < W.heap.size → L'.k j = L.k j) ∧ YdAt At B w' yb L' (y.makeP outs) := by
 have h40 := hok.l.len
 obtain ⟨o,ho⟩ := Option.isSome_iff_exists.1 hok.l.some
 have hsl : ∀ p ∈ outs,p.length ≤ 300 := fun p hp => by
  obtain ⟨x,hx,rfl⟩ := hor p hp
  have := (hok.l.small x hx).out
  omega
 have hwl : (Bf.whole y.l outs).length ≤ 100 := Bf.whole_len (by omega) hol
 have hwr : ∀ p ∈ Bf.whole y.l outs,∃ x ∈ y.l,x.out = p := fun p hp => by
  unfold Bf.whole at hp
  split at hp
  ·obtain ⟨x,hx,e⟩ := List.mem_map.1 hp
   exact ⟨x,hx,e⟩
  ·exact hor p hp
 have hws : ∀ p ∈ Bf.whole y.l outs,p.length ≤ 300 := fun p hp => by
  obtain ⟨x,hx,rfl⟩ := hwr p hp
  have := (hok.l.small x hx).out
  omega
 have hBW : B ≤ W.heap.size := by have := h.low;have := h.lt;omega
 have gA : Below W.heap.size W (W.alloc (.cells #[.int .i64 0,.int .i64 0,.int .i64 0,.int .i64 0] 103)) := (Below.refl _ W).alloc (Nat.le_refl _) _
 have rA := row_newW W (.cells #[.int .i64 0,.int .i64 0,.int .i64 0,.int .i64 0] 103)
 have hsA : (W.alloc (.cells #[.int .i64 0,.int .i64 0,.int .i64 0,.int .i64 0] 103)).heap.size = W.heap.size + 1 := by simp
 have hya := (h.retag HC 9).below HC gA
 have HK9 : Hid (L.more W.heap.size 9 W.heap.size = 9) := hid1 (L.more_new (Nat.le_refl _))
 have HYa := hid1 hya
 have HOu := hid1 (youts_calls hya (by have h1 : y.l.length ≤ 40 := h40;show y.l.length ≤ 1000;omega))
 have HNew := hid1 fun (V : World) (g : Below W.heap.size W V) (v : Value) (hv : XRow V v (Bf.whole y.l outs)) => HB.new V B L.tb y.fs L.o1 L.lv y.l v (Bf.whole y.l outs) L.cv (hY.trans (g.mono hBW)).build.w (h.t.below g) hok.fs.rises (by have := hok.fs.few;omega) (fun f hf => ⟨by have := well_len hok.fs f hf;omega,(hok.fs.each f hf).2⟩) (h.rrow.below g) (by omega) hok.l.small hv hwl hws (by obtain ⟨p,e⟩ := h.cp;exact ⟨_,e⟩)
 have HNt : Hid (∀ (n : Nat) (w : World) (bv ev : Value),NewTells es BAt n y.fs y.l (Bf.whole y.l outs) L.cv w bv ev → ev = .nilIface ∧ ∃ p,bv = .pointer (some p) ∧ ∃ S,BAt S w (.pointer (some p)) L.cv (Bf.init y.fs y.l (Bf.whole y.l outs)) ∧ ∀ k,S k → n ≤ k) := hid1 fun n w bv ev hN => by
  rcases hN with ⟨_,⟨h1,_⟩ | ⟨_,k,hk,h1,_⟩ | ⟨_,_,h1,_⟩⟩ | ⟨_,_,_,h1,⟨p,h2⟩,S,h3,h4⟩
  ·exact absurd hok.l.fine h1
  ·obtain ⟨x,hx,e⟩ := hwr _ (List.getElem_mem hk)
   exact absurd e (h1 x hx)
  ·have := hok.l.part (Bf.whole y.l outs)
   rw [h1] at this
   cases this
  ·exact ⟨h1,p,h2,S,by rw [← h2];exact h3,h4⟩
 have HAll := hid1 fun (V : World) (hV : Below B W V) (S : Nat → Prop) (p : Addr) (hbA : BAt S V (.pointer (some p)) L.cv (Bf.init y.fs y.l (Bf.whole y.l outs))) (hCa : CaAt At L.SC V L.cv y.c) (hap : ∀ j,S j → ¬ L.SC j) (hSB : ∀ j,S j → B ≤ j) => HB.all B S L.SC V p L.cv (Bf.init y.fs y.l (Bf.whole y.l outs)) y.c hbA hCa hap (hY.trans hV).build hSB h.lowC hok.l.fine hok.l.small (Bf.init_fit fun f hf => (hok.fs.each f hf).2) hok.c
 have HMd : Hid (y.made outs = Bf.all Af.actO y.c (Bf.init y.fs y.l (Bf.whole y.l outs))) := hid1 rfl
 rw [← HMd.out] at HAll
 have hdl : (y.made outs).1.l = y.l := by
  rw [HMd.out]
  exact (Bf.allF_keeps actFit _ _ _ (Bf.init_fit fun f hf => (hok.fs.each f hf).2) hok.c).1
 have HLay := hid1 fun (V : World) (hV : Below B W V) (L' : YL) (hy : YdAt At B V yb L' { y with c := (y.made outs).2 }) (S : Nat → Prop) (p : Addr) (hb : BAt S V (.pointer (some p)) L.cv (y.made outs).1) (hSo : ∀ j,S j → j ≠ L'.ob ∧ L'.o2 ≠ some j) => ylay_calls HC HB hy (hY.trans hV) hok.l hok.os hb hdl hSo ho
 have HSwp := hid1 fun (V : World) (hV : Below B W V) (L' : YL) (os : Tf.Fs) (hy : YdAt At B V yb L' { y with c := (y.made outs).2,os := os }) (S : Nat → Prop) (p : Addr) (hb : BAt S V (.pointer (some p)) L.cv (y.made outs).1) (hSo : ∀ j,S j → j ≠ L'.ob ∧ L'.o2 ≠ some j) => ysweep_calls HC HB hy (hY.trans hV) hok.l hb hdl hSo
 have HP : Hid (y.makeP outs = { y with c := (y.made outs).2,os := Bf.sweepW y.l (y.made outs).1 y.l.length (Bf.layW y.l (y.made outs).1 o y.os) }) := hid1 (by unfold Bf.Yd.makeP Bf.outP;rw [ho];rfl)
 rw [HP.out]
 have HSl : Hid (∀ j,L.SC j → j < W.heap.size) := hid1 fun j hj => h.ca.ltG HC j hj
 have HMo : Hid (∀ j,L.o2 = some j → j < W.heap.size) := hid1 fun j e => h.mapo e
 have hobl : L.ob < W.heap.size := h.o.lt
 have HCs := hid1 HC
 have HBs := hid1 HB
 have HRA := hid1 rA
 obtain ⟨pc,ecv⟩ := h.cp
 obtain ⟨pl,cl,elv,-⟩ := h.rrow
 rw [elv,ecv] at HNew
 rw [ecv] at HNt HAll HLay HSwp
 generalize y.made outs = md at *
 obtain ⟨d,c'⟩ := md
 simp only at HAll HLay HSwp hdl ⊢
 clear HP HMd hdl
 have hov0 := hov
 have HOv := hid1 fun (V : World) (g : Below W.heap.size W V) => hov.below g
 obtain ⟨po,co,rfl,-⟩ := hov
 have HLv := hid1 (And.intro elv ecv)
 clear hov0 hya rA hY hok hor hsl hwl hwr hws ho HC HB elv ecv
 have hcase : (outs = [] ∧ Bf.whole y.l outs = y.l.map Ru.out) ∨ (outs ≠ [] ∧ Bf.whole y.l outs = outs) := by
  by_cases e : outs = []
  ·exact .inl ⟨e,by unfold Bf.whole;rw [if_pos e]⟩
  ·exact .inr ⟨e,by unfold Bf.whole;rw [if_neg e]⟩
 generalize hWa : W.alloc (.cells #[.int .i64 0,.int .i64 0,.int .i64 0,.int .i64 0] 103) = Wa at *
 rcases hcase with ⟨rfl,hwh⟩ | ⟨hne,hwh⟩
 ·rw [hwh] at HNew HNt HAll
  go_enter Tryz.func84,Tryz.ntmps84
  go_wp2_with fail
  refine HOu.out.mono ?_
  rintro e w1 ⟨v1,rfl,hrow,g1⟩
  have HX1 : Hid (XRow w1 v1 (y.l.map Ru.out)) := hid1 (XRow.of_owns hrow)
  obtain ⟨p1,k1,e1,-⟩ := XRow.of_owns hrow
  rw [List.length_map] at e1
  subst e1
  clear hrow HOu HOv hwh
  have G1a := below_then gA g1
  have y1 := HYa.out.below HCs.out g1
  have q0 := y1.c0
  have q2 := y1.c2
  have q3 := y1.c3
  have r1 := row_below HRA.out g1
  simp only at q0 q2 q3
  rw [HLv.out.1] at q2
  rw [HLv.out.2] at q3
  have HY1 := hid1 y1
  have HR1 := hid1 r1
  have z1 := g1.size
  clear y1 r1 HYa HRA g1
  go_wp2
  go_region_held3 (fun w' => w'.cell? ⟨yb,0,none⟩ = some (Ptr L.tb) ∧ w'.cell? ⟨yb,2,none⟩ = some (.slice pl y.l.length cl) ∧ w'.cell? ⟨yb,3,none⟩ = some (.pointer (some pc))) (first | go_keep | fail)
   (first
    | (go_at_call 60;refine (HNew.out _ (by exact G1a.drew) _ (by exact HX1.out.below (Below.refl w1.heap.size w1).drew)).mono ?_;rintro e w2 ⟨bv,ev,rfl,g2,hN⟩;(have r0 := cell_below' (show w1.drew.cell? _ = _ from q0) g2);(have r2 := cell_below' (show w1.drew.cell? _ = _ from q2) g2);(have r3 := cell_below' (show w1.drew.cell? _ = _ from q3) g2);(obtain ⟨rfl,pb,rfl,hS⟩ := HNt.out _ _ _ _ hN);clear hN)
    | fail)
  all_goals
   obtain ⟨S,hbA,hSn⟩ := hS
   have g12 : Below w1.heap.size w1 w2 := below_then (Below.refl w1.heap.size w1).drew g2
   have hSn' : ∀ j,S j → w1.heap.size ≤ j := hSn
   have G2 := below_then G1a g12
   have y2 := HY1.out.below HCs.out g12
   have z2 := g12.size
   have HSn := hid1 hSn'
   have HA2 := hid1 (HAll.out w2 (G2.mono hBW) S pb hbA (by have h2 := y2.ca;rw [HLv.out.2] at h2;exact h2) (fun j h1 h2 => by have h3 := hSn' j h1;have h4 := HSl.out j h2;omega) (fun j h1 => by have h3 := hSn' j h1;omega))
   have HR2 := hid1 (row_below HR1.out g12)
   have HG12 := hid1 g12
   clear hbA hSn hSn' y2 r0 r2 r3 q0 q2 q3 HAll HNew HNt g2 g12 HR1 HX1
   go_wp2_with fail
   refine HA2.out.mono ?_
   rintro e w3 ⟨rfl,hO3,S',SC',hB3,hC3,hap3,hS3,hT3⟩
   have hB3l := HBs.out.lt _ _ _ _ _ hB3
   have z3 := hO3.size
   have hnq : ¬ (S W.heap.size ∨ L.SC W.heap.size) := fun e => by
    rcases e with e | e
    ·have := HSn.out _ e;omega
    ·have := HSl.out _ e;omega
   have r3 : w3.heap[W.heap.size]? = some (.cells #[.int .i64 0,.int .i64 0,.int .i64 0,.int .i64 0] 103 (0,0)) := (hO3.block W.heap.size (by omega) hnq).trans HR2.out
   have y3 := HY1.out.cached (c := c') (SC := SC') (by have h2 := hC3;rw [← HLv.out.2] at h2;exact h2) (by omega) (fun j hj hn => (hO3.block j (by omega) (fun e => e.elim (fun e => by have h3 := HSn.out j e;omega) hn)).trans (HG12.out.block j hj)) (fun j hj => (hT3 j hj).imp_right fun h => by omega) (fun j hj => by have h4 := HSl.out j hj;omega)
   have B3 : Below B W w3 := (G2.mono hBW).trans (hO3.below (fun j hj => by
    rcases hj with h5 | h5
    ·have h3 := HSn.out j h5;omega
    ·exact HY1.out.lowC j h5) (by omega))
   have gB : Below w3.heap.size w3 (w3.alloc (.cells #[.int .i64 (d.ran : Nat),.int .i64 (d.hits : Nat),.int .i64 (d.fails : Nat),.int .i64 (d.lefts : Nat)] 103)) := (Below.refl _ w3).alloc (Nat.le_refl _) _
   have rB := row_newW w3 (.cells #[.int .i64 (d.ran : Nat),.int .i64 (d.hits : Nat),.int .i64 (d.fails : Nat),.int .i64 (d.lefts : Nat)] 103)
   have y4 := y3.below HCs.out gB
   have HRs := hid1 fun (j : Nat) (hj : j < W.heap.size) (hn : ¬ L.SC j) => (gB.block j (by omega)).trans ((hO3.block j (by omega) (fun e => e.elim (fun e => by have := HSn.out j e;omega) hn)).trans (G2.block j hj))
   have B4 := B3.trans (gB.mono (by omega))
   have hb4 := HBs.out.same _ _ _ _ _ _ hB3 gB.size fun k hk => gB.block k (hB3l k hk)
   have hS4 : ∀ j,S' j → j ≠ L.ob ∧ L.o2 ≠ some j := fun j hj => by
    have h6 : W.heap.size ≤ j := by
     rcases hS3 j hj with h | h
     ·have := HSn.out j h;omega
     ·omega
    exact ⟨by omega,fun e => by have := HMo.out j e;omega⟩
   have HLy := hid1 (HLay.out _ B4 _ y4 S' pb hb4 hS4)
   have HRB := hid1 rB
   have HR4 := hid1 (row_below r3 gB)
   have HB4 := hid1 B4
   have hk4 : (if W.heap.size < w1.heap.size then L.more W.heap.size 9 W.heap.size else 3) = 9 := by rw [if_pos (by omega)];exact HK9.out
   have HK4 := hid1 hk4
   have z4 : w3.heap.size < (w3.alloc (.cells #[.int .i64 (d.ran : Nat),.int .i64 (d.hits : Nat),.int .i64 (d.fails : Nat),.int .i64 (d.lefts : Nat)] 103)).heap.size := by simp
   clear HA2 hO3 hB3 hC3 hap3 hS3 hT3 hB3l hnq r3 y3 B3 gB rB y4 hb4 hS4 HLay HR2 HG12 HSn hk4 B4
   generalize hw4 : w3.alloc (.cells #[.int .i64 (d.ran : Nat),.int .i64 (d.hits : Nat),.int .i64 (d.fails : Nat),.int .i64 (d.lefts : Nat)] 103) = w4 at *
   go_wp2_with fail
   refine HLy.out.mono ?_
   rintro e w5 ⟨rfl,L5,hL5⟩
   have HL5 := hid1 hL5
   have HSw := hid1 (HSwp.out w5 (HB4.out.trans hL5.base) L5 _ hL5.yard S' pb hL5.build hL5.apart)
   clear HLy hL5 HSwp
   go_wp2_with fail
   refine HSw.out.mono ?_
   rintro e w6 ⟨rfl,L6,hL6⟩
   have z5 := HL5.out.size
   have z6 := hL6.size
   have hno : ∀ q,W.heap.size ≤ q → q < w4.heap.size → w6.heap[q]? = w4.heap[q]? := fun q h1 h2 => by
    refine (hL6.rest q (by omega) ?_ ?_).trans (HL5.out.rest q h2 (fun e => by have e' : q = L.ob := e;omega) fun e => by have := HMo.out q e;omega)
    ·intro e
     have e' : q = L.ob := e.trans HL5.out.ob
     omega
    ·intro e
     rcases HL5.out.o2 q e with h | h
     ·have := HMo.out q h;omega
     ·omega
   have rr := (hno W.heap.size (Nat.le_refl _) (by omega)).trans HR4.out
   have rc := (hno w3.heap.size (by omega) z4).trans HRB.out
   have s0 := cell_of_row (j := 0) rc rfl
   have s1 := cell_of_row (j := 1) rc rfl
   have s2 := cell_of_row (j := 2) rc rfl
   have s3 := cell_of_row (j := 3) rc rfl
   have u0 := cell_of_row (j := 0) rr rfl
   have u1 := cell_of_row (j := 1) rr rfl
   have u2 := cell_of_row (j := 2) rr rfl
   have u3 := cell_of_row (j := 3) rr rfl
   have f0 : w6.frozen? ⟨W.heap.size,0,none⟩ = false := by simp [World.frozen?,rr]
   have f1 : w6.frozen? ⟨W.heap.size,1,none⟩ = false := by simp [World.frozen?,rr]
   have f2 : w6.frozen? ⟨W.heap.size,2,none⟩ = false := by simp [World.frozen?,rr]
   have f3 : w6.frozen? ⟨W.heap.size,3,none⟩ = false := by simp [World.frozen?,rr]
   have qq := hid1 (four_cells u0 u1 u2 u3 (.int .i64 (d.ran : Nat)) (.int .i64 (d.hits : Nat)) (.int .i64 (d.fails : Nat)) (.int .i64 (d.lefts : Nat)))
   have HK6 : Hid (L6.k W.heap.size = 9) := hid1 (by
    rw [hL6.kk _ (by omega),HL5.out.kk _ (by omega)]
    exact HK4.out)
   have HKk : Hid (∀ j,j < W.heap.size → L6.k j = L.k j) := hid1 fun j hj => by
    rw [hL6.kk j (by omega),HL5.out.kk j (by omega)]
    show (if j < w1.heap.size then L.more W.heap.size 9 j else 3) = _
    rw [if_pos (by omega)]
    exact L.more_old hj
   have HL6 := hid1 hL6
   have HRt := hid1 fun (j : Nat) (hj : j < W.heap.size) (h1 : j ≠ L.ob) (h2 : L.o2 ≠ some j) (h3 : ¬ L.SC j) => (hL6.rest j (by omega) (fun e => h1 (e.trans HL5.out.ob)) (fun e => (HL5.out.o2 j e).elim h2 (fun h => by omega))).trans ((HL5.out.rest j (by omega) h1 h2).trans (HRs.out j hj h3))
   clear HSw hL6 hno HRs rr rc HR4 HRB HK4 HK9
   go_wp2
   have b7 : Below B W ((((w6.setCell ⟨W.heap.size,0,none⟩ (.int .i64 (d.ran : Nat))).setCell ⟨W.heap.size,1,none⟩ (.int .i64 (d.hits : Nat))).setCell ⟨W.heap.size,2,none⟩ (.int .i64 (d.fails : Nat))).setCell ⟨W.heap.size,3,none⟩ (.int .i64 (d.lefts : Nat))) := ((((HB4.out.trans (HL5.out.base.trans HL6.out.base)).setCell (p := ⟨W.heap.size,0,none⟩) hBW _).setCell (p := ⟨W.heap.size,1,none⟩) hBW _).setCell (p := ⟨W.heap.size,2,none⟩) hBW _).setCell (p := ⟨W.heap.size,3,none⟩) hBW _
   have k7 : Kept (fun j => L6.k j = 9) w6 ((((w6.setCell ⟨W.heap.size,0,none⟩ (.int .i64 (d.ran : Nat))).setCell ⟨W.heap.size,1,none⟩ (.int .i64 (d.hits : Nat))).setCell ⟨W.heap.size,2,none⟩ (.int .i64 (d.fails : Nat))).setCell ⟨W.heap.size,3,none⟩ (.int .i64 (d.lefts : Nat))) := ((((Kept.refl _ w6).setCell (p := ⟨W.heap.size,0,none⟩) HK6.out _).setCell (p := ⟨W.heap.size,1,none⟩) HK6.out _).setCell (p := ⟨W.heap.size,2,none⟩) HK6.out _).setCell (p := ⟨W.heap.size,3,none⟩) HK6.out _
   have k8 : Kept (fun j => j = W.heap.size) w6 ((((w6.setCell ⟨W.heap.size,0,none⟩ (.int .i64 (d.ran : Nat))).setCell ⟨W.heap.size,1,none⟩ (.int .i64 (d.hits : Nat))).setCell ⟨W.heap.size,2,none⟩ (.int .i64 (d.fails : Nat))).setCell ⟨W.heap.size,3,none⟩ (.int .i64 (d.lefts : Nat))) := ((((Kept.refl (fun j => j = W.heap.size) w6).setCell (p := ⟨W.heap.size,0,none⟩) rfl _).setCell (p := ⟨W.heap.size,1,none⟩) rfl _).setCell (p := ⟨W.heap.size,2,none⟩) rfl _).setCell (p := ⟨W.heap.size,3,none⟩) rfl _
   refine bodyPost_ret (v := .tuple #[countV d,.nilIface]) ?_ rfl ⟨rfl,b7,fun j hj h1 h2 h3 => (k8.block j (by omega) (fun e => by omega)).trans (HRt.out j hj h1 h2 h3),L6,HL6.out.tb.trans HL5.out.tb,HL6.out.ob.trans HL5.out.ob,HKk.out,HL6.out.yard.aside HCs.out k7⟩
   obtain ⟨t0,t1,t2,t3⟩ := qq.out
   simp [results,Tryz.f84,go_sem,t0,t1,t2,t3]
 ·rw [hwh] at HNew HNt HAll
  obtain ⟨w1,hw1⟩ : ∃ w1,w1 = Wa := ⟨_,rfl⟩
  have g1 : Below Wa.heap.size Wa w1 := by rw [hw1];exact Below.refl _ _
  have HX1 := hid1 (HOv.out w1 (by rw [hw1];exact gA))
  have zo : (0 : Int) < (outs.length : Int) := by have := List.length_pos_iff.2 hne;omega
  clear HOu HOv hwh
  subst hw1
  go_enter Tryz.func84,Tryz.ntmps84
  go_wp2
  have G1a := below_then gA g1
  have y1 := HYa.out.below HCs.out g1
  have q0 := y1.c0
  have q2 := y1.c2
  have q3 := y1.c3
  have r1 := row_below HRA.out g1
  simp only at q0 q2 q3
  rw [HLv.out.1] at q2
  rw [HLv.out.2] at q3
  have HY1 := hid1 y1
  have HR1 := hid1 r1
  have z1 := g1.size
  clear y1 r1 HYa HRA g1
  go_region_held3 (fun w' => w'.cell? ⟨yb,0,none⟩ = some (Ptr L.tb) ∧ w'.cell? ⟨yb,2,none⟩ = some (.slice pl y.l.length cl) ∧ w'.cell? ⟨yb,3,none⟩ = some (.pointer (some pc))) (first | go_keep | fail)
   (first
    | (go_at_call 60;refine (HNew.out _ (by exact G1a.drew) _ (by exact HX1.out.below (Below.refl w1.heap.size w1).drew)).mono ?_;rintro e w2 ⟨bv,ev,rfl,g2,hN⟩;(have r0 := cell_below' (show w1.drew.cell? _ = _ from q0) g2);(have r2 := cell_below' (show w1.drew.cell? _ = _ from q2) g2);(have r3 := cell_below' (show w1.drew.cell? _ = _ from q3) g2);(obtain ⟨rfl,pb,rfl,hS⟩ := HNt.out _ _ _ _ hN);clear hN)
    | fail)
  all_goals
   obtain ⟨S,hbA,hSn⟩ := hS
   have g12 : Below w1.heap.size w1 w2 := below_then (Below.refl w1.heap.size w1).drew g2
   have hSn' : ∀ j,S j → w1.heap.size ≤ j := hSn
   have G2 := below_then G1a g12
   have y2 := HY1.out.below HCs.out g12
   have z2 := g12.size
   have HSn := hid1 hSn'
   have HA2 := hid1 (HAll.out w2 (G2.mono hBW) S pb hbA (by have h2 := y2.ca;rw [HLv.out.2] at h2;exact h2) (fun j h1 h2 => by have h3 := hSn' j h1;have h4 := HSl.out j h2;omega) (fun j h1 => by have h3 := hSn' j h1;omega))
   have HR2 := hid1 (row_below HR1.out g12)
   have HG12 := hid1 g12
   clear hbA hSn hSn' y2 r0 r2 r3 q0 q2 q3 HAll HNew HNt g2 g12 HR1 HX1
   go_wp2_with fail
   refine HA2.out.mono ?_
   rintro e w3 ⟨rfl,hO3,S',SC',hB3,hC3,hap3,hS3,hT3⟩
   have hB3l := HBs.out.lt _ _ _ _ _ hB3
   have z3 := hO3.size
   have hnq : ¬ (S W.heap.size ∨ L.SC W.heap.size) := fun e => by
    rcases e with e | e
    ·have := HSn.out _ e;omega
    ·have := HSl.out _ e;omega
   have r3 : w3.heap[W.heap.size]? = some (.cells #[.int .i64 0,.int .i64 0,.int .i64 0,.int .i64 0] 103 (0,0)) := (hO3.block W.heap.size (by omega) hnq).trans HR2.out
   have y3 := HY1.out.cached (c := c') (SC := SC') (by have h2 := hC3;rw [← HLv.out.2] at h2;exact h2) (by omega) (fun j hj hn => (hO3.block j (by omega) (fun e => e.elim (fun e => by have h3 := HSn.out j e;omega) hn)).trans (HG12.out.block j hj)) (fun j hj => (hT3 j hj).imp_right fun h => by omega) (fun j hj => by have h4 := HSl.out j hj;omega)
   have B3 : Below B W w3 := (G2.mono hBW).trans (hO3.below (fun j hj => by
    rcases hj with h5 | h5
    ·have h3 := HSn.out j h5;omega
    ·exact HY1.out.lowC j h5) (by omega))
   have gB : Below w3.heap.size w3 (w3.alloc (.cells #[.int .i64 (d.ran : Nat),.int .i64 (d.hits : Nat),.int .i64 (d.fails : Nat),.int .i64 (d.lefts : Nat)] 103)) := (Below.refl _ w3).alloc (Nat.le_refl _) _
   have rB := row_newW w3 (.cells #[.int .i64 (d.ran : Nat),.int .i64 (d.hits : Nat),.int .i64 (d.fails : Nat),.int .i64 (d.lefts : Nat)] 103)
   have y4 := y3.below HCs.out gB
   have HRs := hid1 fun (j : Nat) (hj : j < W.heap.size) (hn : ¬ L.SC j) => (gB.block j (by omega)).trans ((hO3.block j (by omega) (fun e => e.elim (fun e => by have := HSn.out j e;omega) hn)).trans (G2.block j hj))
   have B4 := B3.trans (gB.mono (by omega))
   have hb4 := HBs.out.same _ _ _ _ _ _ hB3 gB.size fun k hk => gB.block k (hB3l k hk)
   have hS4 : ∀ j,S' j → j ≠ L.ob ∧ L.o2 ≠ some j := fun j hj => by
    have h6 : W.heap.size ≤ j := by
     rcases hS3 j hj with h | h
     ·have := HSn.out j h;omega
     ·omega
    exact ⟨by omega,fun e => by have := HMo.out j e;omega⟩
   have HLy := hid1 (HLay.out _ B4 _ y4 S' pb hb4 hS4)
   have HRB := hid1 rB
   have HR4 := hid1 (row_below r3 gB)
   have HB4 := hid1 B4
   have hk4 : (if W.heap.size < w1.heap.size then L.more W.heap.size 9 W.heap.size else 3) = 9 := by rw [if_pos (by omega)];exact HK9.out
   have HK4 := hid1 hk4
   have z4 : w3.heap.size < (w3.alloc (.cells #[.int .i64 (d.ran : Nat),.int .i64 (d.hits : Nat),.int .i64 (d.fails : Nat),.int .i64 (d.lefts : Nat)] 103)).heap.size := by simp
   clear HA2 hO3 hB3 hC3 hap3 hS3 hT3 hB3l hnq r3 y3 B3 gB rB y4 hb4 hS4 HLay HR2 HG12 HSn hk4 B4
   generalize hw4 : w3.alloc (.cells #[.int .i64 (d.ran : Nat),.int .i64 (d.hits : Nat),.int .i64 (d.fails : Nat),.int .i64 (d.lefts : Nat)] 103) = w4 at *
   go_wp2_with fail
   refine HLy.out.mono ?_
   rintro e w5 ⟨rfl,L5,hL5⟩
   have HL5 := hid1 hL5
   have HSw := hid1 (HSwp.out w5 (HB4.out.trans hL5.base) L5 _ hL5.yard S' pb hL5.build hL5.apart)
   clear HLy hL5 HSwp
   go_wp2_with fail
   refine HSw.out.mono ?_
   rintro e w6 ⟨rfl,L6,hL6⟩
   have z5 := HL5.out.size
   have z6 := hL6.size
   have hno : ∀ q,W.heap.size ≤ q → q < w4.heap.size → w6.heap[q]? = w4.heap[q]? := fun q h1 h2 => by
    refine (hL6.rest q (by omega) ?_ ?_).trans (HL5.out.rest q h2 (fun e => by have e' : q = L.ob := e;omega) fun e => by have := HMo.out q e;omega)
    ·intro e
     have e' : q = L.ob := e.trans HL5.out.ob
     omega
    ·intro e
     rcases HL5.out.o2 q e with h | h
     ·have := HMo.out q h;omega
     ·omega
   have rr := (hno W.heap.size (Nat.le_refl _) (by omega)).trans HR4.out
   have rc := (hno w3.heap.size (by omega) z4).trans HRB.out
   have s0 := cell_of_row (j := 0) rc rfl
   have s1 := cell_of_row (j := 1) rc rfl
   have s2 := cell_of_row (j := 2) rc rfl
   have s3 := cell_of_row (j := 3) rc rfl
   have u0 := cell_of_row (j := 0) rr rfl
   have u1 := cell_of_row (j := 1) rr rfl
   have u2 := cell_of_row (j := 2) rr rfl
   have u3 := cell_of_row (j := 3) rr rfl
   have f0 : w6.frozen? ⟨W.heap.size,0,none⟩ = false := by simp [World.frozen?,rr]
   have f1 : w6.frozen? ⟨W.heap.size,1,none⟩ = false := by simp [World.frozen?,rr]
   have f2 : w6.frozen? ⟨W.heap.size,2,none⟩ = false := by simp [World.frozen?,rr]
   have f3 : w6.frozen? ⟨W.heap.size,3,none⟩ = false := by simp [World.frozen?,rr]
   have qq := hid1 (four_cells u0 u1 u2 u3 (.int .i64 (d.ran : Nat)) (.int .i64 (d.hits : Nat)) (.int .i64 (d.fails : Nat)) (.int .i64 (d.lefts : Nat)))
   have HK6 : Hid (L6.k W.heap.size = 9) := hid1 (by
    rw [hL6.kk _ (by omega),HL5.out.kk _ (by omega)]
    exact HK4.out)
   have HKk : Hid (∀ j,j < W.heap.size → L6.k j = L.k j) := hid1 fun j hj => by
    rw [hL6.kk j (by omega),HL5.out.kk j (by omega)]
    show (if j < w1.heap.size then L.more W.heap.size 9 j else 3) = _
    rw [if_pos (by omega)]
    exact L.more_old hj
   have HL6 := hid1 hL6
   have HRt := hid1 fun (j : Nat) (hj : j < W.heap.size) (h1 : j ≠ L.ob) (h2 : L.o2 ≠ some j) (h3 : ¬ L.SC j) => (hL6.rest j (by omega) (fun e => h1 (e.trans HL5.out.ob)) (fun e => (HL5.out.o2 j e).elim h2 (fun h => by omega))).trans ((HL5.out.rest j (by omega) h1 h2).trans (HRs.out j hj h3))
   clear HSw hL6 hno HRs rr rc HR4 HRB HK4 HK9
   go_wp2
   have b7 : Below B W ((((w6.setCell ⟨W.heap.size,0,none⟩ (.int .i64 (d.ran : Nat))).setCell ⟨W.heap.size,1,none⟩ (.int .i64 (d.hits : Nat))).setCell ⟨W.heap.size,2,none⟩ (.int .i64 (d.fails : Nat))).setCell ⟨W.heap.size,3,none⟩ (.int .i64 (d.lefts : Nat))) := ((((HB4.out.trans (HL5.out.base.trans HL6.out.base)).setCell (p := ⟨W.heap.size,0,none⟩) hBW _).setCell (p := ⟨W.heap.size,1,none⟩) hBW _).setCell (p := ⟨W.heap.size,2,none⟩) hBW _).setCell (p := ⟨W.heap.size,3,none⟩) hBW _
   have k7 : Kept (fun j => L6.k j = 9) w6 ((((w6.setCell ⟨W.heap.size,0,none⟩ (.int .i64 (d.ran : Nat))).setCell ⟨W.heap.size,1,none⟩ (.int .i64 (d.hits : Nat))).setCell ⟨W.heap.size,2,none⟩ (.int .i64 (d.fails : Nat))).setCell ⟨W.heap.size,3,none⟩ (.int .i64 (d.lefts : Nat))) := ((((Kept.refl _ w6).setCell (p := ⟨W.heap.size,0,none⟩) HK6.out _).setCell (p := ⟨W.heap.size,1,none⟩) HK6.out _).setCell (p := ⟨W.heap.size,2,none⟩) HK6.out _).setCell (p := ⟨W.heap.size,3,none⟩) HK6.out _
   have k8 : Kept (fun j => j = W.heap.size) w6 ((((w6.setCell ⟨W.heap.size,0,none⟩ (.int .i64 (d.ran : Nat))).setCell ⟨W.heap.size,1,none⟩ (.int .i64 (d.hits : Nat))).setCell ⟨W.heap.size,2,none⟩ (.int .i64 (d.fails : Nat))).setCell ⟨W.heap.size,3,none⟩ (.int .i64 (d.lefts : Nat))) := ((((Kept.refl (fun j => j = W.heap.size) w6).setCell (p := ⟨W.heap.size,0,none⟩) rfl _).setCell (p := ⟨W.heap.size,1,none⟩) rfl _).setCell (p := ⟨W.heap.size,2,none⟩) rfl _).setCell (p := ⟨W.heap.size,3,none⟩) rfl _
   refine bodyPost_ret (v := .tuple #[countV d,.nilIface]) ?_ rfl ⟨rfl,b7,fun j hj h1 h2 h3 => (k8.block j (by omega) (fun e => by omega)).trans (HRt.out j hj h1 h2 h3),L6,HL6.out.tb.trans HL5.out.tb,HL6.out.ob.trans HL5.out.ob,HKk.out,HL6.out.yard.aside HCs.out k7⟩
   obtain ⟨t0,t1,t2,t3⟩ := qq.out
   simp [results,Tryz.f84,go_sem,t0,t1,t2,t3]
end Go.Proofs.YthchjnopgagilaaGreatDoor
namespace Go.Proofs.YthchjnopgagilaaGreatDoor
namespace Bf
theorem SheetOk.sheet {l : List Ru} (h : SheetOk l) (fs : Tf.Fs) : ∃ o,Sheet fs l o ∧ (Ru.order l allB1).getD [] = o := by
 obtain ⟨o,e⟩ := Option.isSome_iff_exists.1 h.some
 have hc : Ru.order l (need l (l.map Ru.out)) = Ru.order l allB1 := Ru.order_congr2 fun k hk => by rw [need_all hk]
 exact ⟨o,⟨h.fine,by rw [hc,e]⟩,by rw [e];rfl⟩
structure YFine (l : List Ru) (m : Nat) (y : Yd) : Prop where
 hl : y.l = l
 fs : Tf.Well pathB y.fs
 os : Tf.Well pathB y.os
 outs : Outs l y.os
 room : ∃ es,y.c = some (m,es)
 fit : CFit y.c
 sound : CSound Af.actO y.c
theorem YFine.ok {l : List Ru} {m : Nat} {y : Yd} (h : YFine l m y) (hs : SheetOk l) : y.Ok := ⟨h.fs,h.os,by rw [h.hl];exact hs,h.fit⟩
theorem YFine.files {l : List Ru} {m : Nat} {y : Yd} (h : YFine l m y) {fs : Tf.Fs} (hw : Tf.Well pathB fs) : YFine l m { y with fs := fs } := ⟨h.hl,hw,h.os,h.outs,h.room,h.fit,h.sound⟩
theorem made_eq (y : Yd) : y.made [] = all Af.actO y.c (init y.fs y.l (y.l.map Ru.out)) := by
 unfold Yd.made whole
 rw [if_pos rfl]
theorem YFine.going {l : List Ru} {m : Nat} {y : Yd} (h : YFine l m y) {o : List Nat} (hs : Sheet y.fs l o) : Going y.fs l o (y.made []).1 (y.made []).2 ∧ (y.made []).1.waits = 0 := by
 rw [made_eq,h.hl]
 exact (Going.init hs (fun f hf => (h.fs.each f hf).2) h.fit h.sound).all hs
theorem YFine.room' {l : List Ru} {m : Nat} {y : Yd} (h : YFine l m y) : ∃ es,(y.made []).2 = some (m,es) := by
 obtain ⟨es,e⟩ := h.room
 rw [made_eq,e]
 exact allF_room _ _ _ _ _
theorem YFine.out {l : List Ru} {m : Nat} {y : Yd} (h : YFine l m y) (hk : SheetOk l) (hl : Flat l) {o : List Nat} (hs : Sheet y.fs l o) (ho : (Ru.order l allB1).getD [] = o) : (y.makeP []).os = outW l (y.made []).1 o y.os := by
 have hg := h.going hs
 unfold Yd.makeP
 simp only
 rw [h.hl,ho]
 exact outP_is hk.fine hl hg.1.fit (fun k hk => (hg.1.good.ends hg.2 (by rw [hg.1.hl];exact hk)).1) hs.topo.2.2.1 hs.topo.2.2.2 h.os h.outs
theorem YFine.make {l : List Ru} {m : Nat} {y : Yd} (h : YFine l m y) (hk : SheetOk l) (hl : Flat l) : YFine l m (y.makeP []) ∧ stale y.fs (y.makeP []).os l = [] := by
 obtain ⟨o,hs,ho⟩ := SheetOk.sheet hk y.fs
 have hg := h.going hs
 have he := h.out hk hl hs ho
 refine ⟨⟨h.hl,h.fs,?_,?_,h.room',hg.1.cfit,hg.1.sound⟩,?_⟩
 ·rw [he];exact outW_well o h.os
 ·rw [he];exact outW_outs o hs.topo.2.2.1 h.outs
 ·rw [he];exact stale_none hs hl hg.1 hg.2 hs.topo.2.2.1 hs.topo.2.2.2 h.os h.outs
end Bf
end Go.Proofs.YthchjnopgagilaaGreatDoor
namespace Go.Proofs.YthchjnopgagilaaGreatDoor
namespace Bf
theorem need_lt3 {l : List Ru} {outs : List (List UInt8)} {k : Nat} (h : need l outs k = true) : k < l.length := by
 refine Classical.byContradiction fun hn => ?_
 rw [need_out (by omega)] at h
 cases h
theorem YFine.made {l : List Ru} {m : Nat} {y : Yd} (h : YFine l m y) (hk : SheetOk l) (outs : List (List UInt8)) : Fit (y.made outs).1 ∧ CFit (y.made outs).2 ∧ CSound Af.actO (y.made outs).2 ∧ ∃ es,(y.made outs).2 = some (m,es) := by
 obtain ⟨o,hs,ho⟩ := SheetOk.sheet hk y.fs
 have e : y.made outs = allF Af.actO ((init y.fs l (whole l outs)).waits + 1) y.c (init y.fs l (whole l outs)) := by
  unfold Yd.made
  rw [h.hl]
  rfl
 have hM := allF_makes (act := Af.actO) (N := inO o) (f := want Af.actO y.fs l) ((init y.fs l (whole l outs)).waits + 1) (c := y.c) (d := init y.fs l (whole l outs)) hs.wanted hs.at h.sound (Makes.init (fun k hk => by
  refine hs.topo.2.2.2 k ?_
  by_cases hn : need l (whole l outs) k = true
  ·exact need_lt3 hn
  ·exfalso
   have : (init y.fs l (whole l outs)).st k = .no := by
    show (if need l (whole l outs) k = true then St.waits else .no) = _
    rw [if_neg hn]
   rw [this] at hk
   cases hk) fun k => by
  show ((if need l (whole l outs) k = true then St.waits else .no)).isWaits = true ∨ ((if need l (whole l outs) k = true then St.waits else .no)).isNo = true
  by_cases hn : need l (whole l outs) k = true
  ·rw [if_pos hn];exact .inl rfl
  ·rw [if_neg hn];exact .inr rfl)
 have hF := allF_keeps actFit ((init y.fs l (whole l outs)).waits + 1) y.c (init y.fs l (whole l outs)) (init_fit fun f hf => (h.fs.each f hf).2) h.fit
 obtain ⟨es,ec⟩ := h.room
 have hR := allF_room Af.actO ((init y.fs l (whole l outs)).waits + 1) m es (init y.fs l (whole l outs))
 rw [← ec,← e] at hR
 rw [← e] at hM hF
 exact ⟨hF.2.2.1,hF.2.2.2,hM.2.1,hR⟩
theorem YFine.makeAny {l : List Ru} {m : Nat} {y : Yd} (h : YFine l m y) (hk : SheetOk l) (outs : List (List UInt8)) : YFine l m (y.makeP outs) := by
 obtain ⟨o,hs,ho⟩ := SheetOk.sheet hk y.fs
 obtain ⟨-,h2,h3,h4⟩ := h.made hk outs
 refine ⟨h.hl,h.fs,outP_well h.os,?_,h4,h2,h3⟩
 show Outs l (outP y.l (y.made outs).1 ((Ru.order y.l allB1).getD []) y.os)
 rw [h.hl,ho]
 exact outP_outs hs.topo.2.2.1 h.outs
end Bf
namespace Pl
open Bf
def l : List Ru := [⟨[97,108,108],[106,111,105,110],[43],[[97,46,117,112],[98,46,117,112]]⟩,⟨[97,46,117,112],[117,112,112,101,114],[],[[97]]⟩,⟨[98,46,117,112],[117,112,112,101,114],[],[[98]]⟩,⟨[115,114,116],[115,111,114,116],[],[[97],[98],[99]]⟩,⟨[99,110,116],[99,111,117,110,116],[],[[97,108,108],[115,114,116]]⟩,⟨[104,100],[104,101,97,100],[49],[[115,114,116]]⟩]
theorem fault0 : (Ru.fault l).1 = 0 := by kernel_rfl
theorem order0 : Ru.order l allB1 = some [1,2,0,3,4,5] := by kernel_rfl
theorem small : ∀ x ∈ l,x.Small := fun x hx => by
 simp only [l,List.mem_cons,List.not_mem_nil,or_false] at hx
 rcases hx with rfl | rfl | rfl | rfl | rfl | rfl <;> exact ⟨by decide,by decide,by decide,by decide,by decide⟩
theorem sheet : SheetOk l := ⟨fault0,by rw [order0];rfl,small⟩
theorem flat : Flat l := fun i k hi hk => by
 have hi' : i < 6 := hi
 have hk' : k < 6 := hk
 have : ∀ i : Fin 6,∀ k : Fin 6,Tf.above (l[i.1]'(i.2)).out (l[k.1]'(k.2)).out = false := by decide
 exact this ⟨i,hi'⟩ ⟨k,hk'⟩
def file (q : Nat) : List UInt8 := if q % 3 = 0 then [97] else if q % 3 = 1 then [98] else [99]
def bit (n k : Nat) : UInt8 := if n / 2 ^ (4 - k) % 2 = 1 then 120 else 10
def lets (n : Nat) : List UInt8 := [bit n 0,bit n 1,bit n 2,bit n 3,bit n 4]
def outN (q : Nat) : List UInt8 := (l.getD (q % 6) ⟨[],[],[],[]⟩).out
noncomputable def stepQ (y : Yd) (wh q : Nat) : Yd :=
 if wh < 4 then { y with fs := Tf.putF pathB y.fs (file q) (lets (q / 3 % 32)) }
 else if wh = 4 then { y with fs := Tf.del y.fs (file q) }
 else if wh = 5 then y.makeP []
 else if wh = 6 then y.makeP [outN q]
 else y.makeP [[104,100],[99,110,116]]
def codeQ (y : Yd) (wh q : Nat) : Nat :=
 if wh < 4 then Tf.putCode pathB y.fs (file q) (lets (q / 3 % 32))
 else if wh = 4 then if Tf.hasP y.fs (file q) then 0 else 6
 else 0
theorem codeQ_le (y : Yd) (wh q : Nat) : codeQ y wh q ≤ 8 := by
 unfold codeQ Tf.putCode
 repeat' split
 all_goals omega
noncomputable def step (y : Yd) (v : Int) : Yd := if v < 0 then y else stepQ y (v.toNat % 8) (v.toNat / 8)
def ans (y : Yd) (v : Int) : Int := if v < 0 then -1 else (codeQ y (v.toNat % 8) (v.toNat / 8) : Nat)
noncomputable def run (y : Yd) : List Int → Yd
 | [] => y
 | v :: r => run (step y v) r
noncomputable def answers (y : Yd) : List Int → List Int
 | [] => []
 | v :: r => ans y v :: answers (step y v) r
theorem run_snoc : ∀ (a : List Int) (y : Yd) (v : Int),run y (a ++ [v]) = step (run y a) v
 | [],_,_ => rfl
 | x :: r,y,v => run_snoc r (step y x) v
theorem answers_snoc : ∀ (a : List Int) (y : Yd) (v : Int),answers y (a ++ [v]) = answers y a ++ [ans (run y a) v]
 | [],_,_ => rfl
 | x :: r,y,v => by
  show ans y x :: answers (step y x) (r ++ [v]) = _
  rw [answers_snoc r]
  rfl
theorem answers_len : ∀ (a : List Int) (y : Yd),(answers y a).length = a.length
 | [],_ => rfl
 | x :: r,y => by
  show (answers (step y x) r).length + 1 = _
  rw [answers_len r]
  rfl
def y0 : Yd := ⟨[],[],l,some (8,[])⟩
theorem wellnil : Tf.Well pathB [] := ⟨List.Pairwise.nil,by simp,fun f hf => by simp at hf,fun f hf => by simp at hf⟩
theorem fine0 : YFine l 8 y0 := ⟨rfl,wellnil,wellnil,fun f hf => (by cases hf),⟨_,rfl⟩,⟨by omega,by omega,Cf.Ok.nil 8,by simp⟩,fun e he => by simp at he⟩
theorem fine_step {y : Yd} (h : YFine l 8 y) (v : Int) : YFine l 8 (step y v) := by
 unfold step
 split
 ·exact h
 ·unfold stepQ
  split
  ·exact h.files (h.fs.putF _ _)
  ·split
   ·exact h.files (h.fs.del _)
   ·split
    ·exact h.makeAny sheet _
    ·split
     ·exact h.makeAny sheet _
     ·exact h.makeAny sheet _
theorem fine_run : ∀ (a : List Int) {y : Yd},YFine l 8 y → YFine l 8 (run y a)
 | [],_,h => h
 | v :: r,_,h => fine_run r (fine_step h v)
theorem played : answers y0 [0,-1,5] = [0,-1,0] := by
 have h0 : ans y0 0 = 0 := by kernel_rfl
 have h1 : ∀ y,ans y (-1) = -1 := fun y => rfl
 have h2 : ∀ y,ans y 5 = 0 := fun y => rfl
 show [ans y0 0,ans (step y0 0) (-1),ans (step (step y0 0) (-1)) 5] = _
 rw [h0,h1,h2]
end Pl
end Go.Proofs.YthchjnopgagilaaGreatDoor
