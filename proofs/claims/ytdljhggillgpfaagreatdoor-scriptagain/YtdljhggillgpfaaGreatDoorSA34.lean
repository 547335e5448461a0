import Derived.Test.YtdljhggillgpfaaGreatDoorSA33
import Derived.Deep.DeepCutAuto
set_option maxRecDepth 100000
set_option maxHeartbeats 16000000
namespace Go.Proofs.YtdljhggillgpfaaGreatDoor
open Go.RowKit Go.Shelf Go.Lib
variable {es : Nat → Addr} {At : (Nat → Prop) → World → Value → Nat → Cf.Ens → Prop} {BAt : (Nat → Prop) → World → Value → Value → Bf.Bd → Prop}
theorem remove_some {B : Nat} {w : World} {tb : Nat} {fs : Tf.Fs} {o : Option Nat} {er : Nat → Value} (h : TreeAt B w tb fs o) (hE : TErr w er) (p : List UInt8) (hp : p.length ≤ 1000000) :
  Calls Tryz.prog 75 #[Ptr tb,.string (ba p)] w fun e w' => (∃ v,e = .returned v) ∧ (∃ o',OldNew w o o' ∧ TreeAt B w' tb (Tf.del fs p) o') ∧ Below B w w' ∧ Kept (tS tb o) w w' :=
 (RemoveK_calls h hE p hp).mono fun _ _ ⟨h1,h2⟩ => ⟨⟨_,h1⟩,h2⟩
theorem ysweep_calls (HC : Caches0 es At) (HB : Builds es Af.actO At BAt) {B : Nat} {W : World} {yb : Nat} {L : YL} {y : Bf.Yd} (h : YdAt At B W yb L y) (hY : YBase B W es) (hok : SheetOk y.l) {S : Nat → Prop} {bp : Addr} {cv : Value} {d : Bf.Bd} (hb : BAt S W (.pointer (some bp)) cv d) (hdl : d.l = y.l) (hSo : ∀ j,S j → j ≠ L.ob ∧ L.o2 ≠ some j) :
  Calls Tryz.prog 111 #[Ptr yb,.pointer (some bp)] W fun e w' => e = .returned (.tuple #[]) ∧ ∃ L',Lays At BAt B W W yb L y S bp cv d (Bf.sweepW y.l d y.l.length y.os) L' w' := by
 have h40 := hok.len
 have HL1 := hid1 (Lays.first HC HB h hb hSo (Below.refl _ W))
 have HYb := hid1 hY
 have HCs := hid1 HC
 have HBs := hid1 HB
 have HSm : Hid (∀ i (hi : i < y.l.length),y.l[i].out.length ≤ 100) := hid1 fun i hi => (hok.small _ (List.getElem_mem hi)).out
 have HDl := hid1 hdl
 have c2 := h.c2
 obtain ⟨pl,cl,elv,hcl,-,hin⟩ := h.rrow
 have HI : Hid (y.l ≠ [] → ∃ g o,pl = some ⟨g,o,none⟩) := hid1 fun hne => by
  obtain ⟨g,o,e,-⟩ := hin hne
  exact ⟨g,o,e⟩
 rw [elv] at c2
 have HLv := hid1 elv
 go_enter Tryz.func111,Tryz.ntmps111
 go_wp2
 go_loopw [12] (fun iv wr => ∃ (k : Nat) (L' : YL),k ≤ y.l.length ∧ iv = .int .i64 k ∧ Lays At BAt B W W yb L y S bp cv d (Bf.sweepW y.l d k y.os) L' wr) (fun iv _ => y.l.length - (intOf iv).toNat)
 case atStart => exact ⟨0,L,Nat.zero_le _,rfl,HL1.out⟩
 case round =>
  obtain ⟨k,L',hk,rfl,hL⟩ := hrel
  have HL := hid1 hL
  have k0 : (0 : Int) ≤ (k : Int) := by omega
  by_cases hlt : k < y.l.length
  ·have k1 : (k : Int) < (y.l.length : Int) := by omega
   obtain ⟨g,oo,rfl⟩ := HI.out (by intro e;rw [e] at hlt;simp at hlt)
   obtain ⟨d0,d1,d2,v3,d3,hx3⟩ := HL.out.yard.ruleAt hlt (by rw [HL.out.lv];exact HLv.out)
   have d0' : wr.cell? ⟨g,oo + k * 4,none⟩ = some (.string (ba y.l[k].out)) := d0
   have d1' : wr.cell? ⟨g,oo + k * 4 + 1,none⟩ = some (.string (ba y.l[k].kind)) := d1
   have d2' : wr.cell? ⟨g,oo + k * 4 + 2,none⟩ = some (.string (ba y.l[k].word)) := d2
   obtain ⟨p3,cap3,ev3,-⟩ := hx3
   have ev3' : v3 = .slice p3 y.l[k].ins.length cap3 := ev3
   subst ev3'
   have hst : ∀ (a : Addr) (m : Mode) (W : World),Sem.run Tryz.prog (store a (.slice p3 y.l[k].ins.length cap3) m) W = stored Tryz.prog W a (.slice p3 y.l[k].ins.length cap3) m := fun a m W => run_store _ W a _ m rfl
   have gA : Below wr.heap.size wr (wr.alloc (.cells #[.string (ba y.l[k].out),.string (ba y.l[k].kind),.string (ba y.l[k].word),.slice p3 y.l[k].ins.length cap3] 36)) := (Below.refl _ wr).alloc (Nat.le_refl _) _
   have HLa := hid1 (HL.out.below HCs.out HBs.out gA)
   have rA := row_newW wr (.cells #[.string (ba y.l[k].out),.string (ba y.l[k].kind),.string (ba y.l[k].word),.slice p3 y.l[k].ins.length cap3] 36)
   have HN1 : Hid (Bf.sweepW y.l d (k + 1) y.os = Bf.sweepS y.l d (Bf.sweepW y.l d k y.os) k) := hid1 (Bf.sweepW_succ _ _ _ _)
   have hat : d.at (k : Nat) = d.st k := by
    unfold Bf.Bd.at
    rw [HDl.out,if_neg (by omega),Int.toNat_natCast]
   have HR := hid1 (HBs.out.state S _ bp cv d (k : Nat) HLa.out.build (by rw [HDl.out];omega) (by omega) (by omega))
   rw [hat] at HR
   have HRA := hid1 rA
   have HNe : Hid (¬ tS L'.ob L'.o2 wr.heap.size) := hid1 fun e => e.elim (fun e => by have h1 := HL.out.yard.o.lt;have h2 : L'.ob < wr.heap.size := h1;omega) fun e => by have h1 := HL.out.yard.mapo e;omega
   generalize Bf.sweepW y.l d k y.os = os at *
   generalize hos' : Bf.sweepW y.l d (k + 1) y.os = os' at *
   have HOs' := hid1 hos'
   generalize hwa : wr.alloc (.cells #[.string (ba y.l[k].out),.string (ba y.l[k].kind),.string (ba y.l[k].word),.slice p3 y.l[k].ins.length cap3] 36) = wa at *
   have hbad : ((d.st k).isBad = true ∧ ((d.st k).name = [102,97,105,108,101,100] ∨ (d.st k).name = [108,101,102,116])) ∨ ((d.st k).isBad = false ∧ ((d.st k).name = [] ∨ (d.st k).name = [119,97,105,116,115] ∨ (d.st k).name = [100,111,110,101])) := by
    cases d.st k with
    | no => exact .inr ⟨rfl,.inl rfl⟩
    | waits => exact .inr ⟨rfl,.inr (.inl rfl)⟩
    | done s b => exact .inr ⟨rfl,.inr (.inr rfl)⟩
    | failed c => exact .inl ⟨rfl,.inl rfl⟩
    | left => exact .inl ⟨rfl,.inr rfl⟩
   rcases hbad with ⟨hb,hn⟩ | ⟨hb,hn⟩
   ·have hNx : os' = Tf.del os y.l[k].out := by
     rw [HN1.out]
     unfold Bf.sweepS
     rw [if_pos hb,Bf.getD_at hlt]
    subst hNx
    rcases hn with hn | hn
    all_goals
     rw [hn] at HR
     go_wp2_with fail
     refine HR.out.mono ?_
     rintro e w2 ⟨rfl,g2⟩
     have HL2 := hid1 (HLa.out.below HCs.out HBs.out g2)
     have q1 := HL2.out.yard.c1
     have q3 : w2.cell? ⟨wr.heap.size,0,none⟩ = some (.string (ba y.l[k].out)) := cell_below' (cell_of_row (j := 0) HRA.out rfl) g2
     have HP := hid1 fun (V : World) (g : Below w2.heap.size w2 V) => remove_some (HL2.out.yard.o.below g) (HYb.out.trans (HL2.out.base.trans (g.mono (by have := HL2.out.yard.low;have := HL2.out.yard.lt;omega)))).errs y.l[k].out (by have := HSm.out k hlt;omega)
     go_wp2
     go_region_held3 (fun w' => w'.cell? ⟨yb,1,none⟩ = some (Ptr L'.ob) ∧ w'.cell? ⟨wr.heap.size,0,none⟩ = some (.string (ba y.l[k].out))) (first | go_keep | fail)
      (first
       | (go_at_call 75;refine (HP.out _ (by exact (Below.refl _ w2).drew)).mono ?_;rintro e w3 ⟨⟨v9,rfl⟩,⟨o',hon,hT3⟩,hB3,hK3⟩;(have hL3 := (HL2.out.below HCs.out HBs.out (Below.refl w2.heap.size w2).drew).wrote HCs.out HBs.out hon hT3 hB3 hK3);(have r1 : w3.cell? ⟨yb,1,none⟩ = some (Ptr L'.ob) := hL3.yard.c1);(have r3 : w3.cell? ⟨wr.heap.size,0,none⟩ = some (.string (ba y.l[k].out)) := hK3.cell (show w2.drew.cell? _ = _ from q3) HNe.out))
       | fail)
     all_goals
      rw [← HOs'.out] at hL3
      have HL3 := hid1 hL3
      go_wp2
      exact ⟨⟨k + 1,_,by omega,by go_num,HL3.out⟩,by simp [intOf];omega⟩
   ·have hNx : os' = os := by
     rw [HN1.out]
     unfold Bf.sweepS
     rw [if_neg (by rw [hb];simp)]
    subst hNx
    rcases hn with hn | hn | hn
    all_goals
     rw [hn] at HR
     go_wp2_with fail
     refine HR.out.mono ?_
     rintro e w2 ⟨rfl,g2⟩
     have hL2 := HLa.out.below HCs.out HBs.out g2
     rw [← HOs'.out] at hL2
     have HL2 := hid1 hL2
     go_wp2
     exact ⟨⟨k + 1,_,by omega,by go_num,HL2.out⟩,by simp [intOf];omega⟩
  ·have k1 : (y.l.length : Int) ≤ (k : Int) := by omega
   obtain rfl : k = y.l.length := by omega
   go_wp2
   go_end0
   exact ⟨rfl,_,HL.out⟩
end Go.Proofs.YtdljhggillgpfaaGreatDoor
namespace Go.Proofs.YtdljhggillgpfaaGreatDoor
open Go.RowKit Go.Shelf Go.Lib
variable {es : Nat → Addr} {At : (Nat → Prop) → World → Value → Nat → Cf.Ens → Prop} {BAt : (Nat → Prop) → World → Value → Value → Bf.Bd → Prop}
namespace Bf
noncomputable def Yd.makeP (y : Yd) (outs : List (List UInt8)) : Yd :=
 { y with os := outP y.l (y.made outs).1 ((Ru.order y.l allB1).getD []) y.os,c := (y.made outs).2 }
structure Yd.Ok (y : Yd) : Prop where
 fs : Tf.Well pathB y.fs
 os : Tf.Well pathB y.os
 l : SheetOk y.l
 c : CFit y.c
end Bf
abbrev countV (d : Bf.Bd) : Value := .agg #[.int .i64 (d.ran : Nat),.int .i64 (d.hits : Nat),.int .i64 (d.fails : Nat),.int .i64 (d.lefts : Nat)]
theorem yMake_calls (HC : Caches0 es At) (HB : Builds es Af.actO At BAt) {B : Nat} {W : World} {yb : Nat} {L : YL} {y : Bf.Yd} (h : YdAt At B W yb L y) (hY : YBase B W es) (hok : y.Ok) (ov : Value) (outs : List (List UInt8)) (hov : XRow W ov outs) (hol : outs.length ≤ 1000) (hor : ∀ p ∈ outs,∃ x ∈ y.l,x.out = p) :
  Calls Tryz.prog 72 #[Ptr yb,ov] W fun e w' => e = .returned (.tuple #[countV (y.made outs).1,.nilIface]) ∧ Below B W w' ∧ (∀ j,j < W.heap.size → j ≠ L.ob → L.o2 ≠ some j → ¬ L.SC j → w'.heap[j]? = W.heap[j]?) ∧ ∃ L',L'.tb = L.tb ∧ L'.ob = L.ob ∧ (∀ j,j < W.heap.size → L'.k j = L.k j) ∧ YdAt At B w' yb L' (y.makeP outs) := by
 have h40 := hok.l.len
 obtain ⟨o,ho⟩ := Option.isSome_iff_exists.1 hok.l.some
 have hwl : (Bf.whole y.l outs).length ≤ 1000 := Bf.whole_len (by omega) hol
 have hwr : ∀ p ∈ Bf.whole y.l outs,∃ x ∈ y.l,x.out = p := fun p hp => by
  unfold Bf.whole at hp
  split at hp
  ·obtain ⟨x,hx,e⟩ := List.mem_map.1 hp
   exact ⟨x,hx,e⟩
  ·exact hor p hp
 have hws : ∀ p ∈ Bf.whole y.l outs,p.length ≤ 300 := fun p hp => by
  obtain ⟨x,hx,rfl⟩ := hwr p hp
  have := (hok.l.small x hx).out
  omega
 have hBW : B ≤ W.heap.size := by have := h.low;have := h.lt;omega
 have gA : Below W.heap.size W (W.alloc (.cells #[.int .i64 0,.int .i64 0,.int .i64 0,.int .i64 0] 137)) := (Below.refl _ W).alloc (Nat.le_refl _) _
 have rA := row_newW W (.cells #[.int .i64 0,.int .i64 0,.int .i64 0,.int .i64 0] 137)
 have hsA : (W.alloc (.cells #[.int .i64 0,.int .i64 0,.int .i64 0,.int .i64 0] 137)).heap.size = W.heap.size + 1 := by simp
 have hya := (h.retag HC 9).below HC gA
 have HK9 : Hid (L.more W.heap.size 9 W.heap.size = 9) := hid1 (L.more_new (Nat.le_refl _))
 have HYa := hid1 hya
 have HOu := hid1 (youts_calls hya (by have h1 : y.l.length ≤ 40 := h40;show y.l.length ≤ 1000;omega))
 have HNew := hid1 fun (V : World) (g : Below W.heap.size W V) (v : Value) (hv : XRow V v (Bf.whole y.l outs)) => HB.new V B L.tb y.fs L.o1 L.lv y.l v (Bf.whole y.l outs) L.cv (hY.trans (g.mono hBW)).build.w (h.t.below g) hok.fs.rises (by have := hok.fs.few;omega) (fun f hf => ⟨by have := well_len hok.fs f hf;omega,(hok.fs.each f hf).2⟩) (h.rrow.below g) (by omega) hok.l.small hv hwl hws (by obtain ⟨p,e⟩ := h.cp;exact ⟨_,e⟩)
 have HNt : Hid (∀ (n : Nat) (w : World) (bv ev : Value),NewTells es BAt n y.fs y.l (Bf.whole y.l outs) L.cv w bv ev → ev = .nilIface ∧ ∃ p,bv = .pointer (some p) ∧ ∃ S,BAt S w (.pointer (some p)) L.cv (Bf.init y.fs y.l (Bf.whole y.l outs)) ∧ ∀ k,S k → n ≤ k) := hid1 fun n w bv ev hN => by
  rcases hN with ⟨_,⟨h1,_⟩ | ⟨_,k,hk,h1,_⟩ | ⟨_,_,h1,_⟩⟩ | ⟨_,_,_,h1,⟨p,h2⟩,S,h3,h4⟩
  ·exact absurd hok.l.fine h1
  ·obtain ⟨x,hx,e⟩ := hwr _ (List.getElem_mem hk)
   exact absurd e (h1 x hx)
  ·have := hok.l.part (Bf.whole y.l outs)
   rw [h1] at this
   cases this
  ·exact ⟨h1,p,h2,S,by rw [← h2];exact h3,h4⟩
 have HAll := hid1 fun (V : World) (hV : Below B W V) (S : Nat → Prop) (p : Addr) (hbA : BAt S V (.pointer (some p)) L.cv (Bf.init y.fs y.l (Bf.whole y.l outs))) (hCa : CaAt At L.SC V L.cv y.c) (hap : ∀ j,S j → ¬ L.SC j) (hSB : ∀ j,S j → B ≤ j) => HB.all B S L.SC V p L.cv (Bf.init y.fs y.l (Bf.whole y.l outs)) y.c hbA hCa hap (hY.trans hV).build hSB h.lowC hok.l.fine hok.l.small (Bf.init_fit fun f hf => (hok.fs.each f hf).2) hok.c
 have HMd : Hid (y.made outs = Bf.all Af.actO y.c (Bf.init y.fs y.l (Bf.whole y.l outs))) := hid1 rfl
 rw [← HMd.out] at HAll
 have hdl : (y.made outs).1.l = y.l := by
  rw [HMd.out]
  exact (Bf.allF_keeps actFit _ _ _ (Bf.init_fit fun f hf => (hok.fs.each f hf).2) hok.c).1
 have HLay := hid1 fun (V : World) (hV : Below B W V) (L' : YL) (hy : YdAt At B V yb L' { y with c := (y.made outs).2 }) (S : Nat → Prop) (p : Addr) (hb : BAt S V (.pointer (some p)) L.cv (y.made outs).1) (hSo : ∀ j,S j → j ≠ L'.ob ∧ L'.o2 ≠ some j) => ylay_calls HC HB hy (hY.trans hV) hok.l hok.os hb hdl hSo ho
 have HSwp := hid1 fun (V : World) (hV : Below B W V) (L' : YL) (os : Tf.Fs) (hy : YdAt At B V yb L' { y with c := (y.made outs).2,os := os }) (S : Nat → Prop) (p : Addr) (hb : BAt S V (.pointer (some p)) L.cv (y.made outs).1) (hSo : ∀ j,S j → j ≠ L'.ob ∧ L'.o2 ≠ some j) => ysweep_calls HC HB hy (hY.trans hV) hok.l hb hdl hSo
 have HP : Hid (y.makeP outs = { y with c := (y.made outs).2,os := Bf.sweepW y.l (y.made outs).1 y.l.length (Bf.layW y.l (y.made outs).1 o y.os) }) := hid1 (by unfold Bf.Yd.makeP Bf.outP;rw [ho];rfl)
 rw [HP.out]
 have HSl : Hid (∀ j,L.SC j → j < W.heap.size) := hid1 fun j hj => h.ca.ltG HC j hj
 have HMo : Hid (∀ j,L.o2 = some j → j < W.heap.size) := hid1 fun j e => h.mapo e
 have hobl : L.ob < W.heap.size := h.o.lt
 have HCs := hid1 HC
 have HBs := hid1 HB
 have HRA := hid1 rA
 obtain ⟨pc,ecv⟩ := h.cp
 obtain ⟨pl,cl,elv,-⟩ := h.rrow
 rw [elv,ecv] at HNew
 rw [ecv] at HNt HAll HLay HSwp
 generalize y.made outs = md at *
 obtain ⟨d,c'⟩ := md
 simp only at HAll HLay HSwp hdl ⊢
 have hov0 := hov
 have HOv := hid1 fun (V : World) (g : Below W.heap.size W V) => hov.below g
 obtain ⟨po,co,rfl,-⟩ := hov
 have HLv := hid1 (And.intro elv ecv)
 have hcase : (outs = [] ∧ Bf.whole y.l outs = y.l.map Ru.out) ∨ (outs ≠ [] ∧ Bf.whole y.l outs = outs) := by
  by_cases e : outs = []
  ·exact .inl ⟨e,by unfold Bf.whole;rw [if_pos e]⟩
  ·exact .inr ⟨e,by unfold Bf.whole;rw [if_neg e]⟩
 generalize hWa : W.alloc (.cells #[.int .i64 0,.int .i64 0,.int .i64 0,.int .i64 0] 137) = Wa at *
 have HCase := hid1 hcase
 go_enter Tryz.func72,Tryz.ntmps72
 go_upto_if 11 with fail
 go_cut [1] (fun vo wc => XRow wc vo (Bf.whole y.l outs) ∧ Below Wa.heap.size Wa wc)
 case first =>
  rcases HCase.out with ⟨rfl,hwh⟩ | ⟨hne,hwh⟩
  ·go_wp2_with fail
   refine HOu.out.mono ?_
   rintro e w1 ⟨v1,rfl,hrow,g1⟩
   have HX1 : Hid (XRow w1 v1 (Bf.whole y.l [])) := hid1 (by rw [hwh];exact XRow.of_owns hrow)
   obtain ⟨p1,k1,e1,-⟩ := XRow.of_owns hrow
   rw [List.length_map] at e1
   subst e1
   go_wp2
   go_meet
   case rel => exact ⟨HX1.out,g1⟩
  ·have zo : (0 : Int) < (outs.length : Int) := by have := List.length_pos_iff.2 hne;omega
   have HX1 : Hid (XRow Wa (.slice po outs.length co) (Bf.whole y.l outs)) := hid1 (by rw [hwh];exact HOv.out Wa gA)
   go_wp2
   go_meet
   case rel => exact ⟨HX1.out,Below.refl _ _⟩
 case rest =>
  obtain ⟨hX1,g1⟩ := hcut
  obtain ⟨w1,hw1⟩ : ∃ w1,w1 = wc := ⟨_,rfl⟩
  subst hw1
  have HX1 := hid1 hX1
  obtain ⟨p1,k1,e1,-⟩ := hX1
  subst e1
  have G1a := below_then gA g1
  have y1 := HYa.out.below HCs.out g1
  have q0 := y1.c0
  have q2 := y1.c2
  have q3 := y1.c3
  have r1 := row_below HRA.out g1
  simp only at q0 q2 q3
  rw [HLv.out.1] at q2
  rw [HLv.out.2] at q3
  have HY1 := hid1 y1
  have HR1 := hid1 r1
  have z1 := g1.size
  go_wp2
  go_region_held3 (fun w' => w'.cell? ⟨yb,0,none⟩ = some (Ptr L.tb) ∧ w'.cell? ⟨yb,2,none⟩ = some (.slice pl y.l.length cl) ∧ w'.cell? ⟨yb,3,none⟩ = some (.pointer (some pc))) (first | go_keep | fail)
   (first
    | (go_at_call 108;refine (HNew.out _ (by exact G1a.drew) _ (by exact HX1.out.below (Below.refl w1.heap.size w1).drew)).mono ?_;rintro e w2 ⟨bv,ev,rfl,g2,hN⟩;(have r0 := cell_below' (show w1.drew.cell? _ = _ from q0) g2);(have r2 := cell_below' (show w1.drew.cell? _ = _ from q2) g2);(have r3 := cell_below' (show w1.drew.cell? _ = _ from q3) g2);(obtain ⟨rfl,pb,rfl,hS⟩ := HNt.out _ _ _ _ hN))
    | fail)
  all_goals
   obtain ⟨S,hbA,hSn⟩ := hS
   have g12 : Below w1.heap.size w1 w2 := below_then (Below.refl w1.heap.size w1).drew g2
   have hSn' : ∀ j,S j → w1.heap.size ≤ j := hSn
   have G2 := below_then G1a g12
   have y2 := HY1.out.below HCs.out g12
   have z2 := g12.size
   have HSn := hid1 hSn'
   have HA2 := hid1 (HAll.out w2 (G2.mono hBW) S pb hbA (by have h2 := y2.ca;rw [HLv.out.2] at h2;exact h2) (fun j h1 h2 => by have h3 := hSn' j h1;have h4 := HSl.out j h2;omega) (fun j h1 => by have h3 := hSn' j h1;omega))
   have HR2 := hid1 (row_below HR1.out g12)
   have HG12 := hid1 g12
   go_wp2_with fail
   refine HA2.out.mono ?_
   rintro e w3 ⟨rfl,hO3,S',SC',hB3,hC3,hap3,hS3,hT3⟩
   have hB3l := HBs.out.lt _ _ _ _ _ hB3
   have z3 := hO3.size
   have hnq : ¬ (S W.heap.size ∨ L.SC W.heap.size) := fun e => by
    rcases e with e | e
    ·have := HSn.out _ e;omega
    ·have := HSl.out _ e;omega
   have r3 : w3.heap[W.heap.size]? = some (.cells #[.int .i64 0,.int .i64 0,.int .i64 0,.int .i64 0] 137 (0,0)) := (hO3.block W.heap.size (by omega) hnq).trans HR2.out
   have y3 := HY1.out.cached (c := c') (SC := SC') (by have h2 := hC3;rw [← HLv.out.2] at h2;exact h2) (by omega) (fun j hj hn => (hO3.block j (by omega) (fun e => e.elim (fun e => by have h3 := HSn.out j e;omega) hn)).trans (HG12.out.block j hj)) (fun j hj => (hT3 j hj).imp_right fun h => by omega) (fun j hj => by have h4 := HSl.out j hj;omega)
   have B3 : Below B W w3 := (G2.mono hBW).trans (hO3.below (fun j hj => by
    rcases hj with h5 | h5
    ·have h3 := HSn.out j h5;omega
    ·exact HY1.out.lowC j h5) (by omega))
   have gB : Below w3.heap.size w3 (w3.alloc (.cells #[.int .i64 (d.ran : Nat),.int .i64 (d.hits : Nat),.int .i64 (d.fails : Nat),.int .i64 (d.lefts : Nat)] 137)) := (Below.refl _ w3).alloc (Nat.le_refl _) _
   have rB := row_newW w3 (.cells #[.int .i64 (d.ran : Nat),.int .i64 (d.hits : Nat),.int .i64 (d.fails : Nat),.int .i64 (d.lefts : Nat)] 137)
   have y4 := y3.below HCs.out gB
   have HRs := hid1 fun (j : Nat) (hj : j < W.heap.size) (hn : ¬ L.SC j) => (gB.block j (by omega)).trans ((hO3.block j (by omega) (fun e => e.elim (fun e => by have := HSn.out j e;omega) hn)).trans (G2.block j hj))
   have B4 := B3.trans (gB.mono (by omega))
   have hb4 := HBs.out.same _ _ _ _ _ _ hB3 gB.size fun k hk => gB.block k (hB3l k hk)
   have hS4 : ∀ j,S' j → j ≠ L.ob ∧ L.o2 ≠ some j := fun j hj => by
    have h6 : W.heap.size ≤ j := by
     rcases hS3 j hj with h | h
     ·have := HSn.out j h;omega
     ·omega
    exact ⟨by omega,fun e => by have := HMo.out j e;omega⟩
   have HLy := hid1 (HLay.out _ B4 _ y4 S' pb hb4 hS4)
   have HRB := hid1 rB
   have HR4 := hid1 (row_below r3 gB)
   have HB4 := hid1 B4
   have hk4 : (if W.heap.size < w1.heap.size then L.more W.heap.size 9 W.heap.size else 3) = 9 := by rw [if_pos (by omega)];exact HK9.out
   have HK4 := hid1 hk4
   have z4 : w3.heap.size < (w3.alloc (.cells #[.int .i64 (d.ran : Nat),.int .i64 (d.hits : Nat),.int .i64 (d.fails : Nat),.int .i64 (d.lefts : Nat)] 137)).heap.size := by simp
   generalize hw4 : w3.alloc (.cells #[.int .i64 (d.ran : Nat),.int .i64 (d.hits : Nat),.int .i64 (d.fails : Nat),.int .i64 (d.lefts : Nat)] 137) = w4 at *
   go_wp2_with fail
   refine HLy.out.mono ?_
   rintro e w5 ⟨rfl,L5,hL5⟩
   have HL5 := hid1 hL5
   have HSw := hid1 (HSwp.out w5 (HB4.out.trans hL5.base) L5 _ hL5.yard S' pb hL5.build hL5.apart)
   go_wp2_with fail
   refine HSw.out.mono ?_
   rintro e w6 ⟨rfl,L6,hL6⟩
   have z5 := HL5.out.size
   have z6 := hL6.size
   have hno : ∀ q,W.heap.size ≤ q → q < w4.heap.size → w6.heap[q]? = w4.heap[q]? := fun q h1 h2 => by
    refine (hL6.rest q (by omega) ?_ ?_).trans (HL5.out.rest q h2 (fun e => by have e' : q = L.ob := e;omega) fun e => by have := HMo.out q e;omega)
    ·intro e
     have e' : q = L.ob := e.trans HL5.out.ob
     omega
    ·intro e
     rcases HL5.out.o2 q e with h | h
     ·have := HMo.out q h;omega
     ·omega
   have rr := (hno W.heap.size (Nat.le_refl _) (by omega)).trans HR4.out
   have rc := (hno w3.heap.size (by omega) z4).trans HRB.out
   have s0 := cell_of_row (j := 0) rc rfl
   have s1 := cell_of_row (j := 1) rc rfl
   have s2 := cell_of_row (j := 2) rc rfl
   have s3 := cell_of_row (j := 3) rc rfl
   have u0 := cell_of_row (j := 0) rr rfl
   have u1 := cell_of_row (j := 1) rr rfl
   have u2 := cell_of_row (j := 2) rr rfl
   have u3 := cell_of_row (j := 3) rr rfl
   have f0 : w6.frozen? ⟨W.heap.size,0,none⟩ = false := by simp [World.frozen?,rr]
   have f1 : w6.frozen? ⟨W.heap.size,1,none⟩ = false := by simp [World.frozen?,rr]
   have f2 : w6.frozen? ⟨W.heap.size,2,none⟩ = false := by simp [World.frozen?,rr]
   have f3 : w6.frozen? ⟨W.heap.size,3,none⟩ = false := by simp [World.frozen?,rr]
   have qq := hid1 (four_cells u0 u1 u2 u3 (.int .i64 (d.ran : Nat)) (.int .i64 (d.hits : Nat)) (.int .i64 (d.fails : Nat)) (.int .i64 (d.lefts : Nat)))
   have HK6 : Hid (L6.k W.heap.size = 9) := hid1 (by
    rw [hL6.kk _ (by omega),HL5.out.kk _ (by omega)]
    exact HK4.out)
   have HKk : Hid (∀ j,j < W.heap.size → L6.k j = L.k j) := hid1 fun j hj => by
    rw [hL6.kk j (by omega),HL5.out.kk j (by omega)]
    show (if j < w1.heap.size then L.more W.heap.size 9 j else 3) = _
    rw [if_pos (by omega)]
    exact L.more_old hj
   have HL6 := hid1 hL6
   have HRt := hid1 fun (j : Nat) (hj : j < W.heap.size) (h1 : j ≠ L.ob) (h2 : L.o2 ≠ some j) (h3 : ¬ L.SC j) => (hL6.rest j (by omega) (fun e => h1 (e.trans HL5.out.ob)) (fun e => (HL5.out.o2 j e).elim h2 (fun h => by omega))).trans ((HL5.out.rest j (by omega) h1 h2).trans (HRs.out j hj h3))
   go_wp2
   have b7 : Below B W ((((w6.setCell ⟨W.heap.size,0,none⟩ (.int .i64 (d.ran : Nat))).setCell ⟨W.heap.size,1,none⟩ (.int .i64 (d.hits : Nat))).setCell ⟨W.heap.size,2,none⟩ (.int .i64 (d.fails : Nat))).setCell ⟨W.heap.size,3,none⟩ (.int .i64 (d.lefts : Nat))) := ((((HB4.out.trans (HL5.out.base.trans HL6.out.base)).setCell (p := ⟨W.heap.size,0,none⟩) hBW _).setCell (p := ⟨W.heap.size,1,none⟩) hBW _).setCell (p := ⟨W.heap.size,2,none⟩) hBW _).setCell (p := ⟨W.heap.size,3,none⟩) hBW _
   have k7 : Kept (fun j => L6.k j = 9) w6 ((((w6.setCell ⟨W.heap.size,0,none⟩ (.int .i64 (d.ran : Nat))).setCell ⟨W.heap.size,1,none⟩ (.int .i64 (d.hits : Nat))).setCell ⟨W.heap.size,2,none⟩ (.int .i64 (d.fails : Nat))).setCell ⟨W.heap.size,3,none⟩ (.int .i64 (d.lefts : Nat))) := ((((Kept.refl _ w6).setCell (p := ⟨W.heap.size,0,none⟩) HK6.out _).setCell (p := ⟨W.heap.size,1,none⟩) HK6.out _).setCell (p := ⟨W.heap.size,2,none⟩) HK6.out _).setCell (p := ⟨W.heap.size,3,none⟩) HK6.out _
   have k8 : Kept (fun j => j = W.heap.size) w6 ((((w6.setCell ⟨W.heap.size,0,none⟩ (.int .i64 (d.ran : Nat))).setCell ⟨W.heap.size,1,none⟩ (.int .i64 (d.hits : Nat))).setCell ⟨W.heap.size,2,none⟩ (.int .i64 (d.fails : Nat))).setCell ⟨W.heap.size,3,none⟩ (.int .i64 (d.lefts : Nat))) := ((((Kept.refl (fun j => j = W.heap.size) w6).setCell (p := ⟨W.heap.size,0,none⟩) rfl _).setCell (p := ⟨W.heap.size,1,none⟩) rfl _).setCell (p := ⟨W.heap.size,2,none⟩) rfl _).setCell (p := ⟨W.heap.size,3,none⟩) rfl _
   refine bodyPost_ret (v := .tuple #[countV d,.nilIface]) ?_ rfl ⟨rfl,b7,fun j hj h1 h2 h3 => (k8.block j (by omega) (fun e => by omega)).trans (HRt.out j hj h1 h2 h3),L6,HL6.out.tb.trans HL5.out.tb,HL6.out.ob.trans HL5.out.ob,HKk.out,HL6.out.yard.aside HCs.out k7⟩
   obtain ⟨t0,t1,t2,t3⟩ := qq.out
   simp [results,Tryz.f72,go_sem,t0,t1,t2,t3]
end Go.Proofs.YtdljhggillgpfaaGreatDoor
namespace Go.Proofs.YtdljhggillgpfaaGreatDoor
open Go.RowKit Go.Shelf Go.Lib
abbrev lnV (lw : List UInt8) (pv : Value) (lt : List UInt8) (r : Ru) (iv : Value) : Value := .agg #[.string (ba lw),pv,.string (ba lt),.string (ba r.out),.string (ba r.kind),.string (ba r.word),iv]
theorem longLine_calls {W : World} (lw : List UInt8) (pv : Value) (lt : List UInt8) (r : Ru) (iv : Value) (ps : List (List UInt8)) (hp : XRow W pv ps) (hi : XRow W iv r.ins) :
  Calls Tryz.prog 11 #[lnV lw pv lt r iv] W fun e w' => ∃ b,e = .returned (.bool b) ∧ Below W.heap.size W w' ∧ (b = false → lt.length ≤ 300 ∧ ps.length ≤ 6 ∧ (∀ x ∈ ps,x.length ≤ 300) ∧ r.Small) := by
 obtain ⟨W1,hW1⟩ : ∃ W1,W.alloc (.cells #[.string (ba lw),pv,.string (ba lt),.string (ba r.out),.string (ba r.kind),.string (ba r.word),iv] 38) = W1 := ⟨_,rfl⟩
 have g1 : Below W.heap.size W W1 := by rw [← hW1];exact (Below.refl _ W).alloc (Nat.le_refl _) _
 have rA : W1.heap[W.heap.size]? = some (.cells #[.string (ba lw),pv,.string (ba lt),.string (ba r.out),.string (ba r.kind),.string (ba r.word),iv] 38 (0,0)) := by rw [← hW1];exact row_newW W _
 have c0 : W1.cell? ⟨W.heap.size,0,none⟩ = some (.string (ba lw)) := cell_of_row (j := 0) rA rfl
 have c1 : W1.cell? ⟨W.heap.size,1,none⟩ = some (pv) := cell_of_row (j := 1) rA rfl
 have c2 : W1.cell? ⟨W.heap.size,2,none⟩ = some (.string (ba lt)) := cell_of_row (j := 2) rA rfl
 have c3 : W1.cell? ⟨W.heap.size,3,none⟩ = some (.string (ba r.out)) := cell_of_row (j := 3) rA rfl
 have c4 : W1.cell? ⟨W.heap.size,4,none⟩ = some (.string (ba r.kind)) := cell_of_row (j := 4) rA rfl
 have c5 : W1.cell? ⟨W.heap.size,5,none⟩ = some (.string (ba r.word)) := cell_of_row (j := 5) rA rfl
 have c6 : W1.cell? ⟨W.heap.size,6,none⟩ = some (iv) := cell_of_row (j := 6) rA rfl
 have gB : Below W1.heap.size W1 (W1.alloc (.cells #[.string (ba r.out),.string (ba r.kind),.string (ba r.word),iv] 36)) := (Below.refl _ W1).alloc (Nat.le_refl _) _
 have rB := row_newW W1 (.cells #[.string (ba r.out),.string (ba r.kind),.string (ba r.word),iv] 36)
 have hR : RRow (W1.alloc (.cells #[.string (ba r.out),.string (ba r.kind),.string (ba r.word),iv] 36)) (.slice (some ⟨W1.heap.size,0,none⟩) 1 1) [r] :=
  ⟨_,_,rfl,Nat.le_refl _,fun h => (by cases h),fun _ => ⟨_,0,rfl,(Array.getElem?_eq_some_iff.1 rB).1,fun j hj => by
   obtain rfl : j = 0 := by simp at hj;omega
   exact ⟨cell_of_row (j := 0) rB rfl,cell_of_row (j := 1) rB rfl,cell_of_row (j := 2) rB rfl,iv,cell_of_row (j := 3) rB rfl,(hi.below g1).below gB⟩⟩⟩
 have HT := hid1 (LongTexts_any pv ps 6 300 (by omega) (by omega) ((hp.below g1).below gB).irow)
 have HR := hid1 (LongRules_any (.slice (some ⟨W1.heap.size,0,none⟩) 1 1) [r] 1 (by omega) hR)
 have HG := hid1 (And.intro g1 (below_then g1 gB))
 obtain ⟨p2,k2,rfl,-⟩ := hp
 obtain ⟨p3,k3,rfl,-⟩ := hi
 have d0 := cell_below' c0 gB
 have d1 := cell_below' c1 gB
 have d2 := cell_below' c2 gB
 clear rA rB hR gB g1
 generalize hW2 : W1.alloc (.cells #[.string (ba r.out),.string (ba r.kind),.string (ba r.word),.slice p3 r.ins.length k3] 36) = W2 at *
 by_cases h1 : 60 < lw.length
 ·have z1 : (60 : Int) < (lw.length : Int) := by omega
  clear HT HR
  go_enter Tryz.func11,Tryz.ntmps11
  go_wp2_with fail
  go_ret
  exact ⟨true,rfl,HG.out.2,fun h => by simp at h⟩
 have z1 : (lw.length : Int) ≤ (60 : Int) := by omega
 by_cases h2 : 300 < lt.length
 ·have z2 : (300 : Int) < (lt.length : Int) := by omega
  clear HT HR
  go_enter Tryz.func11,Tryz.ntmps11
  go_wp2_with fail
  go_ret
  exact ⟨true,rfl,HG.out.2,fun h => by simp at h⟩
 have z2 : (lt.length : Int) ≤ (300 : Int) := by omega
 have HZ : Hid (lt.length ≤ 300) := hid1 (by omega)
 have q1 : decide ((60 : Int) < (lw.length : Int)) = false := by rw [decide_eq_false_iff_not];omega
 have q2 : decide ((300 : Int) < (lt.length : Int)) = false := by rw [decide_eq_false_iff_not];omega
 go_enter Tryz.func11,Tryz.ntmps11
 go_wp2_with fail
 refine HT.out.mono ?_
 rintro e w3 ⟨n1,rfl,hw3,hc1⟩
 subst hw3
 clear HT
 go_wp2_with fail
 refine HR.out.mono ?_
 rintro e w4 ⟨n2,rfl,hw4,hc2⟩
 subst hw4
 have HL := hid1 (And.intro hc1 hc2)
 have hn1 : n1 = 0 ∨ n1 = 1 := by rcases hc1 with h | h;exact .inr h;exact .inl h.1
 have hn2 : n2 = 0 ∨ n2 = 1 := by rcases hc2 with h | h;exact .inr h;exact .inl h.1
 clear HR hc1 hc2
 rcases hn1 with rfl | rfl <;> rcases hn2 with rfl | rfl
 ·go_wp2
  go_ret
  refine ⟨false,rfl,HG.out.2,fun _ => ?_⟩
  obtain ⟨h1,h2⟩ := HL.out
  rcases h1 with h1 | h1
  ·omega
  rcases h2 with h2 | h2
  ·omega
  exact ⟨HZ.out,h1.2.1,h1.2.2,h2.2.2 r (by simp)⟩
 all_goals
  go_wp2
  go_ret
  exact ⟨true,rfl,HG.out.2,fun h => by simp at h⟩
end Go.Proofs.YtdljhggillgpfaaGreatDoor
namespace Go.Proofs.YtdljhggillgpfaaGreatDoor
open Go.RowKit Go.Shelf Go.Lib
namespace Rd
def lines : List UInt8 → List (List UInt8)
 | [] => []
 | c :: r => if c = 10 then [10] :: lines r else match lines r with
  | [] => [[c]]
  | x :: y => (c :: x) :: y
theorem lines_miss : ∀ (s : List UInt8),s ≠ [] → Lib.indexByte s 10 = -1 → lines s = [s]
 | [],h,_ => absurd rfl h
 | c :: r,_,h => by
  unfold Lib.indexByte at h
  by_cases hc : c = 10
  ·simp [hc] at h
  ·have hb : (c == 10) = false := by simp [hc]
   rw [hb] at h
   by_cases h1 : Lib.indexByte r 10 = -1
   ·cases r with
    | nil => simp [lines,hc]
    | cons d t =>
     have := lines_miss (d :: t) (by simp) h1
     unfold lines
     rw [if_neg hc,this]
   ·have hge := Lib.indexByte_ge r 10
    simp [h1] at h
    omega
theorem lines_hit : ∀ (s : List UInt8) (i : Nat),Lib.indexByte s 10 = (i : Int) → lines s = s.take (i + 1) :: lines (s.drop (i + 1)) ∧ i < s.length
 | [],i,h => by simp [Lib.indexByte] at h
 | c :: r,i,h => by
  unfold Lib.indexByte at h
  by_cases hc : c = 10
  ·simp [hc] at h
   obtain rfl : i = 0 := by omega
   simp [lines,hc]
  ·have hb : (c == 10) = false := by simp [hc]
   rw [hb] at h
   by_cases h1 : Lib.indexByte r 10 = -1
   ·simp [h1] at h
   ·have hge := Lib.indexByte_ge r 10
    simp [h1] at h
    obtain ⟨j,rfl⟩ : ∃ j,i = j + 1 := ⟨i - 1,by omega⟩
    obtain ⟨e1,e2⟩ := lines_hit r j (by omega)
    refine ⟨?_,by simp;omega⟩
    conv => lhs;unfold lines
    rw [if_neg hc,e1]
    rfl
theorem lines_len : ∀ (s : List UInt8),(lines s).length ≤ s.length
 | [] => by simp [lines]
 | c :: r => by
  have := lines_len r
  unfold lines
  split
  ·simp;omega
  ·split
   ·simp
   ·rename_i x y e
    rw [e] at this
    simp at this ⊢
    omega
theorem lines_each : ∀ (s : List UInt8),∀ x ∈ lines s,x.length ≤ s.length
 | [],x,h => by simp [lines] at h
 | c :: r,x,h => by
  have ih := lines_each r
  unfold lines at h
  split at h
  ·rcases List.mem_cons.1 h with rfl | h
   ·simp
   ·have := ih x h
    simp;omega
  ·split at h
   ·simp at h
    subst h
    simp
   ·rename_i a b e
    rw [e] at ih
    rcases List.mem_cons.1 h with rfl | h
    ·have := ih a (by simp)
     simp;omega
    ·have := ih x (by simp [h])
     simp;omega
def unq : List UInt8 → Option (List UInt8 × List UInt8)
 | [] => none
 | [c] => if c = 34 then some ([],[]) else none
 | c :: d :: r =>
  if c = 34 then some ([],d :: r)
  else if c = 92 then
   if d = 34 ∨ d = 92 then (unq r).map fun x => (d :: x.1,x.2)
   else if d = 110 then (unq r).map fun x => (10 :: x.1,x.2)
   else none
  else (unq (d :: r)).map fun x => (c :: x.1,x.2)
def cutKind (s : List UInt8) : List UInt8 × List UInt8 := if Lib.indexByte s 32 < 0 then (s,[]) else (s.take (Lib.indexByte s 32).toNat,s.drop (Lib.indexByte s 32).toNat)
def cutWord (s : List UInt8) : Option (List UInt8 × List UInt8) :=
 if Lib.hasPrefix s [32,34] then (unq (s.drop 2)).bind fun x => if x.1 = [] then none else some x else some ([],s)
theorem unq_len : ∀ {s : List UInt8} {x : List UInt8 × List UInt8},unq s = some x → x.1.length ≤ s.length ∧ x.2.length ≤ s.length
 | [],_,h => by cases h
 | [c],x,h => by
  unfold unq at h
  split at h
  ·cases h
   simp
  ·cases h
 | c :: d :: r,x,h => by
  unfold unq at h
  split at h
  ·cases h
   simp
  ·split at h
   ·split at h
    ·obtain ⟨y,hy,rfl⟩ := Option.map_eq_some_iff.1 h
     have := unq_len hy
     simp
     omega
    ·split at h
     ·obtain ⟨y,hy,rfl⟩ := Option.map_eq_some_iff.1 h
      have := unq_len hy
      simp
      omega
     ·cases h
   ·obtain ⟨y,hy,rfl⟩ := Option.map_eq_some_iff.1 h
    have := unq_len hy
    simp at this ⊢
    omega
theorem cutWord_both {s : List UInt8} {x : List UInt8 × List UInt8} (h : cutWord s = some x) : x.1.length ≤ s.length ∧ x.2.length ≤ s.length := by
 unfold cutWord at h
 split at h
 ·obtain ⟨y,hy,h⟩ := Option.bind_eq_some_iff.1 h
  have := unq_len hy
  simp at this
  split at h
  ·cases h
  ·cases h
   omega
 ·cases h
  simp
theorem cutWord_len {s a b : List UInt8} (h : cutWord s = some (a,b)) : b.length ≤ s.length := (cutWord_both h).2
def inputs (s : List UInt8) : Option (List (List UInt8)) :=
 if s = [] then some []
 else if Lib.hasPrefix s [32] = false ∨ [] ∈ cutB 32 (s.drop 1) then none else some (cutB 32 (s.drop 1))
def bare (s : List UInt8) : Option Ru :=
 if 0 ≤ Lib.index s [32,61,32] then
  (cutWord (cutKind (s.drop ((Lib.index s [32,61,32]).toNat + 3))).2).bind fun x => (inputs x.2).map fun l => ⟨s.take (Lib.index s [32,61,32]).toNat,(cutKind (s.drop ((Lib.index s [32,61,32]).toNat + 3))).1,x.1,l⟩
 else none
def line (s : List UInt8) : Option Ru := if Lib.hasSuffix s [10] then bare (s.take (s.length - 1)) else none
theorem cutB_each (c : UInt8) : ∀ (s : List UInt8),∀ x ∈ cutB c s,x.length ≤ s.length
 | [],x,h => by simp [cutB] at h;subst h;simp
 | d :: r,x,h => by
  have ih := cutB_each c r
  unfold cutB at h
  split at h
  ·rcases List.mem_cons.1 h with rfl | h
   ·simp
   ·have := ih x h
    simp;omega
  ·split at h
   ·simp at h
    subst h
    simp
   ·rename_i p ps e
    rw [e] at ih
    rcases List.mem_cons.1 h with rfl | h
    ·have := ih p (by simp)
     simp;omega
    ·have := ih x (by simp [h])
     simp;omega
theorem cutKind_len (s : List UInt8) : (cutKind s).2.length ≤ s.length := by
 unfold cutKind
 split <;> simp
theorem line_len {s : List UInt8} {r : Ru} (h : line s = some r) : r.out.length ≤ s.length ∧ r.word.length ≤ s.length ∧ r.ins.length ≤ s.length + 1 ∧ ∀ x ∈ r.ins,x.length ≤ s.length := by
 unfold line at h
 split at h
 ·unfold bare at h
  split at h
  ·obtain ⟨x,hx,h⟩ := Option.bind_eq_some_iff.1 h
   obtain ⟨l,hl,rfl⟩ := Option.map_eq_some_iff.1 h
   have h1 := cutWord_both hx
   have h2 := cutKind_len ((s.take (s.length - 1)).drop ((Lib.index (s.take (s.length - 1)) [32,61,32]).toNat + 3))
   simp only [List.length_drop,List.length_take] at h2
   have h3 : l.length ≤ x.2.length + 1 ∧ ∀ y ∈ l,y.length ≤ x.2.length := by
    unfold inputs at hl
    split at hl
    ·cases hl
     simp
    ·split at hl
     ·cases hl
     ·cases hl
      refine ⟨?_,fun y hy => ?_⟩
      ·have := cutB_len 32 (x.2.drop 1)
       rw [List.length_drop] at this
       omega
      ·have := cutB_each 32 _ y hy
       rw [List.length_drop] at this
       omega
   refine ⟨by simp;omega,by show x.1.length ≤ _;omega,by show l.length ≤ _;omega,fun y hy => ?_⟩
   have := h3.2 y hy
   omega
  ·cases h
 ·cases h
def codeL (ls : List (List UInt8)) (k : Nat) : Nat := if ((ls.getD k []) |> line).isSome then 0 else 1
def rules (ls : List (List UInt8)) : List Ru := ls.filterMap line
def fault (s : List UInt8) : Nat × Int :=
 if 10000 < s.length then (2,-1)
 else match Ru.first (codeL (lines s)) (lines s).length with
  | some k => (1,k)
  | none => Ru.fault (rules (lines s))
end Rd
end Go.Proofs.YtdljhggillgpfaaGreatDoor
