import Derived.Test.YthchjnopgagilaaGreatDoorPA45
set_option maxRecDepth 100000
set_option maxHeartbeats 16000000
namespace Go.Proofs.YthchjnopgagilaaGreatDoor
open Go.RowKit Go.Shelf Go.Lib
variable {es : Nat → Addr} {At : (Nat → Prop) → World → Value → Nat → Cf.Ens → Prop} {BAt : (Nat → Prop) → World → Value → Value → Bf.Bd → Prop}
def PBase (B : Nat) (W : World) (es : Nat → Addr) : Prop := ∃ w0 : World,w0.heap.size = B ∧ BuildW w0 es ∧ TErr w0 (erOf es) ∧ E12 w0 es ∧ Below B w0 W
theorem PBase.of {W : World} (h : BuildW W es) (hE : TErr W (erOf es)) (h12 : E12 W es) : PBase W.heap.size W es := ⟨W,rfl,h,hE,h12,Below.refl _ _⟩
theorem PBase.y {B : Nat} {W : World} (h : PBase B W es) : YBase B W es := by obtain ⟨w0,h1,h2,h3,_,h4⟩ := h;exact ⟨w0,h1,h2,h3,h4⟩
theorem PBase.e12 {B : Nat} {W : World} (h : PBase B W es) : E12 W es := by obtain ⟨w0,rfl,_,_,h3,h4⟩ := h;exact h3.below h4
theorem PBase.trans {B : Nat} {W W' : World} (h : PBase B W es) (hb : Below B W W') : PBase B W' es := by obtain ⟨w0,h1,h2,h3,h4,h5⟩ := h;exact ⟨w0,h1,h2,h3,h4,h5.trans hb⟩
theorem Code_er (c : Nat) (hc : c ≤ 12) (w : World) (hE : E12 w es) : Calls Tryz.prog 101 #[erOf es c] w fun e w' => e = .returned (.tuple #[.int .i64 (c : Int),.int .i64 (-1)]) ∧ Below w.heap.size w w' := by
 cases c with
 | zero => exact (Code_nil w).mono fun _ _ ⟨he,hw⟩ => ⟨he,hw ▸ Below.refl _ _⟩
 | succ k =>
  obtain ⟨c,t,hr⟩ := hE.rows k (by omega)
  have := Code_ptr (es k) es c t w hE hr
  rwa [codeOf_es hE k (by omega)] at this
theorem plMakeOf_calls (HC : Caches0 es At) (HB : Builds es Af.actO At BAt) {B : Nat} {W : World} {yb : Nat} {L : YL} {y : Bf.Yd} (h : YdAt At B W yb L y) (hY : YBase B W es) (hf : Bf.YFine Pl.l 8 y) (ov : Value) (outs : List (List UInt8)) (hov : XRow W ov outs) (hol : outs.length ≤ 100) (hor : ∀ p ∈ outs,∃ x ∈ Pl.l,x.out = p) :
  Calls Tryz.prog 300 #[Ptr yb,ov] W fun e w' => e = .returned .nilIface ∧ Below B W w' ∧ ∃ L',YStep W w' L L' ∧ YdAt At B w' yb L' (y.makeP outs) := by
 have HM := hid1 (yMake_calls HC HB h hY (hf.ok Pl.sheet) ov outs hov hol (by rw [hf.hl];exact hor))
 have HY := hid1 h
 have HCs := hid1 HC
 have hBW : B ≤ W.heap.size := by have := h.low;have := h.lt;omega
 obtain ⟨p,c,rfl,-⟩ := hov
 clear h hor
 go_enter Tryz.func300,Tryz.ntmps300
 go_wp2_with fail
 refine HM.out.mono ?_
 rintro e w1 ⟨rfl,g1,hr,L1,-,-,hk,hy1⟩
 have hz : W.heap.size ≤ w1.heap.size := g1.size
 have hS := HY.out.made2 hz hr hk
 have gA : Below w1.heap.size w1 (w1.alloc (.cells #[.int .i64 ((y.made outs).1.ran : Nat),.int .i64 ((y.made outs).1.hits : Nat),.int .i64 ((y.made outs).1.fails : Nat),.int .i64 ((y.made outs).1.lefts : Nat)] 103)) := (Below.refl _ w1).alloc (Nat.le_refl _) _
 have HE := hid1 (And.intro (g1.trans (gA.mono (by omega))) (And.intro (hS.trans (YStep.below L1 gA)) (hy1.below HCs.out gA)))
 clear HM hr hk hy1 hS
 go_wp2
 go_ret
 exact ⟨rfl,HE.out.1,L1,HE.out.2.1,HE.out.2.2⟩
theorem Pl.outN_at (q : Nat) : ∃ x ∈ Pl.l,x.out = Pl.outN q := by
 unfold Pl.outN
 have h : q % 6 < Pl.l.length := Nat.mod_lt _ (by decide)
 refine ⟨Pl.l[q % 6],List.getElem_mem h,?_⟩
 rw [List.getD_eq_getElem?_getD,List.getElem?_eq_getElem h]
 rfl
theorem xrow_one {W : World} {s : List UInt8} : XRow (W.alloc (.cells #[.string (ba s)] 9)) (.slice (some ⟨W.heap.size,0,none⟩) 1 1) [s] :=
 xrow_lit (l := [s]) (row_newR W _)
theorem plStep_calls (HC : Caches0 es At) (HB : Builds es Af.actO At BAt) {B : Nat} {W : World} {yb : Nat} {L : YL} {y : Bf.Yd} (h : YdAt At B W yb L y) (hY : YBase B W es) (hf : Bf.YFine Pl.l 8 y) (wh q : Nat) (hw : wh < 8) (hq : q ≤ 1152921504606846976) :
  Calls Tryz.prog 220 #[Ptr yb,.int .i64 wh,.int .i64 q] W fun e w' => e = .returned (erOf es (Pl.codeQ y wh q)) ∧ Below B W w' ∧ ∃ L',YStep W w' L L' ∧ YdAt At B w' yb L' (Pl.stepQ y wh q) := by
 have hBW : B ≤ W.heap.size := by have := h.low;have := h.lt;omega
 have HY := hid1 h
 have HCs := hid1 HC
 have HTr := hid1 (yTree_calls h)
 have HFi := hid1 (plFile_calls W q)
 have hfl : (Pl.file q).length ≤ 1000000 := by
  unfold Pl.file
  by_cases h0 : q % 3 = 0
  ·rw [if_pos h0];decide
  ·rw [if_neg h0]
   by_cases h1 : q % 3 = 1
   ·rw [if_pos h1];decide
   ·rw [if_neg h1];decide
 have hd3 : ((q : Int)).tdiv 3 = ((q / 3 : Nat) : Int) := rfl
 have hd3' : wrap64 ((q / 3 : Nat) : Int) = ((q / 3 : Nat) : Int) := by unfold wrap64;omega
 have hm32 : (((q / 3 : Nat) : Int)).tmod 32 = ((q / 3 % 32 : Nat) : Int) := rfl
 have HLt := hid1 (plLetters_calls W (q / 3 % 32) (Nat.mod_lt _ (by decide)))
 have HPt := hid1 fun (V : World) (g : Below W.heap.size W V) => PutK_calls (h.t.below g) (hY.trans (g.mono hBW)).errs (fun f hf' => by have := well_len hf.fs f hf';omega) (by have := hf.fs.few;omega) (Pl.file q) (Pl.lets (q / 3 % 32)) hfl
 have HRm := hid1 (RemoveK_calls h.t hY.errs (Pl.file q) hfl)
 have HMk := hid1 fun (V : World) (g : Below W.heap.size W V) (ov : Value) (outs : List (List UInt8)) (hov : XRow V ov outs) (hol : outs.length ≤ 100) (hor : ∀ p ∈ outs,∃ x ∈ Pl.l,x.out = p) => plMakeOf_calls HC HB (h.below HC g) (hY.trans (g.mono hBW)) hf ov outs hov hol hor
 have HSh := hid1 (plSheet_calls W)
 have hq0 : (0 : Int) ≤ (q : Int) := by omega
 have hcs : wh < 4 ∨ wh = 4 ∨ wh = 5 ∨ wh = 6 ∨ wh = 7 := by omega
 clear h hY hf HC HB
 rcases hcs with hlt | rfl | rfl | rfl | rfl
 ·have e1 : Pl.codeQ y wh q = Tf.putCode pathB y.fs (Pl.file q) (Pl.lets (q / 3 % 32)) := if_pos hlt
  have e2 : Pl.stepQ y wh q = { y with fs := Tf.putF pathB y.fs (Pl.file q) (Pl.lets (q / 3 % 32)) } := if_pos hlt
  rw [e1,e2]
  have hc4 : wh = 0 ∨ wh = 1 ∨ wh = 2 ∨ wh = 3 := by omega
  clear e1 e2 HRm HMk HSh hlt hw
  generalize q / 3 % 32 = n at *
  generalize q / 3 = q3 at *
  generalize Pl.file q = fl at *
  generalize Pl.lets n = lt at *
  rcases hc4 with rfl | rfl | rfl | rfl
  all_goals
   go_enter Tryz.func220,Tryz.ntmps220
   go_wp2_with fail
   refine HTr.out.mono ?_
   rintro e w1 ⟨rfl,rfl⟩
   go_wp2_with fail
   refine HFi.out.mono ?_
   rintro e w2 ⟨rfl,rfl⟩
   go_wp2_with fail
   refine HLt.out.mono ?_
   rintro e w3 ⟨rfl,g3⟩
   go_wp2_with fail
   refine (HPt.out w3 g3).mono ?_
   rintro e w4 ⟨rfl,⟨o',hon,hT⟩,hB,hK⟩
   obtain ⟨L4,hy4,hS4⟩ := (HY.out.below HCs.out g3).files2 HCs.out hT hon hK
   have HE := hid1 (And.intro ((g3.mono hBW).trans hB) (And.intro ((YStep.below L g3).trans hS4) hy4))
   clear hy4 hS4 hT hon hK hB HPt HLt HFi HTr
   go_wp2
   go_ret
   exact ⟨rfl,HE.out.1,L4,HE.out.2.1,HE.out.2.2⟩
 ·have e1 : Pl.codeQ y 4 q = if Tf.hasP y.fs (Pl.file q) then 0 else 6 := rfl
  have e2 : Pl.stepQ y 4 q = { y with fs := Tf.del y.fs (Pl.file q) } := rfl
  rw [e1,e2]
  clear e1 e2 HPt HMk HSh HLt hw hd3 hd3' hm32
  generalize Pl.file q = fl at *
  generalize (if Tf.hasP y.fs fl = true then 0 else 6) = cd at *
  go_enter Tryz.func220,Tryz.ntmps220
  go_wp2_with fail
  refine HTr.out.mono ?_
  rintro e w1 ⟨rfl,rfl⟩
  go_wp2_with fail
  refine HFi.out.mono ?_
  rintro e w2 ⟨rfl,rfl⟩
  go_wp2_with fail
  refine HRm.out.mono ?_
  rintro e w4 ⟨rfl,⟨o',hon,hT⟩,hB,hK⟩
  obtain ⟨L4,hy4,hS4⟩ := HY.out.files2 HCs.out hT hon hK
  have HE := hid1 (And.intro hB (And.intro hS4 hy4))
  clear hy4 hS4 hT hon hK hB HRm HFi HTr
  go_wp2
  go_ret
  exact ⟨rfl,HE.out.1,L4,HE.out.2.1,HE.out.2.2⟩
 ·have e1 : Pl.codeQ y 5 q = 0 := rfl
  have e2 : Pl.stepQ y 5 q = y.makeP [] := rfl
  rw [e1,e2]
  have HM := hid1 (HMk.out W (Below.refl _ _) (.slice none 0 0) [] (XRow.nil _) (by simp) (fun p hp => by simp at hp))
  clear e1 e2 HPt HMk HSh HLt hw hd3 hd3' hm32 HRm HFi HTr
  go_enter Tryz.func220,Tryz.ntmps220
  go_wp2_with fail
  refine HM.out.mono ?_
  rintro e w4 ⟨rfl,hB,L4,hS4,hy4⟩
  have HE := hid1 (And.intro hB (And.intro hS4 hy4))
  clear hy4 hS4 hB HM
  go_wp2
  go_ret
  exact ⟨rfl,HE.out.1,L4,HE.out.2.1,HE.out.2.2⟩
 ·have e1 : Pl.codeQ y 6 q = 0 := rfl
  have e2 : Pl.stepQ y 6 q = y.makeP [Pl.outN q] := rfl
  rw [e1,e2]
  have hm6 : ((q : Int)).tmod 6 = ((q % 6 : Nat) : Int) := rfl
  have hq6 : q % 6 < 6 := Nat.mod_lt _ (by decide)
  have hq6l : q % 6 < Pl.l.length := hq6
  have HON := hid1 (Pl.outN_at q)
  have hon' : Pl.outN q = (Pl.l[q % 6]).out := by
   unfold Pl.outN
   rw [List.getD_eq_getElem?_getD,List.getElem?_eq_getElem hq6l]
   rfl
  have HOe := hid1 hon'
  clear e1 e2 HPt HLt hw hd3 hd3' hm32 HRm HFi HTr hon'
  go_enter Tryz.func220,Tryz.ntmps220
  go_wp2_with fail
  refine HSh.out.mono ?_
  rintro e w1 ⟨v,rfl,g1,hN⟩
  obtain ⟨p1,c1,e1,hc1,hp1,hrr⟩ := hN.row
  obtain ⟨gr,or,rfl,hgr,hru⟩ := hrr (by decide)
  subst e1
  have d0 := (hru (q % 6) hq6l).1
  rw [← HOe.out] at d0
  have gA : Below w1.heap.size w1 (w1.alloc (.cells #[.string (ba (Pl.outN q))] 9)) := (Below.refl _ w1).alloc (Nat.le_refl _) _
  have G1 := below_then g1 gA
  have HM := hid1 (HMk.out _ G1 _ [Pl.outN q] xrow_one (by simp) (fun p hp => by obtain rfl := List.mem_singleton.1 hp;exact HON.out))
  have l6 : ((Pl.l.length : Nat) : Int) = 6 := rfl
  have l6n : Pl.l.length = 6 := rfl
  have q6i : ((q % 6 : Nat) : Int) < 6 := by omega
  have q6j : (0 : Int) ≤ ((q % 6 : Nat) : Int) := by omega
  have HG1 := hid1 G1
  clear hN hru HSh HMk g1 gA G1 hrr
  generalize q % 6 = r at *
  generalize hou : Pl.outN q = ou at *
  have HOU := hid1 hou
  clear hou
  go_wp2_with fail
  refine HM.out.mono ?_
  rintro e w4 ⟨rfl,hB,L4,hS4,hy4⟩
  have HE := hid1 (And.intro ((HG1.out.mono hBW).trans hB) (And.intro ((YStep.below L HG1.out).trans hS4) hy4))
  clear hy4 hS4 hB HM
  go_wp2
  go_ret
  exact ⟨rfl,HE.out.1,L4,HE.out.2.1,by rw [HOU.out];exact HE.out.2.2⟩
 ·have e1 : Pl.codeQ y 7 q = 0 := rfl
  have e2 : Pl.stepQ y 7 q = y.makeP [[104,100],[99,110,116]] := rfl
  rw [e1,e2]
  have gA : Below W.heap.size W (W.alloc (.cells #[.string ⟨#[104,100]⟩,.string ⟨#[99,110,116]⟩] 9)) := (Below.refl _ W).alloc (Nat.le_refl _) _
  have HM := hid1 (HMk.out (W.alloc (.cells #[.string ⟨#[104,100]⟩,.string ⟨#[99,110,116]⟩] 9)) gA (.slice (some ⟨W.heap.size,0,none⟩) 2 2) [[104,100],[99,110,116]] (xrow_lit (l := [[104,100],[99,110,116]]) (row_newR W _)) (by simp) (fun p hp => by
   simp only [List.mem_cons,List.not_mem_nil,or_false] at hp
   rcases hp with rfl | rfl
   ·exact Pl.outN_at 5
   ·exact Pl.outN_at 4))
  have HGA := hid1 gA
  clear e1 e2 HPt HMk HSh HLt hw hd3 hd3' hm32 HRm HFi HTr gA
  go_enter Tryz.func220,Tryz.ntmps220
  go_wp2_with fail
  refine HM.out.mono ?_
  rintro e w4 ⟨rfl,hB,L4,hS4,hy4⟩
  have HE := hid1 (And.intro ((HGA.out.mono hBW).trans hB) (And.intro ((YStep.below L HGA.out).trans hS4) hy4))
  clear hy4 hS4 hB HM
  go_wp2
  go_ret
  exact ⟨rfl,HE.out.1,L4,HE.out.2.1,HE.out.2.2⟩
theorem plAnswer_calls (HC : Caches0 es At) (HB : Builds es Af.actO At BAt) {B : Nat} {W : World} {yb : Nat} {L : YL} {y : Bf.Yd} (h : YdAt At B W yb L y) (hY : PBase B W es) (hf : Bf.YFine Pl.l 8 y) (v : Int) (hv : -9223372036854775808 ≤ v ∧ v ≤ 9223372036854775807) :
  Calls Tryz.prog 162 #[Ptr yb,.int .i64 v] W fun e w' => e = .returned (.int .i64 (Pl.ans y v)) ∧ Below B W w' ∧ ∃ L',YStep W w' L L' ∧ YdAt At B w' yb L' (Pl.step y v) := by
 unfold Pl.ans Pl.step
 by_cases hn : v < 0
 ·rw [if_pos hn,if_pos hn]
  have HY := hid1 h
  clear h hf HB
  go_enter Tryz.func162,Tryz.ntmps162
  go_wp2
  go_ret
  exact ⟨rfl,Below.refl _ _,L,YStep.refl _ _,HY.out⟩
 ·rw [if_neg hn,if_neg hn]
  obtain ⟨n,rfl⟩ : ∃ n : Nat,v = (n : Int) := ⟨v.toNat,by omega⟩
  rw [show ((n : Nat) : Int).toNat = n from rfl]
  have hn2 : n ≤ 9223372036854775807 := by omega
  have HSt := hid1 (plStep_calls HC HB h hY.y hf (n % 8) (n / 8) (Nat.mod_lt _ (by decide)) (by omega))
  have hm8 : ((n : Int)).tmod 8 = ((n % 8 : Nat) : Int) := rfl
  have hd8 : ((n : Int)).tdiv 8 = ((n / 8 : Nat) : Int) := rfl
  have hd8' : wrap64 ((n / 8 : Nat) : Int) = ((n / 8 : Nat) : Int) := by unfold wrap64;omega
  have hcl := Pl.codeQ_le y (n % 8) (n / 8)
  have HP := hid1 hY
  have HCs := hid1 HC
  have hBW : B ≤ W.heap.size := by have := h.low;have := h.lt;omega
  have n0 : ¬ ((n : Int) < 0) := by omega
  clear h hf HB hY hv hn
  generalize n % 8 = wh at *
  generalize n / 8 = q at *
  go_enter Tryz.func162,Tryz.ntmps162
  go_wp2_with fail
  refine HSt.out.mono ?_
  rintro e w1 ⟨rfl,g1,L1,hS1,hy1⟩
  have HCd := hid1 (Code_er (es := es) (Pl.codeQ y wh q) (by omega) w1 (HP.out.trans g1).e12)
  have HE := hid1 (And.intro hS1 hy1)
  clear HSt hS1 hy1
  generalize hgc : Pl.codeQ y wh q = c at *
  have HGC := hid1 hgc
  clear hgc
  go_wp2_with fail
  refine HCd.out.mono ?_
  rintro e w2 ⟨rfl,g2⟩
  have z1 := g1.size
  have HE2 := hid1 (And.intro (g1.trans (g2.mono (by omega))) (And.intro (HE.out.1.trans (YStep.below L1 g2)) (HE.out.2.below HCs.out g2)))
  clear HE HCd
  go_wp2
  go_ret
  exact ⟨by rw [HGC.out];rfl,HE2.out.1,L1,HE2.out.2.1,HE2.out.2.2⟩
end Go.Proofs.YthchjnopgagilaaGreatDoor
namespace Go.Proofs.YthchjnopgagilaaGreatDoor
open Go.RowKit Go.Shelf Go.Lib
abbrev zv (x : Int) : Value := .int .i64 x
def QRow (w : World) (v : Value) (l : List Int) : Prop :=
 ∃ p cap,v = .slice p l.length cap ∧ l.length ≤ cap ∧ (p = none → cap = 0) ∧ (l ≠ [] → ∃ g o,p = some ⟨g,o,none⟩ ∧ g < w.heap.size ∧ ∀ j (hj : j < l.length),w.cell? ⟨g,o + j,none⟩ = some (.int .i64 l[j]))
theorem QRow.below {w w' : World} {v : Value} {l : List Int} (h : QRow w v l) (hb : Below w.heap.size w w') : QRow w' v l := by
 obtain ⟨p,cap,rfl,h0,hn,h1⟩ := h
 refine ⟨p,cap,rfl,h0,hn,fun hl => ?_⟩
 obtain ⟨g,o,rfl,hg,hc⟩ := h1 hl
 exact ⟨g,o,rfl,Nat.lt_of_lt_of_le hg hb.size,fun j hj => cell_below' (hc j hj) hb⟩
theorem QRow.kept {w V : World} {v : Value} {l : List Int} (h : QRow w v l) (hz : w.heap.size ≤ V.heap.size) (hb : l ≠ [] → ∀ g o n c,v = .slice (some ⟨g,o,none⟩) n c → g < w.heap.size → V.heap[g]? = w.heap[g]?) : QRow V v l := by
 obtain ⟨p,cap,rfl,h0,hn,h1⟩ := h
 refine ⟨p,cap,rfl,h0,hn,fun hl => ?_⟩
 obtain ⟨g,o,rfl,hg,hc⟩ := h1 hl
 exact ⟨g,o,rfl,Nat.lt_of_lt_of_le hg hz,fun j hj => (World.cell?_of_block (a := ⟨g,o + j,none⟩) (hb hl g o _ _ rfl hg)).trans (hc j hj)⟩
theorem QRow.of_owns {w : World} {B : Nat} {v : Value} {l : List Int} (h : w.ownsRow B 3 1 v l.length (l.map zv)) : QRow w v l ∧ ∀ g o n c,v = .slice (some ⟨g,o,none⟩) n c → B ≤ g := by
 refine ⟨?_,fun g o n c e => by subst e;exact row_low4 h g rfl⟩
 rcases h.2 with ⟨rfl,hn⟩ | ⟨g,cap,cur,rfl,_,hb,h1,_⟩
 ·obtain rfl : l = [] := by simpa using hn
  exact ⟨none,0,rfl,Nat.le_refl _,fun _ => rfl,fun h => absurd rfl h⟩
 ·refine ⟨some ⟨g,0,none⟩,cap,rfl,h1,fun h => (by cases h),fun _ => ⟨g,0,rfl,(Array.getElem?_eq_some_iff.1 hb).1,fun j hj => ?_⟩⟩
  rw [Nat.zero_add,World.ownsRow.cellAt h j (by omega)]
  simp [hj]
theorem app_copyQ {w : World} {ops : Array Oper} {rest : List Oper} {o : Oper} {a : Act} {Q : Exit → Act → World → Prop} (hgd : o.guard = none) (s x : Operand) (ho : o.op = .call { callee := .builtin .append,args := #[s,x],argTypes := #[68,68] }) (i : TypeInfo) (hi : Tryz.prog.info? 3 = some i) (hz0 : i.zero = some (.int .i64 0)) (hz1 : i.size = 1) (hz2 : i.bytes = 8)
  (hs : a.eval s = .slice none 0 0) {vp : Value} {ps : List Int} (hx : a.eval x = vp) (hZ : ZRow w vp ps) (hvp : vp = .slice none 0 0 ∨ ∃ a n c,vp = .slice (some a) n c) (hl : ps.length ≤ 1000)
  (h : ∀ v' w',QRow w' v' ps → (∀ g o n c,v' = .slice (some ⟨g,o,none⟩) n c → w.heap.size ≤ g) → Below w.heap.size w w' → wpList Tryz.prog ops Q rest (a.put o.dst v') w') : wpList Tryz.prog ops Q (o :: rest) a w := by
 have n1 : World.ownsRow w w.heap.size 3 1 (.slice none 0 0) 0 [] := World.ownsRow_nil _ _ _ _
 have hlen : ∀ p n c,vp = .slice p n c → n = ps.length := fun p n c e => by
  obtain ⟨q,c',e1,-⟩ := hZ
  rw [e] at e1
  simp only [Value.slice.injEq] at e1
  exact e1.2.1
 rcases hvp with e | ⟨ad,n,c,e⟩
 ·have h0 := hlen _ _ _ e
  refine wpList_append_own_none hgd s x 68 ho w.heap.size 3 i 1 Tryz.underlying68 hi _ _ _ hs n1 (hx.trans e) (h _ w ?_ (fun g o n c e => by cases e) (Below.refl _ _))
  rw [List.length_eq_zero_iff.1 h0.symm]
  exact ⟨none,0,rfl,Nat.le_refl _,fun _ => rfl,fun h => absurd rfl h⟩
 ·obtain rfl := hlen _ _ _ e
  have hsrc : ∀ j u,(ps.map zv)[j]? = some u → w.cell? (ad.add j) = some u := fun j u hj => by
   have hjl : j < ps.length := by simpa using (List.getElem?_eq_some_iff.1 hj).1
   obtain ⟨q',c',e1,hin⟩ := hZ
   obtain ⟨g,o,e2,hg,hcur⟩ := hin (by intro e;rw [e] at hjl;simp at hjl)
   rw [e,e2] at e1
   simp only [Value.slice.injEq] at e1
   obtain rfl := Option.some.inj e1.1
   rw [List.getElem?_map,List.getElem?_eq_getElem hjl] at hj
   simp only [Option.map_some,Option.some.injEq] at hj
   rw [← hj,add_at2]
   exact hcur j hjl
  have hone : ∀ u ∈ ps.map zv,u.oneCell' = true := fun u hu => by
   obtain ⟨y,_,rfl⟩ := List.mem_map.1 hu
   rfl
  refine wpList_append_own _ hgd s x 68 ho w.heap.size 3 i (.int .i64 0) 1 8 Tryz.underlying68 hi hz0 hz1 hz2 rfl (by decide) _ _ _ hs n1 ad ps.length c (ps.map zv) (hx.trans e) (by simp) hsrc hone (by unfold maxLen;omega) (by omega) (Nat.le_refl _) ?_
  intro v1 w1 hown hgrow _
  obtain ⟨hz,hlow⟩ := QRow.of_owns (l := ps) (by simpa using hown)
  exact h v1 w1 hz hlow (below_more (Below.refl _ w) (Nat.le_refl _) n1 hgrow)
theorem SameInts_q {w : World} (a b : Value) (l : List Int) (ha : QRow w a l) (hb : QRow w b l) (hl : l.length ≤ 1000) :
  Calls Tryz.prog 51 #[a,b] w fun e w' => e = .returned (.bool true) ∧ ∃ q,w' = w.drewN q := by
 obtain ⟨pa,ca,rfl,-,-,ha⟩ := ha
 obtain ⟨pb,cb,rfl,-,-,hb⟩ := hb
 have HA := hid1 ha
 have HB := hid1 hb
 clear ha hb
 have zl : (l.length : Int) ≤ 1000 := by omega
 go_enter Tryz.func51,Tryz.ntmps51
 go_wp2
 go_loopw [5] (fun i wr => ∃ k : Nat,k ≤ l.length ∧ i = .int .i64 k ∧ ∃ q,wr = w.drewN q) (fun i _ => l.length - (intOf i).toNat)
 case atStart => exact ⟨0,Nat.zero_le _,rfl,0,rfl⟩
 case round =>
  obtain ⟨k,hk,rfl,q,rfl⟩ := hrel
  have c0 : (0 : Int) ≤ (k : Int) := by omega
  by_cases hlt : k < l.length
  ·have c1 : (k : Int) < (l.length : Int) := by omega
   obtain ⟨ga,oa,rfl,_,h1⟩ := HA.out (by intro e;rw [e] at hlt;simp at hlt)
   obtain ⟨gb,ob,rfl,_,h2⟩ := HB.out (by intro e;rw [e] at hlt;simp at hlt)
   have d1 := h1 k hlt
   have d2 := h2 k hlt
   clear h1 h2 HA HB
   generalize l[k] = y at *
   go_wp2
   go_region
   go_wp2
   exact ⟨⟨k + 1,by omega,by go_num,q + 1,rfl⟩,by simp [intOf];omega⟩
  ·have c1 : (l.length : Int) ≤ (k : Int) := by omega
   clear HA HB
   go_wp2
   go_ret
   exact ⟨rfl,q,rfl⟩
end Go.Proofs.YthchjnopgagilaaGreatDoor
namespace Go.Proofs.YthchjnopgagilaaGreatDoor
open Go.RowKit Go.Shelf Go.Lib
variable {es : Nat → Addr} {At : (Nat → Prop) → World → Value → Nat → Cf.Ens → Prop} {BAt : (Nat → Prop) → World → Value → Value → Bf.Bd → Prop}
theorem plNew_calls (HC : Caches0 es At) {W : World} (hP : PBase W.heap.size W es) :
  Calls Tryz.prog 92 #[] W fun e w' => ∃ yb L,e = .returned (Ptr yb) ∧ Below W.heap.size W w' ∧ YdAt At W.heap.size w' yb L Pl.y0 ∧ ∀ j,YOwn yb L j → W.heap.size ≤ j := by
 have HN := hid1 (yNew_calls HC W 8 (by omega) (by omega))
 have HPb := hid1 hP
 have HCs := hid1 HC
 clear hP HC
 go_enter Tryz.func92,Tryz.ntmps92
 go_wp2_with fail
 refine HN.out.mono ?_
 rintro e w1 ⟨yb,L1,rfl,g1,hy1⟩
 have HY1 := hid1 hy1
 have HSh := hid1 (plSheet_calls w1)
 clear HN hy1
 go_wp2_with fail
 refine HSh.out.mono ?_
 rintro e w2 ⟨v,rfl,g2,hN⟩
 have hz1 := g1.size
 have G2 := g1.trans (g2.mono hz1)
 have hrow := hN.row
 have HRl := hid1 (yRules_calls HCs.out (HY1.out.below HCs.out g2) (HPb.out.trans G2).y.build.w.g v Pl.l hrow (by decide) Pl.small)
 obtain ⟨p,c,e,-⟩ := hrow
 subst e
 have hz2 := g2.size
 clear HSh hN
 go_wp2_with fail
 refine HRl.out.mono ?_
 rintro e w3 ⟨ev,rfl,g3,hcase⟩
 rcases hcase with ⟨-,hb,-⟩ | ⟨rfl,-,-,L3,-,-,⟨hR,-,-,-⟩,hy3⟩
 ·exact absurd ⟨Pl.sheet.fine,Pl.sheet.some⟩ hb
 ·have HE := hid1 (And.intro (G2.trans g3) (And.intro hy3 (fun j (hj : YOwn yb L3 j) => hy3.own_low (fun j hj => by have := hR j hj;omega) hj)))
  clear HRl hR hy3
  go_wp2
  go_ret
  exact ⟨yb,L3,rfl,HE.out.1,HE.out.2.1,HE.out.2.2⟩
theorem owns_same {w V : World} {B : Nat} {e : TypeId} {s n : Nat} {v : Value} {xs : List Value} (h : w.ownsRow B e s v n xs) (hb : ∀ b,v.ownBlock = some b → b < w.heap.size → V.heap[b]? = w.heap[b]?) : V.ownsRow B e s v n xs := by
 refine ⟨h.1,?_⟩
 rcases h.2 with h2 | ⟨g,c,cu,e1,hbg,hg,h3⟩
 ·exact .inl h2
 ·exact .inr ⟨g,c,cu,e1,hbg,(hb g (by rw [e1];rfl) (Array.getElem?_eq_some_iff.1 hg).1).trans hg,h3⟩
structure PlS (At : (Nat → Prop) → World → Value → Nat → Cf.Ens → Prop) (B : Nat) (W : World) (yb : Nat) (L : YL) (y : Bf.Yd) (ps : List Int) (out : Value) (L' : YL) (wr : World) : Prop where
 yard : YdAt At B wr yb L' (Pl.run y ps)
 step : YStep W wr L L'
 base : Below B W wr
 own : wr.ownsRow W.heap.size 3 1 out ps.length ((Pl.answers y ps).map zv)
 far : ∀ b,out.ownBlock = some b → L'.k b = 9
 new : ∀ j,wr.heap.size ≤ j → L'.k j = 9
theorem PlS.next (HC : Caches0 es At) {B : Nat} {W : World} {yb : Nat} {L : YL} {y : Bf.Yd} {ps : List Int} {out : Value} {L' : YL} {wr : World} (h : PlS At B W yb L y ps out L' wr) (hBW : B ≤ W.heap.size) {x : Int} {w2 : World} {L2 : YL} (hb : Below B wr w2) (hs : YStep wr w2 L' L2) (hy : YdAt At B w2 yb L2 (Pl.step (Pl.run y ps) x)) {a : Int} (ea : a = Pl.ans (Pl.run y ps) x) {w3 : World} {g cap : Nat}
  (hown : w3.ownsRow W.heap.size 3 1 (.slice (some ⟨g,0,none⟩) (ps.length + 1) cap) (ps.length + 1) ((Pl.answers y ps).map zv ++ [zv a])) (hgrow : (w2.alloc (.cells #[zv a] 3)).grownBy w3 out.ownBlock) (hlies : out.ownBlock = some g ∨ g = (w2.alloc (.cells #[zv a] 3)).heap.size) :
  ∃ L3,PlS At B W yb L y (ps ++ [x]) (.slice (some ⟨g,0,none⟩) (ps.length + 1) cap) L3 w3 := by
 have e1 : (w2.alloc (.cells #[zv a] 3)).heap.size = w2.heap.size + 1 := by simp
 have hlt : ∀ b,out.ownBlock = some b → b < wr.heap.size ∧ W.heap.size ≤ b := fun b hb => by
  refine ⟨?_,row_low4 h.own b hb⟩
  rcases h.own.2 with ⟨e,_⟩ | ⟨g,c,cu,e,_,hbb,_⟩
  ·rw [e] at hb;cases hb
  ·rw [e] at hb;cases hb
   exact (Array.getElem?_eq_some_iff.1 hbb).1
 have hk9 : ∀ b,out.ownBlock = some b → L2.more w2.heap.size 9 b = 9 := fun b hb => by
  have h1 := (hlt b hb).1
  rw [L2.more_old (by have := hs.size;omega),hs.kk b h1]
  exact h.far b hb
 have hy3 := hy.retag HC 9
 have hz3 : w2.heap.size ≤ w3.heap.size := by have := hgrow.size;omega
 have hK : Kept (fun j => L2.more w2.heap.size 9 j = 9) w2 w3 := ⟨hz3,fun j hj hn => by
  have h1 : (w2.alloc (.cells #[zv a] 3)).heap[j]? = w2.heap[j]? := ((Below.refl _ w2).alloc (o := .cells #[zv a] 3) (Nat.le_refl _)).block j hj
  exact (hgrow.block j (by omega) fun e => hn (hk9 j e.symm)).trans h1⟩
 have hy4 := hy3.aside HC hK
 refine ⟨{ L2 with k := L2.more w2.heap.size 9 },?_,⟨?_,fun j hj h9 => ?_,fun j hj => ?_⟩,?_,?_,fun b hb => ?_,fun j hj => L2.more_new (by omega)⟩
 ·rw [Pl.run_snoc]
  exact hy4
 ·have := h.step.size;have := hs.size;omega
 ·have h1 : (w2.alloc (.cells #[zv a] 3)).heap[j]? = w2.heap[j]? := ((Below.refl _ w2).alloc (o := .cells #[zv a] 3) (Nat.le_refl _)).block j (by have := h.step.size;have := hs.size;omega)
  refine (hgrow.block j (by have := h.step.size;have := hs.size;omega) fun e => by have := (hlt j e.symm).2;omega).trans (h1.trans ?_)
  exact (hs.rest j (by have := h.step.size;omega) ((h.step.kk j hj).trans h9)).trans (h.step.rest j hj h9)
 ·have h1 := h.step.size
  have h2 := hs.size
  exact (L2.more_old (by omega)).trans ((hs.kk j (by omega)).trans (h.step.kk j hj))
 ·refine ((h.base.trans hb).alloc (by have := h.step.size;have := hs.size;omega) _).grown hgrow (by rw [e1];have := h.step.size;have := hs.size;omega) fun k hk => ?_
  have := (hlt k hk).2
  omega
 ·rw [Pl.answers_snoc,← ea,List.map_append,List.length_append]
  exact hown
 ·have hb' : g = b := Option.some.inj hb
  subst hb'
  rcases hlies with h1 | h1
  ·exact hk9 g h1
  ·exact L2.more_new (by omega)
theorem plRun_calls (HC : Caches0 es At) (HB : Builds es Af.actO At BAt) {B : Nat} {W : World} {yb : Nat} {L : YL} {y : Bf.Yd} (h : YdAt At B W yb L y) (hY : PBase B W es) (hf : Bf.YFine Pl.l 8 y) (hk9 : ∀ j,W.heap.size ≤ j → L.k j = 9) (v : Value) (ps : List Int) (hQ : QRow W v ps) (hps : ∀ x ∈ ps,-9223372036854775808 ≤ x ∧ x ≤ 9223372036854775807) (hl : ps.length ≤ 1000) (hfar : ps ≠ [] → ∀ g o n c,v = .slice (some ⟨g,o,none⟩) n c → L.k g = 9) :
  Calls Tryz.prog 93 #[Ptr yb,v] W fun e w' => ∃ u L',e = .returned u ∧ PlS At B W yb L y ps u L' w' := by
 obtain ⟨i0,hi,hz0,hz1,hz2⟩ := info_parts Tryz.infoInt
 have hBW : B ≤ W.heap.size := by have := h.low;have := h.lt;omega
 have HY := hid1 hY
 have HCs := hid1 HC
 have HBs := hid1 HB
 have HF := hid1 hf
 have HPs := hid1 hps
 have HFar := hid1 hfar
 have HS0 : Hid (PlS At B W yb L y [] (.slice none 0 0) L W) := hid1 ⟨h,YStep.refl _ _,Below.refl _ _,World.ownsRow_nil _ _ _ _,fun b hb => (by cases hb),hk9⟩
 have HQ := hid1 hQ
 obtain ⟨pv,cv,rfl,hcv,hnv,-⟩ := hQ
 have zl : (ps.length : Int) ≤ 1000 := by omega
 have zc : (ps.length : Int) ≤ (cv : Int) := by omega
 have hmin : min (ps.length : Int) 3000 = (ps.length : Int) := by omega
 clear h hY HC HB hf hk9 hps hfar
 go_enter Tryz.func93,Tryz.ntmps93
 go_wp2
 go_loopw [5,14] (fun out iv wr => ∃ (k : Nat) (L' : YL),k ≤ ps.length ∧ iv = .int .i64 k ∧ PlS At B W yb L y (ps.take k) out L' wr) (fun _ iv _ => ps.length - (intOf iv).toNat)
 case atStart => exact ⟨0,L,Nat.zero_le _,rfl,HS0.out⟩
 case round =>
  clear HS0
  obtain ⟨k,L',hk,rfl,hS⟩ := hrel
  have HS := hid1 hS
  have k0 : (0 : Int) ≤ (k : Int) := by omega
  by_cases hlt : k < ps.length
  ·have k1 : (k : Int) < (ps.length : Int) := by omega
   have hne : ps ≠ [] := by intro e;rw [e] at hlt;simp at hlt
   have hQr : QRow wr (.slice pv ps.length cv) ps := HQ.out.kept hS.step.size fun hl g o n c e hg => hS.step.rest g hg (HFar.out hl g o n c e)
   obtain ⟨p3,c3,e3,-,-,h3⟩ := hQr
   simp only [Value.slice.injEq,true_and] at e3
   obtain ⟨rfl,rfl⟩ := e3
   obtain ⟨gs,os,rfl,hgs,hcs⟩ := h3 hne
   have dk := hcs k hlt
   have HTk : Hid (ps.take (k + 1) = ps.take k ++ [ps[k]]) := hid1 (List.take_succ_eq_append_getElem hlt)
   have hx := HPs.out _ (List.getElem_mem hlt)
   have hkl : (ps.take k).length = k := by simp;omega
   clear hcs h3 HQ HPs HFar hne
   generalize ps[k] = x at *
   have HA := hid1 (plAnswer_calls HCs.out HBs.out hS.yard (HY.out.trans hS.base) (Pl.fine_run _ HF.out) x hx)
   have hml : (ps.take k).length + 1 ≤ maxLen := by unfold maxLen;omega
   clear hx hS
   go_wp2_with fail
   refine HA.out.mono ?_
   rintro e w2 ⟨rfl,g2,L2,hs2,hy2⟩
   have hown2 : w2.ownsRow W.heap.size 3 1 u5 (ps.take k).length ((Pl.answers y (ps.take k)).map zv) := owns_same HS.out.own fun b hb hlt => hs2.rest b hlt (HS.out.far b hb)
   have hzw : W.heap.size ≤ w2.heap.size := by have := HS.out.step.size;have := hs2.size;omega
   have HE := hid1 (And.intro g2 (And.intro hs2 hy2))
   clear HA g2 hs2 hy2
   generalize hga : Pl.ans (Pl.run y (ps.take k)) x = a at *
   have HGa := hid1 hga
   have hkn : ((ps.take k).length + 1) * 8 ≤ 140737488355328 := by omega
   clear hga
   go_wp2_with (at_builtin;refine wpList_append_lies _ rfl _ _ 68 rfl W.heap.size 3 i0 (.int .i64 0) 1 8 Tryz.underlying68 hi hz0 hz1 hz2 rfl (by decide) u5 (ps.take k).length ((Pl.answers y (ps.take k)).map zv) rfl (hown2.alloc _) ⟨w2.heap.size,0,none⟩ 1 1 [zv a] rfl rfl (cell_one_new _ _ _) (by simp [Value.oneCell']) (by decide) hml hkn (by simp;omega) _ rfl ?_;intro g5 cap5 w5 hown5 hgrow5 hlies5 hlt5)
   go_wp2
   obtain ⟨L3,h3⟩ := HS.out.next HCs.out hBW HE.out.1 HE.out.2.1 HE.out.2.2 HGa.out.symm hown5 hgrow5 hlies5
   rw [← HTk.out,hkl] at h3
   exact ⟨⟨k + 1,L3,by omega,by go_num,h3⟩,by simp [intOf];omega⟩
  ·obtain rfl : k = ps.length := by omega
   rw [List.take_length] at HS
   clear HQ HPs HFar hS
   go_wp2
   go_ret
   exact ⟨_,L',rfl,HS.out⟩
end Go.Proofs.YthchjnopgagilaaGreatDoor
