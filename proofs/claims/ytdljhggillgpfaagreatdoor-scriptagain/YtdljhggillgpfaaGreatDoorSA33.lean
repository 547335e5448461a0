import Derived.Test.YtdljhggillgpfaaGreatDoorSA32
set_option maxRecDepth 100000
set_option maxHeartbeats 16000000
namespace Go.Proofs.YtdljhggillgpfaaGreatDoor
open Go.RowKit Go.Shelf Go.Lib
structure YL where
 tb : Nat
 ob : Nat
 lv : Value
 cv : Value
 o1 : Option Nat
 o2 : Option Nat
 SC : Nat → Prop
 R : Nat → Prop
 k : Nat → Nat
def YL.more (L : YL) (n g : Nat) : Nat → Nat := fun j => if j < n then L.k j else g
theorem YL.more_old (L : YL) {n g j : Nat} (h : j < n) : L.more n g j = L.k j := by unfold YL.more;rw [if_pos h]
theorem YL.more_new (L : YL) {n g j : Nat} (h : n ≤ j) : L.more n g j = g := by unfold YL.more;rw [if_neg (by omega)]
structure YdAt (At : (Nat → Prop) → World → Value → Nat → Cf.Ens → Prop) (B : Nat) (W : World) (yb : Nat) (L : YL) (y : Bf.Yd) : Prop where
 row : W.heap[yb]? = some (.cells #[Ptr L.tb,Ptr L.ob,L.lv,L.cv] 78 (0,0))
 low : B ≤ yb
 t : TreeAt B W L.tb y.fs L.o1
 o : TreeAt B W L.ob y.os L.o2
 ca : CaAt At L.SC W L.cv y.c
 cp : ∃ p,L.cv = .pointer (some p)
 lowC : ∀ j,L.SC j → B ≤ j
 rows : ∀ W' : World,W.heap.size ≤ W'.heap.size → (∀ j,L.R j → W'.heap[j]? = W.heap[j]?) → RRow W' L.lv y.l
 rlt : ∀ j,L.R j → j < W.heap.size
 ky : L.k yb = 0
 kt : L.k L.tb = 1
 k1 : ∀ j,L.o1 = some j → L.k j = 1
 ko : L.k L.ob = 2
 k2 : ∀ j,L.o2 = some j → L.k j = 2
 kc : ∀ j,L.SC j → L.k j = 3
 kr : ∀ j,L.R j → L.k j = 4
variable {es : Nat → Addr} {At : (Nat → Prop) → World → Value → Nat → Cf.Ens → Prop}
theorem YdAt.lt {B : Nat} {W : World} {yb : Nat} {L : YL} {y : Bf.Yd} (h : YdAt At B W yb L y) : yb < W.heap.size := (Array.getElem?_eq_some_iff.1 h.row).1
theorem YdAt.rrow {B : Nat} {W : World} {yb : Nat} {L : YL} {y : Bf.Yd} (h : YdAt At B W yb L y) : RRow W L.lv y.l := h.rows W (Nat.le_refl _) fun _ _ => rfl
theorem YdAt.c0 {B : Nat} {W : World} {yb : Nat} {L : YL} {y : Bf.Yd} (h : YdAt At B W yb L y) : W.cell? ⟨yb,0,none⟩ = some (Ptr L.tb) := cell_of_row (j := 0) h.row rfl
theorem YdAt.c1 {B : Nat} {W : World} {yb : Nat} {L : YL} {y : Bf.Yd} (h : YdAt At B W yb L y) : W.cell? ⟨yb,1,none⟩ = some (Ptr L.ob) := cell_of_row (j := 1) h.row rfl
theorem YdAt.c2 {B : Nat} {W : World} {yb : Nat} {L : YL} {y : Bf.Yd} (h : YdAt At B W yb L y) : W.cell? ⟨yb,2,none⟩ = some L.lv := cell_of_row (j := 2) h.row rfl
theorem YdAt.c3 {B : Nat} {W : World} {yb : Nat} {L : YL} {y : Bf.Yd} (h : YdAt At B W yb L y) : W.cell? ⟨yb,3,none⟩ = some L.cv := cell_of_row (j := 3) h.row rfl
theorem YdAt.mapt {B : Nat} {W : World} {yb : Nat} {L : YL} {y : Bf.Yd} (h : YdAt At B W yb L y) {j : Nat} (e : L.o1 = some j) : j < W.heap.size := by
 have := h.t.isMap
 rw [e] at this
 exact this.2.2.lt
theorem YdAt.mapo {B : Nat} {W : World} {yb : Nat} {L : YL} {y : Bf.Yd} (h : YdAt At B W yb L y) {j : Nat} (e : L.o2 = some j) : j < W.heap.size := by
 have := h.o.isMap
 rw [e] at this
 exact this.2.2.lt
theorem YdAt.krow {B : Nat} {W W' : World} {yb : Nat} {L : YL} {y : Bf.Yd} (h : YdAt At B W yb L y) {g : Nat} (hk : Kept (fun j => L.k j = g) W W') (hg : g ≠ 0) : W'.heap[yb]? = some (.cells #[Ptr L.tb,Ptr L.ob,L.lv,L.cv] 78 (0,0)) :=
 (hk.block yb h.lt fun e => hg (by rw [← e,h.ky])).trans h.row
theorem YdAt.kfiles {B : Nat} {W W' : World} {yb : Nat} {L : YL} {y : Bf.Yd} (h : YdAt At B W yb L y) {g : Nat} (hk : Kept (fun j => L.k j = g) W W') (hg : g ≠ 1) : TreeAt B W' L.tb y.fs L.o1 :=
 h.t.kept hk (fun e => hg (by rw [← e,h.kt])) fun j hj e => hg (by rw [← e,h.k1 j hj])
theorem YdAt.kout {B : Nat} {W W' : World} {yb : Nat} {L : YL} {y : Bf.Yd} (h : YdAt At B W yb L y) {g : Nat} (hk : Kept (fun j => L.k j = g) W W') (hg : g ≠ 2) : TreeAt B W' L.ob y.os L.o2 :=
 h.o.kept hk (fun e => hg (by rw [← e,h.ko])) fun j hj e => hg (by rw [← e,h.k2 j hj])
theorem YdAt.kcache (HC : Caches0 es At) {B : Nat} {W W' : World} {yb : Nat} {L : YL} {y : Bf.Yd} (h : YdAt At B W yb L y) {g : Nat} (hk : Kept (fun j => L.k j = g) W W') (hg : g ≠ 3) : CaAt At L.SC W' L.cv y.c :=
 h.ca.sameG HC hk.size fun j hj => hk.block j (h.ca.ltG HC j hj) fun e => hg (by rw [← e,h.kc j hj])
theorem YdAt.krules {B : Nat} {W W' : World} {yb : Nat} {L : YL} {y : Bf.Yd} (h : YdAt At B W yb L y) {g : Nat} (hk : Kept (fun j => L.k j = g) W W') (hg : g ≠ 4) : ∀ V : World,W'.heap.size ≤ V.heap.size → (∀ j,L.R j → V.heap[j]? = W'.heap[j]?) → RRow V L.lv y.l := fun V hz hV =>
 h.rows V (Nat.le_trans hk.size hz) fun j hj => (hV j hj).trans (hk.block j (h.rlt j hj) fun e => hg (by rw [← e,h.kr j hj]))
theorem YdAt.aside (HC : Caches0 es At) {B : Nat} {W W' : World} {yb : Nat} {L : YL} {y : Bf.Yd} (h : YdAt At B W yb L y) (hk : Kept (fun j => L.k j = 9) W W') : YdAt At B W' yb L y :=
 ⟨h.krow hk (by decide),h.low,h.kfiles hk (by decide),h.kout hk (by decide),h.kcache HC hk (by decide),h.cp,h.lowC,h.krules hk (by decide),fun j hj => Nat.lt_of_lt_of_le (h.rlt j hj) hk.size,h.ky,h.kt,h.k1,h.ko,h.k2,h.kc,h.kr⟩
theorem YdAt.below (HC : Caches0 es At) {B : Nat} {W W' : World} {yb : Nat} {L : YL} {y : Bf.Yd} (h : YdAt At B W yb L y) (hb : Below W.heap.size W W') : YdAt At B W' yb L y := h.aside HC (.of hb)
theorem YdAt.retag (HC : Caches0 es At) {B : Nat} {W : World} {yb : Nat} {L : YL} {y : Bf.Yd} (h : YdAt At B W yb L y) (g : Nat) : YdAt At B W yb { L with k := L.more W.heap.size g } y :=
 ⟨h.row,h.low,h.t,h.o,h.ca,h.cp,h.lowC,h.rows,h.rlt,(L.more_old h.lt).trans h.ky,(L.more_old h.t.lt).trans h.kt,fun j hj => (L.more_old (h.mapt hj)).trans (h.k1 j hj),(L.more_old h.o.lt).trans h.ko,fun j hj => (L.more_old (h.mapo hj)).trans (h.k2 j hj),fun j hj => (L.more_old (h.ca.ltG HC j hj)).trans (h.kc j hj),fun j hj => (L.more_old (h.rlt j hj)).trans (h.kr j hj)⟩
theorem YdAt.files (HC : Caches0 es At) {B : Nat} {W W' : World} {yb : Nat} {L : YL} {y : Bf.Yd} (h : YdAt At B W yb L y) {fs : Tf.Fs} {o' : Option Nat} (hT : TreeAt B W' L.tb fs o') (hon : OldNew W L.o1 o') (hK : Kept (tS L.tb L.o1) W W') : YdAt At B W' yb { L with o1 := o',k := L.more W.heap.size 1 } { y with fs := fs } := by
 have hk : Kept (fun j => L.k j = 1) W W' := ⟨hK.size,fun j hj hs => hK.block j hj fun e => hs (e.elim (fun e => by rw [e];exact h.kt) fun e => h.k1 j e)⟩
 have hS : ∀ j,L.SC j → L.more W.heap.size 1 j = 3 := fun j hj => by rw [L.more_old (h.ca.ltG HC j hj)];exact h.kc j hj
 refine ⟨h.krow hk (by decide),h.low,hT,h.kout hk (by decide),h.kcache HC hk (by decide),h.cp,h.lowC,h.krules hk (by decide),fun j hj => Nat.lt_of_lt_of_le (h.rlt j hj) hK.size,(L.more_old h.lt).trans h.ky,(L.more_old h.t.lt).trans h.kt,fun j hj => ?_,(L.more_old h.o.lt).trans h.ko,fun j hj => (L.more_old (h.mapo hj)).trans (h.k2 j hj),hS,fun j hj => (L.more_old (h.rlt j hj)).trans (h.kr j hj)⟩
 rcases hon with e | ⟨i,e,hi⟩
 ·have hj' : L.o1 = some j := e ▸ hj
  exact (L.more_old (h.mapt hj')).trans (h.k1 j hj')
 ·have : i = j := by have := e.symm.trans hj;exact Option.some.inj this
  subst this
  exact L.more_new hi
theorem YdAt.outs (HC : Caches0 es At) {B : Nat} {W W' : World} {yb : Nat} {L : YL} {y : Bf.Yd} (h : YdAt At B W yb L y) {os : Tf.Fs} {o' : Option Nat} (hT : TreeAt B W' L.ob os o') (hon : OldNew W L.o2 o') (hK : Kept (tS L.ob L.o2) W W') : YdAt At B W' yb { L with o2 := o',k := L.more W.heap.size 2 } { y with os := os } := by
 have hk : Kept (fun j => L.k j = 2) W W' := ⟨hK.size,fun j hj hs => hK.block j hj fun e => hs (e.elim (fun e => by rw [e];exact h.ko) fun e => h.k2 j e)⟩
 have hS : ∀ j,L.SC j → L.more W.heap.size 2 j = 3 := fun j hj => by rw [L.more_old (h.ca.ltG HC j hj)];exact h.kc j hj
 refine ⟨h.krow hk (by decide),h.low,h.kfiles hk (by decide),hT,h.kcache HC hk (by decide),h.cp,h.lowC,h.krules hk (by decide),fun j hj => Nat.lt_of_lt_of_le (h.rlt j hj) hK.size,(L.more_old h.lt).trans h.ky,(L.more_old h.t.lt).trans h.kt,fun j hj => (L.more_old (h.mapt hj)).trans (h.k1 j hj),(L.more_old h.o.lt).trans h.ko,fun j hj => ?_,hS,fun j hj => (L.more_old (h.rlt j hj)).trans (h.kr j hj)⟩
 rcases hon with e | ⟨i,e,hi⟩
 ·have hj' : L.o2 = some j := e ▸ hj
  exact (L.more_old (h.mapo hj')).trans (h.k2 j hj')
 ·have : i = j := by have := e.symm.trans hj;exact Option.some.inj this
  subst this
  exact L.more_new hi
theorem YdAt.cached {B : Nat} {W W' : World} {yb : Nat} {L : YL} {y : Bf.Yd} (h : YdAt At B W yb L y) {c : Bf.Ca} {SC : Nat → Prop} (hC : CaAt At SC W' L.cv c) (hz : W.heap.size ≤ W'.heap.size) (hb : ∀ j,j < W.heap.size → ¬ L.SC j → W'.heap[j]? = W.heap[j]?) (hS : ∀ j,SC j → L.SC j ∨ W.heap.size ≤ j) (hlt : ∀ j,L.SC j → j < W.heap.size) : YdAt At B W' yb { L with SC := SC,k := L.more W.heap.size 3 } { y with c := c } := by
 have hk : Kept (fun j => L.k j = 3) W W' := ⟨hz,fun j hj hs => hb j hj fun e => hs (h.kc j e)⟩
 have hB : B ≤ W.heap.size := by have := h.low;have := h.lt;omega
 refine ⟨h.krow hk (by decide),h.low,h.kfiles hk (by decide),h.kout hk (by decide),hC,h.cp,fun j hj => ?_,h.krules hk (by decide),fun j hj => Nat.lt_of_lt_of_le (h.rlt j hj) hz,(L.more_old h.lt).trans h.ky,(L.more_old h.t.lt).trans h.kt,fun j hj => (L.more_old (h.mapt hj)).trans (h.k1 j hj),(L.more_old h.o.lt).trans h.ko,fun j hj => (L.more_old (h.mapo hj)).trans (h.k2 j hj),fun j hj => ?_,fun j hj => (L.more_old (h.rlt j hj)).trans (h.kr j hj)⟩
 ·rcases hS j hj with e | e
  ·exact h.lowC j e
  ·omega
 ·rcases hS j hj with e | e
  ·exact (L.more_old (hlt j e)).trans (h.kc j e)
  ·exact L.more_new e
theorem YdAt.ruled (HC : Caches0 es At) {B : Nat} {W w1 : World} {yb : Nat} {L : YL} {y : Bf.Yd} (h : YdAt At B W yb L y) (hb : Below W.heap.size W w1) {lv : Value} {l : List Ru} (hl : ∀ V : World,w1.heap.size ≤ V.heap.size → (∀ j,W.heap.size ≤ j → j < w1.heap.size → V.heap[j]? = w1.heap[j]?) → RRow V lv l) (hr : (w1.setCell ⟨yb,2,none⟩ lv).heap[yb]? = some (.cells #[Ptr L.tb,Ptr L.ob,lv,L.cv] 78 (0,0))) :
  YdAt At B (w1.setCell ⟨yb,2,none⟩ lv) yb { L with lv := lv,R := fun j => W.heap.size ≤ j ∧ j < w1.heap.size,k := L.more W.heap.size 4 } { y with l := l } := by
 have e1 : (w1.setCell ⟨yb,2,none⟩ lv).heap.size = w1.heap.size := by simp
 have hk : Kept (fun j => L.k j = 0) W (w1.setCell ⟨yb,2,none⟩ lv) := ⟨by rw [e1];exact hb.size,fun j hj hs => (Below.heap_setCell _ _ _ _ fun e => hs (by have e' : j = yb := e;rw [e'];exact h.ky)).trans (hb.block j hj)⟩
 have hyl := h.lt
 have hS : ∀ j,L.SC j → L.more W.heap.size 4 j = 3 := fun j hj => by rw [L.more_old (h.ca.ltG HC j hj)];exact h.kc j hj
 refine ⟨hr,h.low,h.kfiles hk (by decide),h.kout hk (by decide),h.kcache HC hk (by decide),h.cp,h.lowC,fun V hz hV => hl V (by rw [← e1];exact hz) fun j h1 h2 => (hV j ⟨h1,h2⟩).trans (Below.heap_setCell _ _ _ _ fun e => by have e' : j = yb := e;omega),fun j hj => by rw [e1];exact hj.2,(L.more_old h.lt).trans h.ky,(L.more_old h.t.lt).trans h.kt,fun j hj => (L.more_old (h.mapt hj)).trans (h.k1 j hj),(L.more_old h.o.lt).trans h.ko,fun j hj => (L.more_old (h.mapo hj)).trans (h.k2 j hj),hS,fun j hj => L.more_new hj.1⟩
end Go.Proofs.YtdljhggillgpfaaGreatDoor
namespace Go.Proofs.YtdljhggillgpfaaGreatDoor
open Go.RowKit Go.Shelf Go.Lib
variable {es : Nat → Addr} {At : (Nat → Prop) → World → Value → Nat → Cf.Ens → Prop}
theorem yNew_calls (HC : Caches0 es At) (W : World) (m : Nat) (h1 : 1 ≤ m) (h2 : m ≤ 100) :
  Calls Tryz.prog 24 #[.int .i64 m] W fun e w' => ∃ yb L,e = .returned (.tuple #[Ptr yb,.nilIface]) ∧ Below W.heap.size W w' ∧ YdAt At W.heap.size w' yb L ⟨[],[],[],some (m,[])⟩ := by
 have H0 := hid1 (HC.make W m h1 h2)
 have HCs := hid1 HC
 go_enter Tryz.func24,Tryz.ntmps24
 go_wp2_with fail
 refine H0.out.mono ?_
 rintro e w1 ⟨p,S,rfl,g1,hA,hS⟩
 have HA := hid1 (And.intro hA hS)
 have N1 := hid1 (New_calls w1)
 go_wp2_with fail
 refine N1.out.mono ?_
 rintro e w2 ⟨rfl,hT,g2⟩
 have N2 := hid1 (New_calls w2)
 have HT := hid1 hT
 go_wp2_with fail
 refine N2.out.mono ?_
 rintro e w3 ⟨rfl,hO,g3⟩
 have HO := hid1 hO
 go_wp2
 go_ret2
 have hO := HO.out
 have gA : Below w3.heap.size w3 (w3.alloc (.cells #[Ptr w1.heap.size,Ptr w2.heap.size,.slice none 0 0,.pointer (some p)] 78)) := (Below.refl _ w3).alloc (Nat.le_refl _) _
 have z1 := g1.size
 have zt := HT.out.lt
 have zo := hO.lt
 have hlt : ∀ j,S j → j < w1.heap.size := HCs.out.lt _ _ _ _ _ HA.out.1
 refine ⟨w3.heap.size,⟨w1.heap.size,w2.heap.size,.slice none 0 0,.pointer (some p),none,none,S,fun _ => False,fun j => if j < w1.heap.size then 3 else if j = w1.heap.size then 1 else if j = w2.heap.size then 2 else 0⟩,rfl,below_then g1 (below_then g2 (below_then g3 gA)),?_⟩
 have e1 : ¬ w3.heap.size < w1.heap.size := by omega
 have e2 : w3.heap.size ≠ w1.heap.size := by omega
 have e3 : w3.heap.size ≠ w2.heap.size := by omega
 have e4 : ¬ w2.heap.size < w1.heap.size := by omega
 have e5 : w2.heap.size ≠ w1.heap.size := by omega
 exact ⟨row_newW w3 _,by omega,((HT.out.below g3).below gA).mono z1,(hO.below gA).mono (by omega),⟨⟨_,rfl⟩,HCs.out.same _ _ _ _ _ _ HA.out.1 (by have := gA.size;omega) fun k hk => (gA.block k (by have := hlt k hk;omega)).trans ((g3.block k (by have := hlt k hk;omega)).trans (g2.block k (hlt k hk)))⟩,⟨_,rfl⟩,HA.out.2,fun W' _ _ => RRow.nil W',fun j h => h.elim,
  (by simp [e1,e2,e3]),(by simp),fun j h => (by cases h),(by simp [e4,e5]),fun j h => (by cases h),fun j hj => (by simp [hlt j hj]),fun j h => h.elim⟩
theorem yTree_calls {B : Nat} {W : World} {yb : Nat} {L : YL} {y : Bf.Yd} (h : YdAt At B W yb L y) : Calls Tryz.prog 58 #[Ptr yb] W fun e w' => e = .returned (Ptr L.tb) ∧ w' = W := by
 have c := h.c0
 go_enter Tryz.func58,Tryz.ntmps58
 go_wp2
 go_ret
 exact ⟨rfl,rfl⟩
theorem yOut_calls {B : Nat} {W : World} {yb : Nat} {L : YL} {y : Bf.Yd} (h : YdAt At B W yb L y) : Calls Tryz.prog 76 #[Ptr yb] W fun e w' => e = .returned (Ptr L.ob) ∧ w' = W := by
 have c := h.c1
 go_enter Tryz.func76,Tryz.ntmps76
 go_wp2
 go_ret
 exact ⟨rfl,rfl⟩
theorem youts_calls {B : Nat} {W : World} {yb : Nat} {L : YL} {y : Bf.Yd} (h : YdAt At B W yb L y) (hl : y.l.length ≤ 1000) :
  Calls Tryz.prog 81 #[Ptr yb] W fun e w' => ∃ u,e = .returned u ∧ w'.ownsRow W.heap.size 9 1 u y.l.length ((y.l.map Ru.out).map sv) ∧ Below W.heap.size W w' := by
 have c := h.c2
 obtain ⟨p,cap,e,hcap,-,hin⟩ := h.rrow
 rw [e] at c
 have HI := hid1 hin
 obtain ⟨i0,hi,hz0,hz1,hz2⟩ := info_parts Tryz.infoStr
 generalize y.l = l at *
 go_enter Tryz.func81,Tryz.ntmps81
 go_wp2
 go_loopw [3,11] (fun ov iv wr => ∃ j : Nat,j ≤ l.length ∧ iv = .int .i64 j ∧ wr.ownsRow W.heap.size 9 1 ov j (((l.take j).map Ru.out).map sv) ∧ Below W.heap.size W wr) (fun _ iv _ => l.length - (intOf iv).toNat)
 case atStart => exact ⟨0,Nat.zero_le _,rfl,World.ownsRow_nil _ _ _ _,Below.refl _ _⟩
 case round =>
  obtain ⟨j,hj,rfl,hO,B⟩ := hrel
  have HO := hid1 hO
  have j0 : (0 : Int) ≤ (j : Int) := by omega
  by_cases hlt : j < l.length
  ·have j1 : (j : Int) < (l.length : Int) := by omega
   obtain ⟨g,o,rfl,hg,hc⟩ := HI.out (by intro e;rw [e] at hlt;simp at hlt)
   obtain ⟨b0,b1,b2,v3,b3,bx⟩ := hc j hlt
   have d0 := cell_below' b0 B
   have d1 := cell_below' b1 B
   have d2 := cell_below' b2 B
   have d3 := cell_below' b3 B
   obtain ⟨p3,cap3,rfl,-⟩ := bx
   have hst : ∀ (a : Addr) (m : Mode) (W : World),Sem.run Tryz.prog (store a (.slice p3 l[j].ins.length cap3) m) W = stored Tryz.prog W a (.slice p3 l[j].ins.length cap3) m := fun a m W => run_store _ W a _ m rfl
   have HS : Hid (((l.take (j + 1)).map Ru.out).map sv = ((l.take j).map Ru.out).map sv ++ [sv l[j].out]) := hid1 (by
    rw [List.take_succ_eq_append_getElem hlt,List.map_append,List.map_append]
    rfl)
   have hbz := B.size
   have hml : j + 1 ≤ maxLen := by unfold maxLen;omega
   have B3 := B.alloc hbz (.cells #[.string (ba l[j].out),.string (ba l[j].kind),.string (ba l[j].word),.slice p3 l[j].ins.length cap3] 36)
   have hrow := HO.out.alloc (.cells #[.string (ba l[j].out),.string (ba l[j].kind),.string (ba l[j].word),.slice p3 l[j].ins.length cap3] 36)
   have hbz3 := B3.size
   go_wp2_with (at_builtin;refine wpList_append_own _ rfl _ _ 22 rfl W.heap.size 9 i0 (.string ⟨#[]⟩) 1 16 Tryz.underlying22 hi hz0 hz1 hz2 rfl (by decide) _ _ _ rfl (hrow.alloc _) ⟨wr.heap.size + 1,0,none⟩ 1 1 [.string (ba l[j].out)] rfl rfl (one_new _ _ _ _ (by simp)) (by simp [Value.oneCell']) hml (by omega) (by simp;omega) ?_;intro v' w4 hown' hgrow _)
   exact ⟨⟨j + 1,by omega,by go_num,by rw [HS.out];exact hown',below_appended B3 hbz3 hrow hgrow⟩,by simp [intOf];omega⟩
  ·have j1 : (l.length : Int) ≤ (j : Int) := by omega
   obtain rfl : j = l.length := by omega
   have hO := HO.out
   rw [List.take_length] at hO
   have HQ := hid1 hO
   go_wp2
   go_ret
   exact ⟨_,rfl,HQ.out,B⟩
end Go.Proofs.YtdljhggillgpfaaGreatDoor
namespace Go.Proofs.YtdljhggillgpfaaGreatDoor
open Go.RowKit Go.Shelf Go.Lib
variable {es : Nat → Addr} {At : (Nat → Prop) → World → Value → Nat → Cf.Ens → Prop}
structure SheetOk (l : List Ru) : Prop where
 fine : (Ru.fault l).1 = 0
 some : (Ru.order l allB1).isSome = true
 small : ∀ x ∈ l,x.Small
theorem SheetOk.len {l : List Ru} (h : SheetOk l) : l.length ≤ 40 := (Ru.fault_ok h.fine).1
theorem SheetOk.nil : SheetOk [] := ⟨by decide,by decide,fun x hx => by simp at hx⟩
theorem SheetOk.part {l : List Ru} (h : SheetOk l) (outs : List (List UInt8)) : (Ru.order l (Bf.need l outs)).isSome = true := by
 cases ho : Ru.order l (Bf.need l outs) with
 | some _ => rfl
 | none =>
  exfalso
  obtain ⟨o,e⟩ := Option.isSome_iff_exists.1 h.some
  obtain ⟨h1,h2⟩ := Ru.order_some e
  obtain ⟨i,t,hi,hw⟩ := Ru.order_none2 (Ru.need_closed l outs) ho
  exact h1.none i t (h2 i (Ru.need_lt hi) rfl) hw
theorem yfresh_calls {B : Nat} {W : World} {yb : Nat} {L : YL} {y : Bf.Yd} (h : YdAt At B W yb L y) (hW : WantW W es) (hfs : Tf.Well pathB y.fs) (hl : SheetOk y.l) (out : List UInt8) (hout : ∃ x ∈ y.l,x.out = out) :
  Calls Tryz.prog 82 #[Ptr yb,.string (ba out)] W fun e w' => e = .returned (.bool (!Bf.off y.fs y.os y.l out)) ∧ Below W.heap.size W w' := by
 have hol : out.length ≤ 100 := by
  obtain ⟨x,hx,rfl⟩ := hout
  exact (hl.small x hx).out
 have HW0 := hid1 fun (V : World) (g : Below W.heap.size W V) => wOf_calls (hW.below g) (h.t.below g) (fun x b hb => (hfs.each _ (Bf.get_mem hb)).2) L.lv y.l (h.rrow.below g) (by have := hl.len;omega) hl.small out (by omega)
 have HG := hid1 fun (V : World) (g : Below W.heap.size W V) => Get_calls (h.o.below g) out (by omega)
 have c0 := h.c0
 have c1 := h.c1
 have c2 := h.c2
 have HP : Hid (∀ s ev (w : World),OfTells es y.fs y.l out w s ev → s = (Bf.want Af.actO y.fs y.l out).1 ∧ ev = erOf es (Bf.want Af.actO y.fs y.l out).2) := hid1 fun s ev w hO => by
  rcases hO with ⟨h1,_⟩ | ⟨_,h1,_⟩ | ⟨_,_,h1,_⟩ | ⟨_,_,_,h1,h2⟩
  ·exact absurd hl.fine h1
  ·obtain ⟨x,hx,e⟩ := hout
   exact absurd e (h1 x hx)
  ·have := hl.part [out]
   rw [h1] at this
   cases this
  ·exact ⟨h1,h2⟩
 have hwe : (Bf.want Af.actO y.fs y.l out).2 ≠ 0 → (Bf.want Af.actO y.fs y.l out).1 = [] := want_err
 have HQ : Hid (∀ (b : Bool) (x : List UInt8),b = (Tf.get y.os out).isSome → x = (Tf.get y.os out).getD [] → (!Bf.off y.fs y.os y.l out) = (b == decide ((Bf.want Af.actO y.fs y.l out).2 = 0) && x == (Bf.want Af.actO y.fs y.l out).1)) := hid1 fun b x hb hx => by
  unfold Bf.off
  subst hb hx
  by_cases h0 : (Bf.want Af.actO y.fs y.l out).2 = 0
  ·rw [if_pos h0,decide_eq_true h0]
   cases Tf.get y.os out with
   | none => simp
   | some b => simp [bne]
  ·rw [if_neg h0,decide_eq_false h0,hwe h0]
   cases Tf.get y.os out with
   | none => simp
   | some b => simp
 have hhas : Tf.hasP y.os out = (Tf.get y.os out).isSome := by
  unfold Tf.hasP Tf.get
  rw [Option.isSome_map,Bool.eq_iff_iff,List.any_eq_true,List.find?_isSome]
 obtain ⟨pl,cl,elv,-⟩ := h.rrow
 rw [elv] at c2 HW0
 have HH := hid1 hhas
 rw [HH.out] at HG
 generalize Tf.get y.os out = gt at *
 generalize hwant : Bf.want Af.actO y.fs y.l out = wt at *
 obtain ⟨wb,wc⟩ := wt
 have HE := hid1 (HQ.out gt.isSome (gt.getD []) rfl rfl)
 rw [HE.out]
 have hyc : (∃ ev,(erOf es wc = ev ∧ ev = .nilIface) ∧ decide (wc = 0) = true) ∨ ∃ ev,(erOf es wc = ev ∧ ∃ t u,ev = .iface t u) ∧ decide (wc = 0) = false := by
  cases wc with
  | zero => exact .inl ⟨_,⟨rfl,rfl⟩,rfl⟩
  | succ n => exact .inr ⟨_,⟨rfl,_,_,rfl⟩,rfl⟩
 simp only at HP ⊢
 generalize gt.getD [] = gx at *
 generalize gt.isSome = gb at *
 rcases hyc with ⟨ev,⟨eev,rfl⟩,edc⟩ | ⟨ev,⟨eev,t,u,rfl⟩,edc⟩
 all_goals
  rw [edc]
  rw [eev] at HP
  cases gb
  all_goals
   go_enter Tryz.func82,Tryz.ntmps82
   go_wp2
   go_region_held3 (fun w' => w'.cell? ⟨yb,0,none⟩ = some (Ptr L.tb) ∧ w'.cell? ⟨yb,2,none⟩ = some (.slice pl y.l.length cl)) (first | go_keep | fail)
    (first
     | (go_at_call 79;refine (HW0.out _ (by exact (Below.refl _ W).drew)).mono ?_;rintro e w1 ⟨s,ev,rfl,g1,hO⟩;(have G1 := below_then (Below.refl W.heap.size W).drew g1);(have q0 := cell_below' (show W.drew.cell? _ = _ from c0) g1);(have q2 := cell_below' (show W.drew.cell? _ = _ from c2) g1);(obtain ⟨rfl,rfl⟩ := HP.out _ _ _ hO))
     | fail)
   all_goals
    have q1 := cell_below' c1 G1
    have HG1 := hid1 (HG.out w1 G1)
    go_wp2_with fail
    refine HG1.out.mono ?_
    rintro e w2 ⟨rfl,g2⟩
    have G2 := below_then G1 g2
    go_wp2
    go_ret
    exact ⟨rfl,G2⟩
theorem yStaleH_calls {B : Nat} {W : World} {yb : Nat} {L : YL} {y : Bf.Yd} (HC : Caches0 es At) (h : YdAt At B W yb L y) (hW : WantW W es) (hfs : Tf.Well pathB y.fs) (hl : SheetOk y.l) :
  Calls Tryz.prog 55 #[Ptr yb] W fun e w' => ∃ u,e = .returned u ∧ (∃ B',HRow B' w' u (Bf.stale y.fs y.os y.l)) ∧ Below W.heap.size W w' := by
 have h40 := hl.len
 have HO := hid1 (youts_calls h (by omega))
 have HF := hid1 fun (V : World) (g : Below W.heap.size W V) (j : Nat) (hj : j < y.l.length) => yfresh_calls (h.below HC g) (hW.below g) hfs hl y.l[j].out ⟨_,List.getElem_mem hj,rfl⟩
 obtain ⟨i0,hi,hz0,hz1,hz2⟩ := info_parts Tryz.infoStr
 have HSt : Hid (Bf.stale y.fs y.os y.l = Af.srt ((y.l.map Ru.out).filter (Bf.off y.fs y.os y.l))) := hid1 rfl
 generalize Bf.stale y.fs y.os y.l = st at *
 generalize Bf.off y.fs y.os y.l = of at *
 generalize y.l = l at *
 go_enter Tryz.func55,Tryz.ntmps55
 go_wp2_with fail
 refine HO.out.mono ?_
 rintro e w1 ⟨u,rfl,hrow,g1⟩
 have HX := hid1 (XRow.of_owns hrow)
 obtain ⟨pu,cu,eu,-,-,hin⟩ := XRow.of_owns hrow
 have ln : (l.map Ru.out).length = l.length := by simp
 rw [ln] at eu
 subst eu
 have HI : Hid (l ≠ [] → ∃ g o,pu = some ⟨g,o,none⟩ ∧ g < w1.heap.size ∧ ∀ j (hj : j < l.length),w1.cell? ⟨g,o + j,none⟩ = some (.string (ba l[j].out))) := hid1 fun hne => by
  obtain ⟨g,o,e,hg,hc⟩ := hin (by simpa using hne)
  exact ⟨g,o,e,hg,fun j hj => by rw [hc j (by simp [hj])];simp⟩
 go_wp2
 go_loopw [3,9] (fun sv' iv wr => ∃ (j : Nat) (r : List (List UInt8)),j ≤ l.length ∧ iv = .int .i64 j ∧ r = ((l.take j).map Ru.out).filter of ∧ wr.ownsRow w1.heap.size 9 1 sv' r.length (r.map sv) ∧ Below w1.heap.size w1 wr) (fun _ iv _ => l.length - (intOf iv).toNat)
 case atStart => exact ⟨0,[],Nat.zero_le _,rfl,by simp,World.ownsRow_nil _ _ _ _,Below.refl _ _⟩
 case round =>
  obtain ⟨j,r,hj,rfl,hr,hO,B⟩ := hrel
  have HO := hid1 hO
  have HR := hid1 hr
  have hrl : r.length ≤ j := by
   rw [hr]
   refine Nat.le_trans (List.length_filter_le _ _) ?_
   simp
   omega
  have j0 : (0 : Int) ≤ (j : Int) := by omega
  have GB := below_then g1 B
  by_cases hlt : j < l.length
  ·have j1 : (j : Int) < (l.length : Int) := by omega
   obtain ⟨g,o,rfl,hg,hc⟩ := HI.out (by intro e;rw [e] at hlt;simp at hlt)
   have d0 := cell_below' (hc j hlt) B
   have HF1 := hid1 (HF.out wr GB j hlt)
   have HN : Hid (((l.take (j + 1)).map Ru.out).filter of = r ++ if of l[j].out = true then [l[j].out] else []) := hid1 (by
    rw [List.take_succ_eq_append_getElem hlt,List.map_append,List.filter_append,← HR.out]
    congr 1
    by_cases h : of l[j].out = true
    ·rw [if_pos h];simp [h]
    ·rw [if_neg h];simp [h])
   generalize l[j].out = x at *
   go_wp2_with fail
   refine HF1.out.mono ?_
   rintro e w2 ⟨rfl,g2⟩
   have B2 := below_then B g2
   have hO2 : w2.ownsRow w1.heap.size 9 1 u3 r.length (r.map sv) := HO.out.kept (row := none) ⟨g2.os,g2.tape,g2.output,g2.size,fun k hk _ => g2.block k hk⟩ (by cases u3.ownBlock <;> simp)
   have hbz := B2.size
   cases hx : of x with
   | false =>
    rw [hx] at HN
    have HO2 := hid1 hO2
    go_wp2
    exact ⟨⟨j + 1,r,by omega,by go_num,by rw [HN.out];simp,HO2.out,B2⟩,by simp [intOf];omega⟩
   | true =>
    rw [hx] at HN
    have hml : r.length + 1 ≤ maxLen := by unfold maxLen;omega
    go_wp2_with (at_builtin;refine wpList_append_own _ rfl _ _ 22 rfl w1.heap.size 9 i0 (.string ⟨#[]⟩) 1 16 Tryz.underlying22 hi hz0 hz1 hz2 rfl (by decide) _ _ _ rfl (hO2.alloc _) ⟨w2.heap.size,0,none⟩ 1 1 [.string (ba x)] rfl rfl (cell_one_new _ _ _) (by simp [Value.oneCell']) hml (by omega) (by simp;omega) ?_;intro v' w4 hown' hgrow _)
    exact ⟨⟨j + 1,r ++ [x],by omega,by go_num,by rw [HN.out];simp,by simpa using hown',below_appended B2 hbz hO2 hgrow⟩,by simp [intOf];omega⟩
  ·have j1 : (l.length : Int) ≤ (j : Int) := by omega
   obtain rfl : j = l.length := by omega
   have hr := HR.out
   rw [List.take_length] at hr
   have HS := hid1 (sort_calls (HRow.of_owns HO.out) B.size (by omega))
   rw [hr,← HSt.out] at HS
   go_wp2_with fail
   refine HS.out.mono ?_
   rintro e w3 ⟨rfl,h3,g3⟩
   have HQ := hid1 h3
   have G3 := g1.trans ((B.trans g3).mono g1.size)
   go_wp2
   go_ret
   exact ⟨_,rfl,⟨_,HQ.out⟩,G3⟩
end Go.Proofs.YtdljhggillgpfaaGreatDoor
namespace Go.Proofs.YtdljhggillgpfaaGreatDoor
open Go.RowKit Go.Shelf Go.Lib
variable {es : Nat → Addr} {At : (Nat → Prop) → World → Value → Nat → Cf.Ens → Prop} {BAt : (Nat → Prop) → World → Value → Value → Bf.Bd → Prop}
def YBase (B : Nat) (W : World) (es : Nat → Addr) : Prop := ∃ w0 : World,w0.heap.size = B ∧ BuildW w0 es ∧ TErr w0 (erOf es) ∧ Below B w0 W
theorem YBase.build {B : Nat} {W : World} (h : YBase B W es) : BuildB B W es := by
 obtain ⟨w0,e,h1,-,h2⟩ := h
 exact ⟨w0,e,h1,h2⟩
theorem YBase.errs {B : Nat} {W : World} (h : YBase B W es) : TErr W (erOf es) := by
 obtain ⟨w0,rfl,-,h1,h2⟩ := h
 exact h1.below h2
theorem YBase.trans {B : Nat} {W W' : World} (h : YBase B W es) (hb : Below B W W') : YBase B W' es := by
 obtain ⟨w0,e,h1,h2,h3⟩ := h
 exact ⟨w0,e,h1,h2,h3.trans hb⟩
theorem YBase.want {B : Nat} {W : World} (h : YBase B W es) : WantW W es := ⟨h.build.w.g,h.build.w.shape,h.build.w.none⟩
structure Lays (At : (Nat → Prop) → World → Value → Nat → Cf.Ens → Prop) (BAt : (Nat → Prop) → World → Value → Value → Bf.Bd → Prop) (B : Nat) (W0 W1 : World) (yb : Nat) (L : YL) (y : Bf.Yd) (S : Nat → Prop) (bp : Addr) (cv : Value) (d : Bf.Bd) (os : Tf.Fs) (L' : YL) (w : World) : Prop where
 yard : YdAt At B w yb L' { y with os := os }
 build : BAt S w (.pointer (some bp)) cv d
 apart : ∀ j,S j → j ≠ L'.ob ∧ L'.o2 ≠ some j
 base : Below B W0 w
 size : W1.heap.size ≤ w.heap.size
 rest : ∀ j,j < W1.heap.size → j ≠ L.ob → L.o2 ≠ some j → w.heap[j]? = W1.heap[j]?
 o2 : ∀ j,L'.o2 = some j → L.o2 = some j ∨ W1.heap.size ≤ j
 tb : L'.tb = L.tb
 ob : L'.ob = L.ob
 lv : L'.lv = L.lv
 cvv : L'.cv = L.cv
 SC : L'.SC = L.SC
 kk : ∀ j,j < W1.heap.size → L'.k j = L.k j
theorem Lays.first (HC : Caches0 es At) (HB : Builds es Af.actO At BAt) {B : Nat} {W W1 : World} {yb : Nat} {L : YL} {y : Bf.Yd} (h : YdAt At B W yb L y) {S : Nat → Prop} {bp : Addr} {cv : Value} {d : Bf.Bd} (hb : BAt S W (.pointer (some bp)) cv d) (hSo : ∀ j,S j → j ≠ L.ob ∧ L.o2 ≠ some j) (g : Below W.heap.size W W1) : Lays At BAt B W W1 yb L y S bp cv d y.os L W1 :=
 ⟨h.below HC g,HB.same _ _ _ _ _ _ hb g.size fun k hk => g.block k (HB.lt _ _ _ _ _ hb k hk),hSo,g.mono (by have := h.low;have := h.lt;omega),Nat.le_refl _,fun _ _ _ _ => rfl,fun j hj => .inl hj,rfl,rfl,rfl,rfl,rfl,fun _ _ => rfl⟩
theorem Lays.below (HC : Caches0 es At) (HB : Builds es Af.actO At BAt) {B : Nat} {W W1 : World} {yb : Nat} {L : YL} {y : Bf.Yd} {S : Nat → Prop} {bp : Addr} {cv : Value} {d : Bf.Bd} {os : Tf.Fs} {L' : YL} {w w' : World} (h : Lays At BAt B W W1 yb L y S bp cv d os L' w) (g : Below w.heap.size w w') : Lays At BAt B W W1 yb L y S bp cv d os L' w' :=
 ⟨h.yard.below HC g,HB.same _ _ _ _ _ _ h.build g.size fun k hk => g.block k (HB.lt _ _ _ _ _ h.build k hk),h.apart,h.base.trans (g.mono (by have := h.yard.low;have := h.yard.lt;omega)),Nat.le_trans h.size g.size,fun j h1 h2 h3 => (g.block j (by have := h.size;omega)).trans (h.rest j h1 h2 h3),h.o2,h.tb,h.ob,h.lv,h.cvv,h.SC,h.kk⟩
theorem Lays.wrote (HC : Caches0 es At) (HB : Builds es Af.actO At BAt) {B : Nat} {W W1 : World} {yb : Nat} {L : YL} {y : Bf.Yd} {S : Nat → Prop} {bp : Addr} {cv : Value} {d : Bf.Bd} {os os' : Tf.Fs} {L' : YL} {w w' : World} (h : Lays At BAt B W W1 yb L y S bp cv d os L' w) {o' : Option Nat} (hon : OldNew w L'.o2 o') (hT : TreeAt B w' L'.ob os' o') (hB : Below B w w') (hK : Kept (tS L'.ob L'.o2) w w') : Lays At BAt B W W1 yb L y S bp cv d os' { L' with o2 := o',k := L'.more w.heap.size 2 } w' := by
 have hS : ∀ j,S j → j < w.heap.size := HB.lt _ _ _ _ _ h.build
 refine ⟨h.yard.outs HC hT hon hK,HB.same _ _ _ _ _ _ h.build hK.size fun k hk => hK.block k (hS k hk) fun e => e.elim (h.apart k hk).1 (h.apart k hk).2,fun j hj => ⟨(h.apart j hj).1,fun e => ?_⟩,h.base.trans hB,Nat.le_trans h.size hK.size,fun j h1 h2 h3 => (hK.block j (by have := h.size;omega) fun e => ?_).trans (h.rest j h1 h2 h3),fun j e => ?_,h.tb,h.ob,h.lv,h.cvv,h.SC,fun j hj => (L'.more_old (Nat.lt_of_lt_of_le hj h.size)).trans (h.kk j hj)⟩
 ·have e' : o' = some j := e
  rcases hon with h1 | ⟨i,h1,h2⟩
  ·exact (h.apart j hj).2 (h1.symm.trans e')
  ·have : i = j := Option.some.inj (h1.symm.trans e')
   have := hS j hj
   omega
 ·rcases e with e | e
  ·exact h2 (e.trans h.ob)
  ·rcases h.o2 j e with h4 | h4
   ·exact h3 h4
   ·omega
 ·have e' : o' = some j := e
  rcases hon with h1 | ⟨i,h1,h2⟩
  ·exact h.o2 j (h1.symm.trans e')
  ·have : i = j := Option.some.inj (h1.symm.trans e')
   have := h.size
   exact .inr (by omega)
theorem YdAt.ruleAt {B : Nat} {W : World} {yb : Nat} {L : YL} {y : Bf.Yd} (h : YdAt At B W yb L y) {i : Nat} (hi : i < y.l.length) {g o : Nat} {cap : Nat} (e : L.lv = .slice (some ⟨g,o,none⟩) y.l.length cap) : RuAt W g (o + i * 4) y.l[i] := by
 obtain ⟨p,c,e2,-,-,hin⟩ := h.rrow
 obtain ⟨g',o',e3,-,hc⟩ := hin (by intro e;rw [e] at hi;simp at hi)
 rw [e2,e3] at e
 cases e
 exact hc i hi
theorem YdAt.lvIs {B : Nat} {W : World} {yb : Nat} {L : YL} {y : Bf.Yd} (h : YdAt At B W yb L y) (hne : y.l ≠ []) : ∃ g o cap,L.lv = .slice (some ⟨g,o,none⟩) y.l.length cap ∧ y.l.length ≤ cap := by
 obtain ⟨p,c,e2,h0,-,hin⟩ := h.rrow
 obtain ⟨g',o',e3,-,hc⟩ := hin hne
 exact ⟨g',o',c,by rw [e2,e3],h0⟩
theorem ylay_calls (HC : Caches0 es At) (HB : Builds es Af.actO At BAt) {B : Nat} {W : World} {yb : Nat} {L : YL} {y : Bf.Yd} (h : YdAt At B W yb L y) (hY : YBase B W es) (hok : SheetOk y.l) (hos : Tf.Well pathB y.os) {S : Nat → Prop} {bp : Addr} {cv : Value} {d : Bf.Bd} (hb : BAt S W (.pointer (some bp)) cv d) (hdl : d.l = y.l) (hSo : ∀ j,S j → j ≠ L.ob ∧ L.o2 ≠ some j) {o : List Nat} (ho : Ru.order y.l allB1 = some o) :
  Calls Tryz.prog 110 #[Ptr yb,.pointer (some bp)] W fun e w' => e = .returned (.tuple #[]) ∧ ∃ L',Lays At BAt B W W yb L y S bp cv d (Bf.layW y.l d o y.os) L' w' := by
 have h40 := hok.len
 obtain ⟨hnd,hlt0⟩ := Ru.order_nodup ho
 have hol : o.length ≤ 40 := Nat.le_trans (Cf.nodup_len (b := List.range y.l.length) hnd fun x hx => List.mem_range.2 (hlt0 x hx)) (by simpa using h40)
 have HO := hid1 (gOrder_new hY.build.w.g L.lv y.l h.rrow (by omega) hok.small)
 have HFirst := hid1 fun (w1 : World) (g : Below W.heap.size W w1) => Lays.first HC HB h hb hSo g
 have HLt := hid1 hlt0
 have hLob := h.o.lt
 have HMo : Hid (∀ j,L.o2 = some j → j < W.heap.size) := hid1 fun j e => h.mapo e
 have HYb := hid1 hY
 have HCs := hid1 HC
 have HBs := hid1 HB
 have HOs := hid1 hos
 have HTell : Hid (∀ (w : World) u ev,OrderTells es y.l w u ev → ev = .nilIface ∧ NIRow w u o) := hid1 fun w u ev hT => by
  rcases hT with ⟨hf,_⟩ | ⟨_,hn,_⟩ | ⟨_,o',ho',rfl,hr⟩
  ·exact absurd hok.fine hf
  ·rw [ho] at hn;cases hn
  ·rw [ho] at ho';cases ho';exact ⟨rfl,hr⟩
 have HSm : Hid (∀ i (hi : i < y.l.length),y.l[i].out.length ≤ 100) := hid1 fun i hi => (hok.small _ (List.getElem_mem hi)).out
 have HDl := hid1 hdl
 have c2 := h.c2
 obtain ⟨pl,cl,elv,-,-,-⟩ := h.rrow
 rw [elv] at c2 HO
 go_enter Tryz.func110,Tryz.ntmps110
 go_wp2_with fail
 refine HO.out.mono ?_
 rintro e w1 ⟨u,ev,rfl,g1,hT,hN⟩
 obtain ⟨rfl,hrow⟩ := HTell.out _ _ _ hT
 obtain ⟨pu,cu,rfl,hin⟩ := hrow
 have HI := hid1 hin
 have HN := hid1 hN
 have HL1 := hid1 (HFirst.out w1 g1)
 have z1 := g1.size
 have HG1 := hid1 g1
 go_wp2
 go_loopw [20] (fun iv wr => ∃ (k : Nat) (L' : YL),k ≤ o.length ∧ iv = .int .i64 k ∧ Lays At BAt B W w1 yb L y S bp cv d (Bf.layW y.l d (o.take k) y.os) L' wr) (fun iv _ => o.length - (intOf iv).toNat)
 case atStart => exact ⟨0,L,Nat.zero_le _,rfl,HL1.out⟩
 case round =>
  obtain ⟨k,L',hk,rfl,hL⟩ := hrel
  have HL := hid1 hL
  have k0 : (0 : Int) ≤ (k : Int) := by omega
  by_cases hlt : k < o.length
  ·have k1 : (k : Int) < (o.length : Int) := by omega
   obtain ⟨g,oo,rfl,hg,hc⟩ := HI.out (by intro e;rw [e] at hlt;simp at hlt)
   have hgW : W.heap.size ≤ g := HN.out _ _ _ rfl
   have hi : o[k] < y.l.length := HLt.out _ (List.getElem_mem hlt)
   have d0 : wr.cell? ⟨g,oo + k,none⟩ = some (nv o[k]) := (World.cell?_of_block (a := ⟨g,oo + k,none⟩) (HL.out.rest g hg (by omega) fun e => by have := HMo.out g e;omega)).trans (hc k hlt)
   have HR := hid1 (HBs.out.result S wr bp cv d (o[k] : Nat) HL.out.build (by rw [HDl.out];omega) (by omega) (by omega))
   have hat : d.at (o[k] : Nat) = d.st o[k] := by
    unfold Bf.Bd.at
    rw [HDl.out,if_neg (by omega),Int.toNat_natCast]
   rw [hat] at HR
   have HN1 : Hid (Bf.layW y.l d (o.take (k + 1)) y.os = Bf.layS y.l d (Bf.layW y.l d (o.take k) y.os) o[k]) := hid1 (by rw [List.take_succ_eq_append_getElem hlt,Bf.layW_snoc])
   have HWl := hid1 (Bf.layW_well (l := y.l) (d := d) (o.take k) HOs.out)
   generalize Bf.layW y.l d (o.take k) y.os = os at *
   generalize hos' : Bf.layW y.l d (o.take (k + 1)) y.os = os' at *
   have HOs' := hid1 hos'
   generalize o[k] = i at *
   have hi0 : (0 : Int) ≤ (i : Int) := by omega
   have hi1 : (i : Int) < (y.l.length : Int) := by omega
   by_cases hdn : (d.st i).isDone = true
   ·obtain ⟨s,b,hst⟩ : ∃ s b,d.st i = .done s b := by
     cases hs : d.st i <;> rw [hs] at hdn <;> first | exact ⟨_,_,rfl⟩ | cases hdn
    have hNx : os' = Tf.putF pathB os y.l[i].out s := by
     rw [HN1.out]
     unfold Bf.layS
     rw [hst,Bf.getD_at hi]
    rw [hst] at HR
    subst hNx
    go_wp2_with fail
    refine HR.out.mono ?_
    rintro e w2 ⟨rfl,g2⟩
    have HL2 := hid1 (HL.out.below HCs.out HBs.out g2)
    obtain ⟨gr,orr,capr,elv,hcapr⟩ := HL2.out.yard.lvIs (by intro e;have e' : y.l = [] := e;rw [e'] at hi;simp at hi)
    have elv' : L'.lv = .slice (some ⟨gr,orr,none⟩) y.l.length capr := elv
    have q1 := HL2.out.yard.c1
    have q2 := HL2.out.yard.c2
    rw [elv'] at q2
    have q3 : w2.cell? ⟨gr,orr + i * 4,none⟩ = some (.string (ba y.l[i].out)) := (HL2.out.yard.ruleAt hi elv').1
    have HP := hid1 fun (V : World) (g : Below w2.heap.size w2 V) => PutK_calls (HL2.out.yard.o.below g) (HYb.out.trans (HL2.out.base.trans (g.mono (by have := HL2.out.yard.low;have := HL2.out.yard.lt;omega)))).errs (fun f hf => by have := well_len HWl.out f hf;omega) (by have h1 := HWl.out.few;show List.length os ≤ 1000;omega) y.l[i].out s (by have := HSm.out i hi;omega)
    go_wp2
    go_region_held3 (fun w' => w'.cell? ⟨yb,1,none⟩ = some (Ptr L'.ob) ∧ w'.cell? ⟨yb,2,none⟩ = some (.slice (some ⟨gr,orr,none⟩) y.l.length capr) ∧ w'.cell? ⟨gr,orr + i * 4,none⟩ = some (.string (ba y.l[i].out))) (first | go_keep | fail)
     (first
      | (go_at_call 93;refine (HP.out _ (by exact (Below.refl _ w2).drew)).mono ?_;rintro e w3 ⟨rfl,⟨o',hon,hT3⟩,hB3,hK3⟩;(have hL3 := (HL2.out.below HCs.out HBs.out (Below.refl w2.heap.size w2).drew).wrote HCs.out HBs.out hon hT3 hB3 hK3);(have r1 : w3.cell? ⟨yb,1,none⟩ = some (Ptr L'.ob) := hL3.yard.c1);(have r2 : w3.cell? ⟨yb,2,none⟩ = some (.slice (some ⟨gr,orr,none⟩) y.l.length capr) := by have h2 := hL3.yard.c2;rw [show ({ L' with o2 := o',k := L'.more w2.drew.heap.size 2 } : YL).lv = L'.lv from rfl,elv'] at h2;exact h2);(have r3 : w3.cell? ⟨gr,orr + i * 4,none⟩ = some (.string (ba y.l[i].out)) := (hL3.yard.ruleAt hi elv').1))
      | fail)
    all_goals
     rw [← HOs'.out] at hL3
     have HL3 := hid1 hL3
     go_wp2
     exact ⟨⟨k + 1,_,by omega,by go_num,HL3.out⟩,by simp [intOf];omega⟩
   ·have hdf : (d.st i).isDone = false := by simpa using hdn
    have hNx : os' = os := by
     rw [HN1.out]
     unfold Bf.layS
     cases hs : d.st i <;> rw [hs] at hdf <;> first | rfl | cases hdf
    rw [hdf] at HR
    subst hNx
    generalize (d.st i).out = s at *
    go_wp2_with fail
    refine HR.out.mono ?_
    rintro e w2 ⟨rfl,g2⟩
    have hL2 := HL.out.below HCs.out HBs.out g2
    rw [← HOs'.out] at hL2
    have HL2 := hid1 hL2
    go_wp2
    exact ⟨⟨k + 1,_,by omega,by go_num,HL2.out⟩,by simp [intOf];omega⟩
  ·have k1 : (o.length : Int) ≤ (k : Int) := by omega
   obtain rfl : k = o.length := by omega
   have hL := HL.out
   rw [List.take_length] at hL
   have HQ : Hid (Lays At BAt B W W yb L y S bp cv d (Bf.layW y.l d o y.os) L' wr) := hid1 ⟨hL.yard,hL.build,hL.apart,hL.base,by have := hL.size;omega,fun j h1 h2 h3 => (hL.rest j (by omega) h2 h3).trans (HG1.out.block j h1),fun j e => (hL.o2 j e).imp_right fun h => by omega,hL.tb,hL.ob,hL.lv,hL.cvv,hL.SC,fun j hj => hL.kk j (by omega)⟩
   go_wp2
   go_end0
   exact ⟨rfl,_,HQ.out⟩
end Go.Proofs.YtdljhggillgpfaaGreatDoor
