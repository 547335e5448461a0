import Derived.Test.YtgdjgohiaffejaaGreatDoorYF40
import Derived.Test.YtgdjgohiaffejaaGreatDoorYF38
import Derived.Test.YtgdjgohiaffejaaGreatDoorYF28
namespace Go.Proofs.YtgdjgohiaffejaaGreatDoor
open Go.RowKit Go.Shelf Go.Lib
structure YL where
  tb : Nat
  ob : Nat
  lv : Value
  cv : Value
  o1 : Option Nat
  o2 : Option Nat
  SC : Nat → Prop
  R : Nat → Prop
  k : Nat → Nat
def YL.more (L : YL) (n g : Nat) : Nat → Nat := fun j => if j < n then L.k j else g
theorem YL.more_old (L : YL) {n g j : Nat} (h : j < n) : L.more n g j = L.k j := by unfold YL.more; rw [if_pos h]
theorem YL.more_new (L : YL) {n g j : Nat} (h : n ≤ j) : L.more n g j = g := by unfold YL.more; rw [if_neg (by omega)]
structure YdAt (At : (Nat → Prop) → World → Value → Nat → Cf.Ens → Prop) (B : Nat) (W : World) (yb : Nat) (L : YL) (y : Bf.Yd) : Prop where
  row : W.heap[yb]? = some (.cells #[Ptr L.tb, Ptr L.ob, L.lv, L.cv] 234 (0, 0))
  low : B ≤ yb
  t : TreeAt B W L.tb y.fs L.o1
  o : TreeAt B W L.ob y.os L.o2
  ca : CaAt At L.SC W L.cv y.c
  cp : ∃ p, L.cv = .pointer (some p)
  lowC : ∀ j, L.SC j → B ≤ j
  rows : ∀ W' : World, W.heap.size ≤ W'.heap.size → (∀ j, L.R j → W'.heap[j]? = W.heap[j]?) → RRow W' L.lv y.l
  rlt : ∀ j, L.R j → j < W.heap.size
  ky : L.k yb = 0
  kt : L.k L.tb = 1
  k1 : ∀ j, L.o1 = some j → L.k j = 1
  ko : L.k L.ob = 2
  k2 : ∀ j, L.o2 = some j → L.k j = 2
  kc : ∀ j, L.SC j → L.k j = 3
  kr : ∀ j, L.R j → L.k j = 4
variable {es : Nat → Addr} {At : (Nat → Prop) → World → Value → Nat → Cf.Ens → Prop}
theorem YdAt.lt {B : Nat} {W : World} {yb : Nat} {L : YL} {y : Bf.Yd} (h : YdAt At B W yb L y) : yb < W.heap.size := (Array.getElem?_eq_some_iff.1 h.row).1
theorem YdAt.rrow {B : Nat} {W : World} {yb : Nat} {L : YL} {y : Bf.Yd} (h : YdAt At B W yb L y) : RRow W L.lv y.l := h.rows W (Nat.le_refl _) fun _ _ => rfl
theorem YdAt.c0 {B : Nat} {W : World} {yb : Nat} {L : YL} {y : Bf.Yd} (h : YdAt At B W yb L y) : W.cell? ⟨yb, 0, none⟩ = some (Ptr L.tb) := cell_of_row (j := 0) h.row rfl
theorem YdAt.c1 {B : Nat} {W : World} {yb : Nat} {L : YL} {y : Bf.Yd} (h : YdAt At B W yb L y) : W.cell? ⟨yb, 1, none⟩ = some (Ptr L.ob) := cell_of_row (j := 1) h.row rfl
theorem YdAt.c2 {B : Nat} {W : World} {yb : Nat} {L : YL} {y : Bf.Yd} (h : YdAt At B W yb L y) : W.cell? ⟨yb, 2, none⟩ = some L.lv := cell_of_row (j := 2) h.row rfl
theorem YdAt.c3 {B : Nat} {W : World} {yb : Nat} {L : YL} {y : Bf.Yd} (h : YdAt At B W yb L y) : W.cell? ⟨yb, 3, none⟩ = some L.cv := cell_of_row (j := 3) h.row rfl
theorem YdAt.mapt {B : Nat} {W : World} {yb : Nat} {L : YL} {y : Bf.Yd} (h : YdAt At B W yb L y) {j : Nat} (e : L.o1 = some j) : j < W.heap.size := by
  have := h.t.isMap
  rw [e] at this
  exact this.2.2.lt
theorem YdAt.mapo {B : Nat} {W : World} {yb : Nat} {L : YL} {y : Bf.Yd} (h : YdAt At B W yb L y) {j : Nat} (e : L.o2 = some j) : j < W.heap.size := by
  have := h.o.isMap
  rw [e] at this
  exact this.2.2.lt
theorem YdAt.krow {B : Nat} {W W' : World} {yb : Nat} {L : YL} {y : Bf.Yd} (h : YdAt At B W yb L y) {g : Nat} (hk : Kept (fun j => L.k j = g) W W') (hg : g ≠ 0) : W'.heap[yb]? = some (.cells #[Ptr L.tb, Ptr L.ob, L.lv, L.cv] 234 (0, 0)) :=
  (hk.block yb h.lt fun e => hg (by rw [← e, h.ky])).trans h.row
theorem YdAt.kfiles {B : Nat} {W W' : World} {yb : Nat} {L : YL} {y : Bf.Yd} (h : YdAt At B W yb L y) {g : Nat} (hk : Kept (fun j => L.k j = g) W W') (hg : g ≠ 1) : TreeAt B W' L.tb y.fs L.o1 :=
  h.t.kept hk (fun e => hg (by rw [← e, h.kt])) fun j hj e => hg (by rw [← e, h.k1 j hj])
theorem YdAt.kout {B : Nat} {W W' : World} {yb : Nat} {L : YL} {y : Bf.Yd} (h : YdAt At B W yb L y) {g : Nat} (hk : Kept (fun j => L.k j = g) W W') (hg : g ≠ 2) : TreeAt B W' L.ob y.os L.o2 :=
  h.o.kept hk (fun e => hg (by rw [← e, h.ko])) fun j hj e => hg (by rw [← e, h.k2 j hj])
theorem YdAt.kcache (HC : Caches0 es At) {B : Nat} {W W' : World} {yb : Nat} {L : YL} {y : Bf.Yd} (h : YdAt At B W yb L y) {g : Nat} (hk : Kept (fun j => L.k j = g) W W') (hg : g ≠ 3) : CaAt At L.SC W' L.cv y.c :=
  h.ca.sameG HC hk.size fun j hj => hk.block j (h.ca.ltG HC j hj) fun e => hg (by rw [← e, h.kc j hj])
theorem YdAt.krules {B : Nat} {W W' : World} {yb : Nat} {L : YL} {y : Bf.Yd} (h : YdAt At B W yb L y) {g : Nat} (hk : Kept (fun j => L.k j = g) W W') (hg : g ≠ 4) : ∀ V : World, W'.heap.size ≤ V.heap.size → (∀ j, L.R j → V.heap[j]? = W'.heap[j]?) → RRow V L.lv y.l := fun V hz hV =>
  h.rows V (Nat.le_trans hk.size hz) fun j hj => (hV j hj).trans (hk.block j (h.rlt j hj) fun e => hg (by rw [← e, h.kr j hj]))
theorem YdAt.aside (HC : Caches0 es At) {B : Nat} {W W' : World} {yb : Nat} {L : YL} {y : Bf.Yd} (h : YdAt At B W yb L y) (hk : Kept (fun j => L.k j = 9) W W') : YdAt At B W' yb L y :=
  ⟨h.krow hk (by decide), h.low, h.kfiles hk (by decide), h.kout hk (by decide), h.kcache HC hk (by decide), h.cp, h.lowC, h.krules hk (by decide), fun j hj => Nat.lt_of_lt_of_le (h.rlt j hj) hk.size, h.ky, h.kt, h.k1, h.ko, h.k2, h.kc, h.kr⟩
theorem YdAt.below (HC : Caches0 es At) {B : Nat} {W W' : World} {yb : Nat} {L : YL} {y : Bf.Yd} (h : YdAt At B W yb L y) (hb : Below W.heap.size W W') : YdAt At B W' yb L y := h.aside HC (.of hb)
theorem YdAt.retag (HC : Caches0 es At) {B : Nat} {W : World} {yb : Nat} {L : YL} {y : Bf.Yd} (h : YdAt At B W yb L y) (g : Nat) : YdAt At B W yb { L with k := L.more W.heap.size g } y :=
  ⟨h.row, h.low, h.t, h.o, h.ca, h.cp, h.lowC, h.rows, h.rlt, (L.more_old h.lt).trans h.ky, (L.more_old h.t.lt).trans h.kt, fun j hj => (L.more_old (h.mapt hj)).trans (h.k1 j hj), (L.more_old h.o.lt).trans h.ko, fun j hj => (L.more_old (h.mapo hj)).trans (h.k2 j hj), fun j hj => (L.more_old (h.ca.ltG HC j hj)).trans (h.kc j hj), fun j hj => (L.more_old (h.rlt j hj)).trans (h.kr j hj)⟩
theorem YdAt.files (HC : Caches0 es At) {B : Nat} {W W' : World} {yb : Nat} {L : YL} {y : Bf.Yd} (h : YdAt At B W yb L y) {fs : Tf.Fs} {o' : Option Nat} (hT : TreeAt B W' L.tb fs o') (hon : OldNew W L.o1 o') (hK : Kept (tS L.tb L.o1) W W') : YdAt At B W' yb { L with o1 := o', k := L.more W.heap.size 1 } { y with fs := fs } := by
  have hk : Kept (fun j => L.k j = 1) W W' := ⟨hK.size, fun j hj hs => hK.block j hj fun e => hs (e.elim (fun e => by rw [e]; exact h.kt) fun e => h.k1 j e)⟩
  have hS : ∀ j, L.SC j → L.more W.heap.size 1 j = 3 := fun j hj => by rw [L.more_old (h.ca.ltG HC j hj)]; exact h.kc j hj
  refine ⟨h.krow hk (by decide), h.low, hT, h.kout hk (by decide), h.kcache HC hk (by decide), h.cp, h.lowC, h.krules hk (by decide), fun j hj => Nat.lt_of_lt_of_le (h.rlt j hj) hK.size, (L.more_old h.lt).trans h.ky, (L.more_old h.t.lt).trans h.kt, fun j hj => ?_, (L.more_old h.o.lt).trans h.ko, fun j hj => (L.more_old (h.mapo hj)).trans (h.k2 j hj), hS, fun j hj => (L.more_old (h.rlt j hj)).trans (h.kr j hj)⟩
  rcases hon with e | ⟨i, e, hi⟩
  · have hj' : L.o1 = some j := e ▸ hj
    exact (L.more_old (h.mapt hj')).trans (h.k1 j hj')
  · have : i = j := by have := e.symm.trans hj; exact Option.some.inj this
    subst this
    exact L.more_new hi
theorem YdAt.outs (HC : Caches0 es At) {B : Nat} {W W' : World} {yb : Nat} {L : YL} {y : Bf.Yd} (h : YdAt At B W yb L y) {os : Tf.Fs} {o' : Option Nat} (hT : TreeAt B W' L.ob os o') (hon : OldNew W L.o2 o') (hK : Kept (tS L.ob L.o2) W W') : YdAt At B W' yb { L with o2 := o', k := L.more W.heap.size 2 } { y with os := os } := by
  have hk : Kept (fun j => L.k j = 2) W W' := ⟨hK.size, fun j hj hs => hK.block j hj fun e => hs (e.elim (fun e => by rw [e]; exact h.ko) fun e => h.k2 j e)⟩
  have hS : ∀ j, L.SC j → L.more W.heap.size 2 j = 3 := fun j hj => by rw [L.more_old (h.ca.ltG HC j hj)]; exact h.kc j hj
  refine ⟨h.krow hk (by decide), h.low, h.kfiles hk (by decide), hT, h.kcache HC hk (by decide), h.cp, h.lowC, h.krules hk (by decide), fun j hj => Nat.lt_of_lt_of_le (h.rlt j hj) hK.size, (L.more_old h.lt).trans h.ky, (L.more_old h.t.lt).trans h.kt, fun j hj => (L.more_old (h.mapt hj)).trans (h.k1 j hj), (L.more_old h.o.lt).trans h.ko, fun j hj => ?_, hS, fun j hj => (L.more_old (h.rlt j hj)).trans (h.kr j hj)⟩
  rcases hon with e | ⟨i, e, hi⟩
  · have hj' : L.o2 = some j := e ▸ hj
    exact (L.more_old (h.mapo hj')).trans (h.k2 j hj')
  · have : i = j := by have := e.symm.trans hj; exact Option.some.inj this
    subst this
    exact L.more_new hi
theorem YdAt.cached {B : Nat} {W W' : World} {yb : Nat} {L : YL} {y : Bf.Yd} (h : YdAt At B W yb L y) {c : Bf.Ca} {SC : Nat → Prop} (hC : CaAt At SC W' L.cv c) (hz : W.heap.size ≤ W'.heap.size) (hb : ∀ j, j < W.heap.size → ¬ L.SC j → W'.heap[j]? = W.heap[j]?) (hS : ∀ j, SC j → L.SC j ∨ W.heap.size ≤ j) (hlt : ∀ j, L.SC j → j < W.heap.size) : YdAt At B W' yb { L with SC := SC, k := L.more W.heap.size 3 } { y with c := c } := by
  have hk : Kept (fun j => L.k j = 3) W W' := ⟨hz, fun j hj hs => hb j hj fun e => hs (h.kc j e)⟩
  have hB : B ≤ W.heap.size := by have := h.low; have := h.lt; omega
  refine ⟨h.krow hk (by decide), h.low, h.kfiles hk (by decide), h.kout hk (by decide), hC, h.cp, fun j hj => ?_, h.krules hk (by decide), fun j hj => Nat.lt_of_lt_of_le (h.rlt j hj) hz, (L.more_old h.lt).trans h.ky, (L.more_old h.t.lt).trans h.kt, fun j hj => (L.more_old (h.mapt hj)).trans (h.k1 j hj), (L.more_old h.o.lt).trans h.ko, fun j hj => (L.more_old (h.mapo hj)).trans (h.k2 j hj), fun j hj => ?_, fun j hj => (L.more_old (h.rlt j hj)).trans (h.kr j hj)⟩
  · rcases hS j hj with e | e
    · exact h.lowC j e
    · omega
  · rcases hS j hj with e | e
    · exact (L.more_old (hlt j e)).trans (h.kc j e)
    · exact L.more_new e
theorem YdAt.ruled (HC : Caches0 es At) {B : Nat} {W w1 : World} {yb : Nat} {L : YL} {y : Bf.Yd} (h : YdAt At B W yb L y) (hb : Below W.heap.size W w1) {lv : Value} {l : List Ru} (hl : ∀ V : World, w1.heap.size ≤ V.heap.size → (∀ j, W.heap.size ≤ j → j < w1.heap.size → V.heap[j]? = w1.heap[j]?) → RRow V lv l) (hr : (w1.setCell ⟨yb, 2, none⟩ lv).heap[yb]? = some (.cells #[Ptr L.tb, Ptr L.ob, lv, L.cv] 234 (0, 0))) :
    YdAt At B (w1.setCell ⟨yb, 2, none⟩ lv) yb { L with lv := lv, R := fun j => W.heap.size ≤ j ∧ j < w1.heap.size, k := L.more W.heap.size 4 } { y with l := l } := by
  have e1 : (w1.setCell ⟨yb, 2, none⟩ lv).heap.size = w1.heap.size := by simp
  have hk : Kept (fun j => L.k j = 0) W (w1.setCell ⟨yb, 2, none⟩ lv) := ⟨by rw [e1]; exact hb.size, fun j hj hs => (Below.heap_setCell _ _ _ _ fun e => hs (by have e' : j = yb := e; rw [e']; exact h.ky)).trans (hb.block j hj)⟩
  have hyl := h.lt
  have hS : ∀ j, L.SC j → L.more W.heap.size 4 j = 3 := fun j hj => by rw [L.more_old (h.ca.ltG HC j hj)]; exact h.kc j hj
  refine ⟨hr, h.low, h.kfiles hk (by decide), h.kout hk (by decide), h.kcache HC hk (by decide), h.cp, h.lowC, fun V hz hV => hl V (by rw [← e1]; exact hz) fun j h1 h2 => (hV j ⟨h1, h2⟩).trans (Below.heap_setCell _ _ _ _ fun e => by have e' : j = yb := e; omega), fun j hj => by rw [e1]; exact hj.2, (L.more_old h.lt).trans h.ky, (L.more_old h.t.lt).trans h.kt, fun j hj => (L.more_old (h.mapt hj)).trans (h.k1 j hj), (L.more_old h.o.lt).trans h.ko, fun j hj => (L.more_old (h.mapo hj)).trans (h.k2 j hj), hS, fun j hj => L.more_new hj.1⟩
end Go.Proofs.YtgdjgohiaffejaaGreatDoor
namespace Go.Proofs.YtgdjgohiaffejaaGreatDoor
open Go.RowKit Go.Shelf Go.Lib
variable {es : Nat → Addr} {At : (Nat → Prop) → World → Value → Nat → Cf.Ens → Prop}
set_option maxRecDepth 100000 in
set_option maxHeartbeats 4000000 in
theorem yNew_calls (HC : Caches0 es At) (W : World) (m : Nat) (h1 : 1 ≤ m) (h2 : m ≤ 100) :
    Calls Tryz.prog 81 #[.int .i64 m] W fun e w' => ∃ yb L, e = .returned (.tuple #[Ptr yb, .nilIface]) ∧ Below W.heap.size W w' ∧ YdAt At W.heap.size w' yb L ⟨[], [], [], some (m, [])⟩ := by
  have H0 := hid1 (HC.make W m h1 h2)
  have HCs := hid1 HC
  clear HC
  go_enter Tryz.func81, Tryz.ntmps81
  go_wp2_with fail
  refine H0.out.mono ?_
  rintro e w1 ⟨p, S, rfl, g1, hA, hS⟩
  have HA := hid1 (And.intro hA hS)
  clear H0 hA hS
  have N1 := hid1 (New_calls w1)
  go_wp2_with fail
  refine N1.out.mono ?_
  rintro e w2 ⟨rfl, hT, g2⟩
  have N2 := hid1 (New_calls w2)
  have HT := hid1 hT
  clear N1 hT
  go_wp2_with fail
  refine N2.out.mono ?_
  rintro e w3 ⟨rfl, hO, g3⟩
  have HO := hid1 hO
  clear N2 hO
  go_wp2
  go_ret2
  have hO := HO.out
  have gA : Below w3.heap.size w3 (w3.alloc (.cells #[Ptr w1.heap.size, Ptr w2.heap.size, .slice none 0 0, .pointer (some p)] 234)) := (Below.refl _ w3).alloc (Nat.le_refl _) _
  have z1 := g1.size
  have zt := HT.out.lt
  have zo := hO.lt
  have hlt : ∀ j, S j → j < w1.heap.size := HCs.out.lt _ _ _ _ _ HA.out.1
  refine ⟨w3.heap.size, ⟨w1.heap.size, w2.heap.size, .slice none 0 0, .pointer (some p), none, none, S, fun _ => False, fun j => if j < w1.heap.size then 3 else if j = w1.heap.size then 1 else if j = w2.heap.size then 2 else 0⟩, rfl, below_then g1 (below_then g2 (below_then g3 gA)), ?_⟩
  have z2 := g2.size
  have z3 := g3.size
  have e1 : ¬ w3.heap.size < w1.heap.size := by omega
  have e2 : w3.heap.size ≠ w1.heap.size := by omega
  have e3 : w3.heap.size ≠ w2.heap.size := by omega
  have e4 : ¬ w2.heap.size < w1.heap.size := by omega
  have e5 : w2.heap.size ≠ w1.heap.size := by omega
  exact ⟨row_newW w3 _, by omega, ((HT.out.below g3).below gA).mono z1, (hO.below gA).mono (by omega), ⟨⟨_, rfl⟩, HCs.out.same _ _ _ _ _ _ HA.out.1 (by have := gA.size; omega) fun k hk => (gA.block k (by have := hlt k hk; omega)).trans ((g3.block k (by have := hlt k hk; omega)).trans (g2.block k (hlt k hk)))⟩, ⟨_, rfl⟩, HA.out.2, fun W' _ _ => RRow.nil W', fun j h => h.elim,
    (by simp [e1, e2, e3]), (by simp), fun j h => (by cases h), (by simp [e4, e5]), fun j h => (by cases h), fun j hj => (by simp [hlt j hj]), fun j h => h.elim⟩
theorem yTree_calls {B : Nat} {W : World} {yb : Nat} {L : YL} {y : Bf.Yd} (h : YdAt At B W yb L y) : Calls Tryz.prog 83 #[Ptr yb] W fun e w' => e = .returned (Ptr L.tb) ∧ w' = W := by
  have c := h.c0
  clear h
  go_enter Tryz.func83, Tryz.ntmps83
  go_wp2
  go_ret
  exact ⟨rfl, rfl⟩
theorem yOut_calls {B : Nat} {W : World} {yb : Nat} {L : YL} {y : Bf.Yd} (h : YdAt At B W yb L y) : Calls Tryz.prog 86 #[Ptr yb] W fun e w' => e = .returned (Ptr L.ob) ∧ w' = W := by
  have c := h.c1
  clear h
  go_enter Tryz.func86, Tryz.ntmps86
  go_wp2
  go_ret
  exact ⟨rfl, rfl⟩
set_option maxRecDepth 100000 in
set_option maxHeartbeats 8000000 in
theorem youts_calls {B : Nat} {W : World} {yb : Nat} {L : YL} {y : Bf.Yd} (h : YdAt At B W yb L y) (hl : y.l.length ≤ 1000) :
    Calls Tryz.prog 147 #[Ptr yb] W fun e w' => ∃ u, e = .returned u ∧ w'.ownsRow W.heap.size 9 1 u y.l.length ((y.l.map Ru.out).map sv) ∧ Below W.heap.size W w' := by
  have c := h.c2
  obtain ⟨p, cap, e, hcap, -, hin⟩ := h.rrow
  rw [e] at c
  have HI := hid1 hin
  obtain ⟨i0, hi, hz0, hz1, hz2⟩ := info_parts Tryz.infoStr
  generalize y.l = l at *
  have zl : (l.length : Int) ≤ 1000 := by omega
  clear hin h e
  go_enter Tryz.func147, Tryz.ntmps147
  go_wp2
  go_loopw [3, 11] (fun ov iv wr => ∃ j : Nat, j ≤ l.length ∧ iv = .int .i64 j ∧ wr.ownsRow W.heap.size 9 1 ov j (((l.take j).map Ru.out).map sv) ∧ Below W.heap.size W wr) (fun _ iv _ => l.length - (intOf iv).toNat)
  case atStart => exact ⟨0, Nat.zero_le _, rfl, World.ownsRow_nil _ _ _ _, Below.refl _ _⟩
  case round =>
    obtain ⟨j, hj, rfl, hO, B⟩ := hrel
    have HO := hid1 hO
    clear hO
    have j0 : (0 : Int) ≤ (j : Int) := by omega
    by_cases hlt : j < l.length
    · have j1 : (j : Int) < (l.length : Int) := by omega
      obtain ⟨g, o, rfl, hg, hc⟩ := HI.out (by intro e; rw [e] at hlt; simp at hlt)
      obtain ⟨b0, b1, b2, v3, b3, bx⟩ := hc j hlt
      have d0 := cell_below' b0 B
      have d1 := cell_below' b1 B
      have d2 := cell_below' b2 B
      have d3 := cell_below' b3 B
      obtain ⟨p3, cap3, rfl, -⟩ := bx
      have hst : ∀ (a : Addr) (m : Mode) (W : World), Sem.run Tryz.prog (store a (.slice p3 l[j].ins.length cap3) m) W = stored Tryz.prog W a (.slice p3 l[j].ins.length cap3) m := fun a m W => run_store _ W a _ m rfl
      have HS : Hid (((l.take (j + 1)).map Ru.out).map sv = ((l.take j).map Ru.out).map sv ++ [sv l[j].out]) := hid1 (by
        rw [List.take_succ_eq_append_getElem hlt, List.map_append, List.map_append]
        rfl)
      have hbz := B.size
      have hml : j + 1 ≤ maxLen := by unfold maxLen; omega
      have B3 := B.alloc hbz (.cells #[.string (ba l[j].out), .string (ba l[j].kind), .string (ba l[j].word), .slice p3 l[j].ins.length cap3] 90)
      have hrow := HO.out.alloc (.cells #[.string (ba l[j].out), .string (ba l[j].kind), .string (ba l[j].word), .slice p3 l[j].ins.length cap3] 90)
      clear hc HI b0 b1 b2 b3 HO
      have hbz3 := B3.size
      go_wp2_with (at_builtin; refine wpList_append_own _ rfl _ _ 45 rfl W.heap.size 9 i0 (.string ⟨#[]⟩) 1 16 Tryz.underlying45 hi hz0 hz1 hz2 rfl (by decide) _ _ _ rfl (hrow.alloc _) ⟨wr.heap.size + 1, 0, none⟩ 1 1 [.string (ba l[j].out)] rfl rfl (one_new _ _ _ _ (by simp)) (by simp [Value.oneCell']) hml (by omega) (by simp; omega) ?_; intro v' w4 hown' hgrow _)
      exact ⟨⟨j + 1, by omega, by go_num, by rw [HS.out]; exact hown', below_appended B3 hbz3 hrow hgrow⟩, by simp [intOf]; omega⟩
    · have j1 : (l.length : Int) ≤ (j : Int) := by omega
      obtain rfl : j = l.length := by omega
      have hO := HO.out
      rw [List.take_length] at hO
      have HQ := hid1 hO
      clear HO HI hO
      go_wp2
      go_ret
      exact ⟨_, rfl, HQ.out, B⟩
end Go.Proofs.YtgdjgohiaffejaaGreatDoor
namespace Go.Proofs.YtgdjgohiaffejaaGreatDoor
open Go.RowKit Go.Shelf Go.Lib
variable {es : Nat → Addr} {At : (Nat → Prop) → World → Value → Nat → Cf.Ens → Prop}
structure SheetOk (l : List Ru) : Prop where
  fine : (Ru.fault l).1 = 0
  some : (Ru.order l allB1).isSome = true
  small : ∀ x ∈ l, x.Small
theorem SheetOk.len {l : List Ru} (h : SheetOk l) : l.length ≤ 40 := (Ru.fault_ok h.fine).1
theorem SheetOk.nil : SheetOk [] := ⟨by decide, by decide, fun x hx => by simp at hx⟩
theorem SheetOk.part {l : List Ru} (h : SheetOk l) (outs : List (List UInt8)) : (Ru.order l (Bf.need l outs)).isSome = true := by
  cases ho : Ru.order l (Bf.need l outs) with
  | some _ => rfl
  | none =>
    exfalso
    obtain ⟨o, e⟩ := Option.isSome_iff_exists.1 h.some
    obtain ⟨h1, h2⟩ := Ru.order_some e
    obtain ⟨i, t, hi, hw⟩ := Ru.order_none2 (Ru.need_closed l outs) ho
    exact h1.none i t (h2 i (Ru.need_lt hi) rfl) hw
set_option maxRecDepth 100000 in
set_option maxHeartbeats 8000000 in
theorem yfresh_calls {B : Nat} {W : World} {yb : Nat} {L : YL} {y : Bf.Yd} (h : YdAt At B W yb L y) (hW : WantW W es) (hfs : Tf.Well pathB y.fs) (hl : SheetOk y.l) (out : List UInt8) (hout : ∃ x ∈ y.l, x.out = out) :
    Calls Tryz.prog 150 #[Ptr yb, .string (ba out)] W fun e w' => e = .returned (.bool (!Bf.off y.fs y.os y.l out)) ∧ Below W.heap.size W w' := by
  have hol : out.length ≤ 100 := by
    obtain ⟨x, hx, rfl⟩ := hout
    exact (hl.small x hx).out
  have HW0 := hid1 fun (V : World) (g : Below W.heap.size W V) => wOf_calls (hW.below g) (h.t.below g) (fun x b hb => (hfs.each _ (Bf.get_mem hb)).2) L.lv y.l (h.rrow.below g) (by have := hl.len; omega) hl.small out (by omega)
  have HG := hid1 fun (V : World) (g : Below W.heap.size W V) => Get_calls (h.o.below g) out (by omega)
  have c0 := h.c0
  have c1 := h.c1
  have c2 := h.c2
  have HP : Hid (∀ s ev (w : World), OfTells es y.fs y.l out w s ev → s = (Bf.want Af.actO y.fs y.l out).1 ∧ ev = erOf es (Bf.want Af.actO y.fs y.l out).2) := hid1 fun s ev w hO => by
    rcases hO with ⟨h1, _⟩ | ⟨_, h1, _⟩ | ⟨_, _, h1, _⟩ | ⟨_, _, _, h1, h2⟩
    · exact absurd hl.fine h1
    · obtain ⟨x, hx, e⟩ := hout
      exact absurd e (h1 x hx)
    · have := hl.part [out]
      rw [h1] at this
      cases this
    · exact ⟨h1, h2⟩
  have hwe : (Bf.want Af.actO y.fs y.l out).2 ≠ 0 → (Bf.want Af.actO y.fs y.l out).1 = [] := want_err
  have HQ : Hid (∀ (b : Bool) (x : List UInt8), b = (Tf.get y.os out).isSome → x = (Tf.get y.os out).getD [] → (!Bf.off y.fs y.os y.l out) = (b == decide ((Bf.want Af.actO y.fs y.l out).2 = 0) && x == (Bf.want Af.actO y.fs y.l out).1)) := hid1 fun b x hb hx => by
    unfold Bf.off
    subst hb hx
    by_cases h0 : (Bf.want Af.actO y.fs y.l out).2 = 0
    · rw [if_pos h0, decide_eq_true h0]
      cases Tf.get y.os out with
      | none => simp
      | some b => simp [bne]
    · rw [if_neg h0, decide_eq_false h0, hwe h0]
      cases Tf.get y.os out with
      | none => simp
      | some b => simp
  have hhas : Tf.hasP y.os out = (Tf.get y.os out).isSome := by
    unfold Tf.hasP Tf.get
    rw [Option.isSome_map, Bool.eq_iff_iff, List.any_eq_true, List.find?_isSome]
  obtain ⟨pl, cl, elv, -⟩ := h.rrow
  rw [elv] at c2 HW0
  have HH := hid1 hhas
  clear h hW hfs hl hout hwe hhas elv
  rw [HH.out] at HG
  generalize Tf.get y.os out = gt at *
  generalize hwant : Bf.want Af.actO y.fs y.l out = wt at *
  obtain ⟨wb, wc⟩ := wt
  have HE := hid1 (HQ.out gt.isSome (gt.getD []) rfl rfl)
  clear HQ HH hwant
  rw [HE.out]
  clear HE
  have hyc : (∃ ev, (erOf es wc = ev ∧ ev = .nilIface) ∧ decide (wc = 0) = true) ∨ ∃ ev, (erOf es wc = ev ∧ ∃ t u, ev = .iface t u) ∧ decide (wc = 0) = false := by
    cases wc with
    | zero => exact .inl ⟨_, ⟨rfl, rfl⟩, rfl⟩
    | succ n => exact .inr ⟨_, ⟨rfl, _, _, rfl⟩, rfl⟩
  simp only at HP ⊢
  generalize gt.getD [] = gx at *
  generalize gt.isSome = gb at *
  rcases hyc with ⟨ev, ⟨eev, rfl⟩, edc⟩ | ⟨ev, ⟨eev, t, u, rfl⟩, edc⟩
  all_goals
    rw [edc]
    rw [eev] at HP
    clear eev edc
    cases gb
    all_goals
      go_enter Tryz.func150, Tryz.ntmps150
      go_wp2
      go_region_held3 (fun w' => w'.cell? ⟨yb, 0, none⟩ = some (Ptr L.tb) ∧ w'.cell? ⟨yb, 2, none⟩ = some (.slice pl y.l.length cl)) (first | go_keep | fail)
        (first
          | (go_at_call 64; refine (HW0.out _ (by exact (Below.refl _ W).drew)).mono ?_; rintro e w1 ⟨s, ev, rfl, g1, hO⟩; (have G1 := below_then (Below.refl W.heap.size W).drew g1); (have q0 := cell_below' (show W.drew.cell? _ = _ from c0) g1); (have q2 := cell_below' (show W.drew.cell? _ = _ from c2) g1); (obtain ⟨rfl, rfl⟩ := HP.out _ _ _ hO); clear hO)
          | fail)
      all_goals
        have q1 := cell_below' c1 G1
        have HG1 := hid1 (HG.out w1 G1)
        clear HG HW0 HP c0 c1 c2 g1 q0 q2
        go_wp2_with fail
        refine HG1.out.mono ?_
        rintro e w2 ⟨rfl, g2⟩
        have G2 := below_then G1 g2
        clear HG1 g2 q1
        go_wp2
        go_ret
        exact ⟨rfl, G2⟩
set_option maxRecDepth 100000 in
set_option maxHeartbeats 8000000 in
theorem yStale_calls {B : Nat} {W : World} {yb : Nat} {L : YL} {y : Bf.Yd} (HC : Caches0 es At) (h : YdAt At B W yb L y) (hW : WantW W es) (hfs : Tf.Well pathB y.fs) (hl : SheetOk y.l) :
    Calls Tryz.prog 85 #[Ptr yb] W fun e w' => ∃ u, e = .returned u ∧ CRow w' u (Bf.stale y.fs y.os y.l) ∧ Below W.heap.size W w' := by
  have h40 := hl.len
  have HO := hid1 (youts_calls h (by omega))
  have HF := hid1 fun (V : World) (g : Below W.heap.size W V) (j : Nat) (hj : j < y.l.length) => yfresh_calls (h.below HC g) (hW.below g) hfs hl y.l[j].out ⟨_, List.getElem_mem hj, rfl⟩
  obtain ⟨i0, hi, hz0, hz1, hz2⟩ := info_parts Tryz.infoStr
  have HSt : Hid (Bf.stale y.fs y.os y.l = Af.srt ((y.l.map Ru.out).filter (Bf.off y.fs y.os y.l))) := hid1 rfl
  generalize Bf.stale y.fs y.os y.l = st at *
  generalize Bf.off y.fs y.os y.l = of at *
  generalize y.l = l at *
  have zl : (l.length : Int) ≤ 40 := by omega
  clear h hW hfs hl HC
  go_enter Tryz.func85, Tryz.ntmps85
  go_wp2_with fail
  refine HO.out.mono ?_
  rintro e w1 ⟨u, rfl, hrow, g1⟩
  have HX := hid1 (XRow.of_owns hrow)
  obtain ⟨pu, cu, eu, -, -, hin⟩ := XRow.of_owns hrow
  have ln : (l.map Ru.out).length = l.length := by simp
  rw [ln] at eu
  subst eu
  have HI : Hid (l ≠ [] → ∃ g o, pu = some ⟨g, o, none⟩ ∧ g < w1.heap.size ∧ ∀ j (hj : j < l.length), w1.cell? ⟨g, o + j, none⟩ = some (.string (ba l[j].out))) := hid1 fun hne => by
    obtain ⟨g, o, e, hg, hc⟩ := hin (by simpa using hne)
    exact ⟨g, o, e, hg, fun j hj => by rw [hc j (by simp [hj])]; simp⟩
  clear HO hrow hin HX ln
  go_wp2
  go_loopw [3, 9] (fun sv' iv wr => ∃ (j : Nat) (r : List (List UInt8)), j ≤ l.length ∧ iv = .int .i64 j ∧ r = ((l.take j).map Ru.out).filter of ∧ wr.ownsRow w1.heap.size 9 1 sv' r.length (r.map sv) ∧ Below w1.heap.size w1 wr) (fun _ iv _ => l.length - (intOf iv).toNat)
  case atStart => exact ⟨0, [], Nat.zero_le _, rfl, by simp, World.ownsRow_nil _ _ _ _, Below.refl _ _⟩
  case round =>
    obtain ⟨j, r, hj, rfl, hr, hO, B⟩ := hrel
    have HO := hid1 hO
    have HR := hid1 hr
    have hrl : r.length ≤ j := by
      rw [hr]
      refine Nat.le_trans (List.length_filter_le _ _) ?_
      simp
      omega
    clear hO hr
    have j0 : (0 : Int) ≤ (j : Int) := by omega
    have GB := below_then g1 B
    by_cases hlt : j < l.length
    · have j1 : (j : Int) < (l.length : Int) := by omega
      obtain ⟨g, o, rfl, hg, hc⟩ := HI.out (by intro e; rw [e] at hlt; simp at hlt)
      have d0 := cell_below' (hc j hlt) B
      have HF1 := hid1 (HF.out wr GB j hlt)
      have HN : Hid (((l.take (j + 1)).map Ru.out).filter of = r ++ if of l[j].out = true then [l[j].out] else []) := hid1 (by
        rw [List.take_succ_eq_append_getElem hlt, List.map_append, List.filter_append, ← HR.out]
        congr 1
        by_cases h : of l[j].out = true
        · rw [if_pos h]; simp [h]
        · rw [if_neg h]; simp [h])
      clear hc HI HF HR
      generalize l[j].out = x at *
      go_wp2_with fail
      refine HF1.out.mono ?_
      rintro e w2 ⟨rfl, g2⟩
      have B2 := below_then B g2
      have hO2 : w2.ownsRow w1.heap.size 9 1 u3 r.length (r.map sv) := HO.out.kept (row := none) ⟨g2.os, g2.tape, g2.output, g2.size, fun k hk _ => g2.block k hk⟩ (by cases u3.ownBlock <;> simp)
      clear HF1 HO d0
      have hbz := B2.size
      cases hx : of x with
      | false =>
        rw [hx] at HN
        have HO2 := hid1 hO2
        clear hO2 hx
        go_wp2
        exact ⟨⟨j + 1, r, by omega, by go_num, by rw [HN.out]; simp, HO2.out, B2⟩, by simp [intOf]; omega⟩
      | true =>
        rw [hx] at HN
        have hml : r.length + 1 ≤ maxLen := by unfold maxLen; omega
        clear hx
        go_wp2_with (at_builtin; refine wpList_append_own _ rfl _ _ 45 rfl w1.heap.size 9 i0 (.string ⟨#[]⟩) 1 16 Tryz.underlying45 hi hz0 hz1 hz2 rfl (by decide) _ _ _ rfl (hO2.alloc _) ⟨w2.heap.size, 0, none⟩ 1 1 [.string (ba x)] rfl rfl (cell_one_new _ _ _) (by simp [Value.oneCell']) hml (by omega) (by simp; omega) ?_; intro v' w4 hown' hgrow _)
        exact ⟨⟨j + 1, r ++ [x], by omega, by go_num, by rw [HN.out]; simp, by simpa using hown', below_appended B2 hbz hO2 hgrow⟩, by simp [intOf]; omega⟩
    · have j1 : (l.length : Int) ≤ (j : Int) := by omega
      obtain rfl : j = l.length := by omega
      have hr := HR.out
      rw [List.take_length] at hr
      have HS := hid1 (sort_calls (HRow.of_owns HO.out) B.size (by omega))
      rw [hr, ← HSt.out] at HS
      clear HO HI HF HR hr
      go_wp2_with fail
      refine HS.out.mono ?_
      rintro e w3 ⟨rfl, h3, g3⟩
      have HQ := hid1 h3.cells
      have G3 := g1.trans ((B.trans g3).mono g1.size)
      clear HS h3 g3
      go_wp2
      go_ret
      exact ⟨_, rfl, HQ.out, G3⟩
end Go.Proofs.YtgdjgohiaffejaaGreatDoor
