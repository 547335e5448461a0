/- Package tree's Put, whole: its error is 'putCode', its files 'putF'. Remove. -/
import Derived.Test.YtigcogfjclohjaaGreatDoorTreeMay
import Derived.Test.YtigcogfjclohjaaGreatDoorTreePut2
namespace Go.Proofs.YtigcogfjclohjaaGreatDoor
open Go.RowKit Go.Shelf Go.Lib Go.Maps
open Tf (Fs)

set_option maxRecDepth 100000 in
set_option maxHeartbeats 2000000 in
theorem mayPut_empty {B : Nat} {w : World} {tb : Nat} {fs : Fs} (h : TreeAt B w tb fs none) (p b : List UInt8) (hp : p.length ≤ 1000000) (hn : pathB p = true) (hb : b.length ≤ 2000) :
    Calls Tryz.prog 45 #[Ptr tb, .string (ba p), .string (ba b)] w fun e w' => e = .returned .nilIface ∧ Below w.heap.size w w' := by
  have HK : Hid (Calls Tryz.prog 62 #[.string (ba p)] w fun e w' => e = .returned .nilIface ∧ Below w.heap.size w w') := Check_yes p hp hn w
  have z : (b.length : Int) ≤ 2000 := by omega
  have hl := fun w' => look_nofile w' p hp
  have hc := h.cell
  clear hn hb h
  go_enter Tryz.func45, Tryz.ntmps45
  go_wp2_with fail
  refine HK.out.mono ?_
  rintro e w1 ⟨rfl, g1⟩
  have hc1 := cell_below' hc g1
  have g2 := g1.alloc g1.size (.cells #[.string (ba [])] 90)
  have hc2 := cell_below' hc g2
  have g3 := g2.alloc g2.size (.mapIter none 0 #[] 0)
  have hc3 := cell_below' hc g3
  have hrg := run_range_nilMap (P := Tryz.prog) (w1.alloc (.cells #[.string (ba [])] 90)) 86 9 90 Tryz.underlying86
  have hnx : ∀ ty, (Instr.next (.pointer (some ⟨(w1.alloc (.cells #[.string (ba [])] 90)).heap.size, 0, none⟩)) false ty).run Tryz.prog ((w1.alloc (.cells #[.string (ba [])] 90)).alloc (.mapIter none 0 #[] 0)) = _ := fun ty => run_next_nilMap (w1.alloc (.cells #[.string (ba [])] 90)) ty 0 0 #[]
  have hln : ∀ W ty, (Builtin.len_ #[86] ty #[.map none]).run Tryz.prog W = .ok (.int .i64 0) W := fun W ty => Maps.len_nil (w := W) Tryz.underlying86 ty
  have e1 : (w1.alloc (.cells #[.string (ba [])] 90)).heap.size = w1.heap.size + 1 := by simp
  rw [e1] at hrg hnx
  clear e1 HK
  go_wp2
  refine wp_loop_rounds 1 ?_
  rw [rounds_succ]
  go_wp2
  go_ret
  exact ⟨rfl, g3⟩

theorem putCode_new (fs : Fs) (p b : List UInt8) (hn : pathB p = true) (hb : b.length ≤ 2000) (ht : Tf.hasP fs p = false) : Tf.putCode pathB fs p b = newCode fs p := by
  unfold Tf.putCode newCode
  rw [if_neg (by simp [hn]), if_neg (by omega), if_neg (by simp [ht])]

theorem mayPut_calls {B : Nat} {w : World} {tb : Nat} {fs : Fs} {o : Option Nat} {es : Nat → Value} (h : TreeAt B w tb fs o) (hE : TErr w es) (hlen : ∀ f ∈ fs, f.1.length ≤ 1000000) (hfew : fs.length ≤ 1000) (p b : List UInt8) (hp : p.length ≤ 1000000) :
    Calls Tryz.prog 45 #[Ptr tb, .string (ba p), .string (ba b)] w fun e w' => e = .returned (es (Tf.putCode pathB fs p b)) ∧ Below w.heap.size w w' := by
  cases hn : pathB p with
  | false =>
    rw [show Tf.putCode pathB fs p b = 4 by simp [Tf.putCode, hn]]
    exact mayPut_name h hE p b hp hn
  | true =>
    rcases Nat.lt_or_ge 2000 b.length with hb | hb
    · rw [show Tf.putCode pathB fs p b = 2 by simp [Tf.putCode, hn, hb]]
      exact mayPut_bound h hE p b hp hn hb
    · cases ht : Tf.hasP fs p with
      | true =>
        rw [show Tf.putCode pathB fs p b = 0 by unfold Tf.putCode; rw [if_neg (by simp [hn]), if_neg (by omega), if_pos ht], hE.nil]
        exact mayPut_there h p b hp hn hb ht
      | false =>
        cases o with
        | none =>
          obtain rfl : fs = [] := h.isMap
          rw [show Tf.putCode pathB [] p b = 0 by rw [putCode_new _ _ _ hn hb ht]; simp [newCode, Tf.clash], hE.nil]
          exact mayPut_empty h p b hp hn hb
        | some bm =>
          rw [putCode_new _ _ _ hn hb ht]
          exact mayPut_new h hE hlen hfew p b hp hn hb ht

theorem Put_calls {B : Nat} {w : World} {tb : Nat} {fs : Fs} {o : Option Nat} {es : Nat → Value} (h : TreeAt B w tb fs o) (hE : TErr w es) (hlen : ∀ f ∈ fs, f.1.length ≤ 1000000) (hfew : fs.length ≤ 1000) (p b : List UInt8) (hp : p.length ≤ 1000000) :
    Calls Tryz.prog 17 #[Ptr tb, .string (ba p), .string (ba b)] w fun e w' => e = .returned (es (Tf.putCode pathB fs p b)) ∧ (∃ o', TreeAt B w' tb (Tf.putF pathB fs p b) o') ∧ Below B w w' := by
  have HM := mayPut_calls h hE hlen hfew p b hp
  have hBw : B ≤ w.heap.size := by have := h.low; have := h.lt; omega
  cases hc : Tf.putCode pathB fs p b with
  | zero =>
    rw [hc, hE.nil] at HM
    rw [hE.nil, show Tf.putF pathB fs p b = Tf.put fs p b by simp [Tf.putF, hc]]
    cases o with
    | none => exact (Put_none h p b hp HM).mono fun e w' ⟨h1, ⟨bm, h2⟩, h3⟩ => ⟨h1, ⟨_, h2⟩, h3⟩
    | some bm => exact (Put_some h p b hp hfew HM).mono fun e w' ⟨h1, h2, h3⟩ => ⟨h1, ⟨_, h2⟩, h3⟩
  | succ k =>
    obtain ⟨t, u, e⟩ := hE.faces k
    rw [hc, e] at HM
    rw [e, show Tf.putF pathB fs p b = fs by simp [Tf.putF, hc]]
    exact (Put_no h p b t u HM).mono fun e w' ⟨h1, h2⟩ => ⟨h1, ⟨_, h.below h2⟩, h2.mono hBw⟩

set_option maxRecDepth 100000 in
set_option maxHeartbeats 2000000 in
theorem Remove_yes {B : Nat} {w : World} {tb : Nat} {fs : Fs} {bm : Nat} (h : TreeAt B w tb fs (some bm)) (p : List UInt8) (hp : p.length ≤ 1000000) (ht : Tf.hasP fs p = true) :
    Calls Tryz.prog 16 #[Ptr tb, .string (ba p)] w fun e w' => e = .returned .nilIface ∧ TreeAt B w' tb (Tf.del fs p) (some bm) ∧ Below B w w' := by
  have hl := look_tree h p hp
  rw [ht] at hl
  have HA : Hid (Calls Tryz.prog 44 #[Ptr tb] w fun e w' => e = .returned (.map (some bm)) ∧ w' = w) := all_calls tb (some bm) w h.cell
  generalize (Tf.get fs p).getD [] = x at *
  have hc := h.cell
  have g1 : Below w.heap.size w (w.alloc (.cells #[.string (ba x)] 90)) := (Below.refl _ w).alloc (Nat.le_refl _) _
  have h1 := h.below g1
  have hc1 := h1.cell
  have hm := h1.isMap.2.2
  have hBw : B ≤ w.heap.size := by have := h.low; have := h.lt; omega
  clear ht
  go_enter Tryz.func16, Tryz.ntmps16
  go_wp2_with fail
  refine HA.out.mono ?_
  rintro e w' ⟨rfl, rfl⟩
  go_wp2_with (first
    | (at_delete; refine wpList_delete_own _ rfl _ _ 86 9 rfl 90 klaw Tryz.underlying86 fileElem bm fs.length (Tf.datum fs) rfl hm _ _ rfl (kkey p hp) ?_; intro w2 hown2 hturn2; go_frame)
    | go_in)
  go_wp2
  go_ret
  rw [Tf.datum_del] at hown2
  have hne : some tb ≠ some bm := fun e => h.isMap.2.1 (Option.some.inj e).symm
  have hbk := hturn2.grown.block tb h1.lt hne
  refine ⟨rfl, ⟨h.low, (World.cell?_of_block (a := ⟨tb, 0, none⟩) hbk).trans hc1, (World.frozen?_of_block (a := ⟨tb, 0, none⟩) hbk).trans h1.free, h.isMap.1, h.isMap.2.1, ownsMap_tight hown2⟩, ?_⟩
  exact below_turned (g1.mono hBw) (by have := g1.size; omega) h.isMap.1 hturn2

set_option maxRecDepth 100000 in
theorem Remove_no {B : Nat} {w : World} {tb : Nat} {fs : Fs} {o : Option Nat} {es : Nat → Value} (h : TreeAt B w tb fs o) (hE : TErr w es) (p : List UInt8) (hp : p.length ≤ 1000000) (ht : Tf.hasP fs p = false) :
    Calls Tryz.prog 16 #[Ptr tb, .string (ba p)] w fun e w' => e = .returned (es 6) ∧ Below w.heap.size w w' := by
  have hl := look_tree h p hp
  rw [ht] at hl
  have HA : Hid (Calls Tryz.prog 44 #[Ptr tb] w fun e w' => e = .returned (.map o) ∧ w' = w) := all_calls tb o w h.cell
  generalize (Tf.get fs p).getD [] = x at *
  obtain ⟨t, u, e6⟩ := hE.faces 5
  have hn := hE.none6
  rw [e6] at hn ⊢
  have g1 : Below w.heap.size w (w.alloc (.cells #[.string (ba x)] 90)) := (Below.refl _ w).alloc (Nat.le_refl _) _
  have hn1 := cell_below' hn g1
  clear ht h hE
  go_enter Tryz.func16, Tryz.ntmps16
  go_wp2_with fail
  refine HA.out.mono ?_
  rintro e w' ⟨rfl, rfl⟩
  go_wp2
  go_ret
  exact ⟨rfl, g1⟩

theorem Remove_calls {B : Nat} {w : World} {tb : Nat} {fs : Fs} {o : Option Nat} {es : Nat → Value} (h : TreeAt B w tb fs o) (hE : TErr w es) (p : List UInt8) (hp : p.length ≤ 1000000) :
    Calls Tryz.prog 16 #[Ptr tb, .string (ba p)] w fun e w' => e = .returned (es (if Tf.hasP fs p then 0 else 6)) ∧ (∃ o', TreeAt B w' tb (Tf.del fs p) o') ∧ Below B w w' := by
  have hBw : B ≤ w.heap.size := by have := h.low; have := h.lt; omega
  cases ht : Tf.hasP fs p with
  | true =>
    cases o with
    | none =>
      obtain rfl : fs = [] := h.isMap
      simp [Tf.hasP] at ht
    | some bm =>
      simp only [if_true, hE.nil]
      exact (Remove_yes h p hp ht).mono fun e w' ⟨h1, h2, h3⟩ => ⟨h1, ⟨_, h2⟩, h3⟩
  | false =>
    simp only [Bool.false_eq_true, if_false]
    rw [Tf.del_none ht]
    exact (Remove_no h hE p hp ht).mono fun e w' ⟨h1, h2⟩ => ⟨h1, ⟨_, h.below h2⟩, h2.mono hBw⟩
end Go.Proofs.YtigcogfjclohjaaGreatDoor
