/- The walk of package tree's Put, over what mayPut answers. -/
import Derived.Test.YtigcogfjclohjaaGreatDoorTreePut
namespace Go.Proofs.YtigcogfjclohjaaGreatDoor
open Go.RowKit Go.Shelf Go.Lib Go.Maps
open Tf (Fs)

theorem Put_no {B : Nat} {w : World} {tb : Nat} {fs : Fs} {o : Option Nat} (_h : TreeAt B w tb fs o) (p b : List UInt8) (t : TypeId) (u : Value)
    (HM : Hid (Calls Tryz.prog 45 #[Ptr tb, .string (ba p), .string (ba b)] w fun e w' => e = .returned (.iface t u) ∧ Below w.heap.size w w')) :
    Calls Tryz.prog 17 #[Ptr tb, .string (ba p), .string (ba b)] w fun e w' => e = .returned (.iface t u) ∧ Below w.heap.size w w' := by
  go_enter Tryz.func17, Tryz.ntmps17
  go_wp2_with fail
  refine HM.out.mono ?_
  rintro e w1 ⟨rfl, g1⟩
  go_wp2
  go_ret
  exact ⟨rfl, g1⟩

theorem eq_someMap (bm : Nat) (w : World) : (binOp BinOp.eql 86 (.map (some bm)) (.map none)).run Tryz.prog w = .ok (.bool false) w := by kernel_rfl
theorem eq_noMap (w : World) : (binOp BinOp.eql 86 (.map none) (.map none)).run Tryz.prog w = .ok (.bool true) w := by kernel_rfl

theorem below_turned {B : Nat} {a w w' : World} {bm : Nat} (h : Below B a w) (hsz : B ≤ w.heap.size) (hB : B ≤ bm) (ht : w.mapTurned w' bm) : Below B a w' :=
  h.grown ht.grown hsz (fun j e => by cases e; exact hB)

set_option maxRecDepth 100000 in
set_option maxHeartbeats 2000000 in
theorem Put_some {B : Nat} {w : World} {tb : Nat} {fs : Fs} {bm : Nat} (h : TreeAt B w tb fs (some bm)) (p b : List UInt8) (hp : p.length ≤ 1000000) (hfew : fs.length ≤ 1000)
    (HM : Hid (Calls Tryz.prog 45 #[Ptr tb, .string (ba p), .string (ba b)] w fun e w' => e = .returned .nilIface ∧ Below w.heap.size w w')) :
    Calls Tryz.prog 17 #[Ptr tb, .string (ba p), .string (ba b)] w fun e w' => e = .returned .nilIface ∧ (TreeAt B w' tb (Tf.put fs p b) (some bm)) ∧ Below B w w' := by
  have hlt := h.lt
  go_enter Tryz.func17, Tryz.ntmps17
  go_wp2_with fail
  refine HM.out.mono ?_
  rintro e w1 ⟨rfl, g1⟩
  have h1 := h.below g1
  have hc := h1.cell
  have hm := h1.isMap.2.2
  have hq := eq_someMap bm
  go_wp2_with (first
    | (at_mapUpdate; refine wpList_mapUpdate_in _ rfl _ _ _ 86 rfl 9 90 klaw Tryz.underlying86 fileElem bm fs.length (Tf.datum fs) rfl hm (by unfold maxLen; omega) _ _ _ rfl rfl (kkey p hp) _ [] (fileElem_mk b) ?_; intro w2 hown2 hturn2; go_frame)
    | go_in)
  go_wp2
  go_ret
  rw [Tf.datum_put] at hown2
  have hne : some tb ≠ some bm := fun e => h.isMap.2.1 (Option.some.inj e).symm
  have hbk := hturn2.grown.block tb h1.lt hne
  refine ⟨rfl, ⟨h.low, (World.cell?_of_block (a := ⟨tb, 0, none⟩) hbk).trans hc, (World.frozen?_of_block (a := ⟨tb, 0, none⟩) hbk).trans h1.free, h.isMap.1, h.isMap.2.1, ownsMap_tight hown2⟩, ?_⟩
  exact below_turned (g1.mono (by have := h.low; omega)) (by have := h.low; have := g1.size; omega) h.isMap.1 hturn2

set_option maxRecDepth 100000 in
set_option maxHeartbeats 2000000 in
theorem Put_none {B : Nat} {w : World} {tb : Nat} {fs : Fs} (h : TreeAt B w tb fs none) (p b : List UInt8) (hp : p.length ≤ 1000000)
    (HM : Hid (Calls Tryz.prog 45 #[Ptr tb, .string (ba p), .string (ba b)] w fun e w' => e = .returned .nilIface ∧ Below w.heap.size w w')) :
    Calls Tryz.prog 17 #[Ptr tb, .string (ba p), .string (ba b)] w fun e w' => e = .returned .nilIface ∧ (∃ bm, TreeAt B w' tb (Tf.put fs p b) (some bm)) ∧ Below B w w' := by
  have hlt := h.lt
  obtain rfl : fs = [] := h.isMap
  have hmm := @run_makeMap Tryz.prog
  go_enter Tryz.func17, Tryz.ntmps17
  go_wp2_with fail
  refine HM.out.mono ?_
  rintro e w1 ⟨rfl, g1⟩
  have h1 := h.below g1
  have hc := h1.cell
  have hf := h1.free
  have hq := eq_noMap
  have htb := h1.lt
  have eS : (w1.setCell ⟨tb, 0, none⟩ (.map (some w1.heap.size))).heap.size = w1.heap.size := by simp
  have gA : Below w1.heap.size (w1.setCell ⟨tb, 0, none⟩ (.map (some w1.heap.size))) ((w1.setCell ⟨tb, 0, none⟩ (.map (some w1.heap.size))).alloc (.map #[] 0)) := (Below.refl _ _).alloc (by simp) _
  have hcS : ((w1.setCell ⟨tb, 0, none⟩ (.map (some w1.heap.size))).alloc (.map #[] 0)).cell? ⟨tb, 0, none⟩ = some (.map (some w1.heap.size)) :=
    (gA.cell (p := ⟨tb, 0, none⟩) htb).trans (World.cell?_setCell_same' _ _ _ (by rw [hc]; rfl))
  have hfS : Hid (((w1.setCell ⟨tb, 0, none⟩ (.map (some w1.heap.size))).alloc (.map #[] 0)).frozen? ⟨tb, 0, none⟩ = false) :=
    (gA.frozen (p := ⟨tb, 0, none⟩) htb).trans (by rw [World.frozen?_setCell]; exact hf)
  have Hm0 : Hid (((w1.setCell ⟨tb, 0, none⟩ (.map (some w1.heap.size))).alloc (.map #[] 0)).ownsMap Tryz.prog 9 fileElem w1.heap.size 0 (Tf.datum [])) := by
    have := World.ownsMap_made (w1.setCell ⟨tb, 0, none⟩ (.map (some w1.heap.size))) Tryz.prog 9 fileElem
    rw [eS] at this
    exact this
  have gS : Hid (Below B w ((w1.setCell ⟨tb, 0, none⟩ (.map (some w1.heap.size))).alloc (.map #[] 0))) := ((g1.mono (by have := h.low; omega)).setCell (p := ⟨tb, 0, none⟩) h.low _).alloc (by rw [eS]; have := h.low; have := g1.size; omega) _
  clear eS gA
  go_wp2_with (first
    | (at_mapUpdate; refine wpList_mapUpdate_in _ rfl _ _ _ 86 rfl 9 90 klaw Tryz.underlying86 fileElem w1.heap.size 0 (Tf.datum []) rfl Hm0.out (by unfold maxLen; omega) _ _ _ rfl rfl (kkey p hp) _ [] (fileElem_mk b) ?_; intro w2 hown2 hturn2; go_frame)
    | go_in)
  go_wp2
  go_ret
  rw [Tf.datum_put] at hown2
  have hne : some tb ≠ some w1.heap.size := fun e => by have := Option.some.inj e; omega
  have hbk := hturn2.grown.block tb (by simp; omega) hne
  refine ⟨rfl, ⟨w1.heap.size, h.low, (World.cell?_of_block (a := ⟨tb, 0, none⟩) hbk).trans hcS, (World.frozen?_of_block (a := ⟨tb, 0, none⟩) hbk).trans hfS.out, by have := h.low; omega, by omega, ownsMap_tight hown2⟩, ?_⟩
  exact below_turned gS.out (by have := h.low; simp; omega) (by have := h.low; omega) hturn2
end Go.Proofs.YtigcogfjclohjaaGreatDoor
