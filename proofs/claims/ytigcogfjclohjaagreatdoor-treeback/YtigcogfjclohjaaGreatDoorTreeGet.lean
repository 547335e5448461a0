/- Walks of package tree's Get, Remove and Paths. -/
import Derived.Test.YtigcogfjclohjaaGreatDoorTreeW
namespace Go.Proofs.YtigcogfjclohjaaGreatDoor
open Go.RowKit Go.Shelf Go.Lib Go.Maps
open Tf (Fs)

abbrev fileV (l : List UInt8) : Value := .agg #[.string (ba l)]

theorem look_file {w : World} {bm : Nat} {fs : Fs} (h : w.ownsMap Tryz.prog 9 fileElem bm fs.length (Tf.datum fs)) (p : List UInt8) (hp : p.length ≤ 1000000) :
    (Instr.lookup 86 (.map (some bm)) (.string (ba p)) true).run Tryz.prog w = .ok (.tuple #[fileV ((Tf.get fs p).getD []), .bool (Tf.hasP fs p)]) w := by
  obtain ⟨v, ps, hrun, hv⟩ := h.look_ok (t := 86) (e := 90) klaw Tryz.underlying86 (z := fileV []) (Tryz.zeroValue90 w) (zd := .lit (.string [])) (zp := []) rfl (kkey p hp)
  obtain ⟨l, rfl, hl⟩ := fileElem_inv hv
  rw [Tf.datum_has] at hrun
  rw [Tf.datum_at] at hl
  have : (Tf.get fs p).getD [] = l := by
    cases hg : Tf.get fs p with
    | none => rw [hg] at hl; simp at hl; simp [hl.1]
    | some b => rw [hg] at hl; simp at hl; simp [hl.1]
  rw [this]
  exact hrun

theorem look_nofile (w : World) (p : List UInt8) (hp : p.length ≤ 1000000) :
    (Instr.lookup 86 (.map none) (.string (ba p)) true).run Tryz.prog w = .ok (.tuple #[fileV [], .bool false]) w := by
  have := Maps.look_nil (w := w) (t := 86) (e := 90) true klaw Tryz.underlying86 (z := fileV []) (Tryz.zeroValue90 w) (kkey p hp)
  simpa using this

theorem look_tree {B : Nat} {w : World} {tb : Nat} {fs : Fs} {o : Option Nat} (h : TreeAt B w tb fs o) (p : List UInt8) (hp : p.length ≤ 1000000) :
    (Instr.lookup 86 (.map o) (.string (ba p)) true).run Tryz.prog w = .ok (.tuple #[fileV ((Tf.get fs p).getD []), .bool (Tf.hasP fs p)]) w := by
  have hm := h.isMap
  cases o with
  | none =>
    obtain rfl : fs = [] := hm
    exact look_nofile w p hp
  | some bm => exact look_file hm.2.2 p hp

theorem Get_calls {B : Nat} {w : World} {tb : Nat} {fs : Fs} {o : Option Nat} (h : TreeAt B w tb fs o) (p : List UInt8) (hp : p.length ≤ 1000000) :
    Calls Tryz.prog 24 #[Ptr tb, .string (ba p)] w fun e w' => e = .returned (.tuple #[.string (ba ((Tf.get fs p).getD [])), .bool (Tf.hasP fs p)]) ∧ Below w.heap.size w w' := by
  have hl := look_tree h p hp
  have HA : Hid (Calls Tryz.prog 44 #[Ptr tb] w fun e w' => e = .returned (.map o) ∧ w' = w) := all_calls tb o w h.cell
  generalize (Tf.get fs p).getD [] = b at *
  generalize Tf.hasP fs p = t at *
  clear h hp
  go_enter Tryz.func24, Tryz.ntmps24
  go_wp2_with fail
  refine HA.out.mono ?_
  rintro e w' ⟨rfl, rfl⟩
  go_wp2
  go_ret2
  exact ⟨rfl, (Below.refl _ _).alloc (Nat.le_refl _) _⟩

theorem Paths_calls {B : Nat} {w : World} {tb : Nat} {fs : Fs} {o : Option Nat} (h : TreeAt B w tb fs o) (hr : Tf.Rises fs) (hn : fs.length ≤ 1000) :
    Calls Tryz.prog 19 #[Ptr tb] w fun e w' => ∃ v, e = .returned v ∧ w'.ownsRow w.heap.size 9 1 v fs.length ((fs.map (·.1)).map encStr) ∧ Below w.heap.size w w' := by
  have HA : Hid (CallsIn Fence.wide 5 Tryz.prog 44 #[Ptr tb] w fun e w' => e = .returned (.map o) ∧ w' = w) := callsIn_wide.2 (all_calls tb o w h.cell)
  have HS : Hid (CallsIn Fence.wide 5 Tryz.prog 46 #[.func (.func 66) #[] #[.pointer (some ⟨w.heap.size, 0, none⟩)]] (w.alloc (.cells #[.map o] 86)) fun e w' => ∃ v, e = .returned v ∧ w'.ownsRow w.heap.size 9 1 v fs.length ((fs.map (·.1)).map encStr) ∧ Below w.heap.size w w') := by
    cases o with
    | none =>
      obtain rfl : fs = [] := h.isMap
      refine (Tryz.slices_Sorted_keys_nil_46_47 w).mono ?_
      rintro e w' ⟨v, ss, rfl, rfl, hrow, _, hb⟩
      refine ⟨v, rfl, ?_, ((Below.refl _ w).alloc (Nat.le_refl _) _).trans (hb.mono (by simp))⟩
      have := ownsRow_base_a hrow (base' := w.heap.size) (by simp)
      simpa using this
    | some bm =>
      refine (Tryz.slices_Sorted_keys_46_47 bm fs.length (Tf.datum fs) fileElem w h.isMap.2.2 (by rw [Tf.datum_size]; unfold maxLen; omega) (by rw [Tf.datum_size]; omega)).mono ?_
      rintro e w' ⟨v, ss, rfl, hS, hrow, _, hb⟩
      refine ⟨v, rfl, ?_, ((Below.refl _ w).alloc (Nat.le_refl _) _).trans (hb.mono (by simp))⟩
      rw [Tf.datum_keys] at hS
      have e1 : ss.mergeSort (fun x y => decide (x ≤ y)) = fs.map (·.1) := by
        have := mergeSort_of_perm hS
        exact this.trans hr.sorted
      have e2 : ss.length = fs.length := by rw [hS.length_eq]; simp
      rw [e1, e2] at hrow
      exact ownsRow_base_a hrow (by simp)
  refine (callsIn_wide (n := 6)).1 ?_
  have hfA : Fence.wide.fn 44 := trivial
  have hfK : Fence.wide.fn 47 := trivial
  have hfS : Fence.wide.fn 46 := trivial
  clear h hr hn
  refine callsIn_of_wp Tryz.func19 rfl trivial ?_ rfl
  simp only [Tryz.ntmps19, List.size_toArray, List.length_cons, List.length_nil, Nat.reduceAdd, Nat.reduceSub, Array.replicate_succ, Array.replicate_zero, List.push_toArray, List.append_toArray, List.nil_append, List.cons_append]
  gi_wp2_with (first
    | (gi_at_call 44; refine HA.out.mono ?_; rintro e w' ⟨rfl, rfl⟩)
    | (gi_at_call 47; refine (Tryz.maps_Keys_47 _ _).mono ?_; rintro e w' ⟨rfl, rfl⟩)
    | (gi_at_call 46; refine HS.out.mono ?_; rintro e w' ⟨v, rfl, hrow, hb⟩))
  go_ret
  exact ⟨v, rfl, hrow, hb⟩
end Go.Proofs.YtigcogfjclohjaaGreatDoor
