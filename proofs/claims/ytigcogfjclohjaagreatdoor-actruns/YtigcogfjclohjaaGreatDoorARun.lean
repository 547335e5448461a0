/- The walks of package act's Run and Check, over find's contract. -/
import Derived.Test.YtigcogfjclohjaaGreatDoorAFind
namespace Go.Proofs.YtigcogfjclohjaaGreatDoor
open Go.RowKit Go.Shelf Go.Lib

theorem Objs.stays {W W' : World} {B : Nat} (h : Objs W B) (hb : Below W.heap.size W W') : Objs W' B := fun i hi => by
  have h1 := h i hi
  rw [hb.block _ (Array.getElem?_eq_some_iff.1 h1).1]
  exact h1
theorem below_then {w W W' : World} (h : Below w.heap.size w W) (hb : Below W.heap.size W W') : Below w.heap.size w W' :=
  ⟨hb.os.trans h.os, hb.tape.trans h.tape, hb.output.trans h.output, Nat.le_trans h.size hb.size, fun i hi => (hb.block i (Nat.lt_of_lt_of_le hi h.size)).trans (h.block i hi)⟩

set_option maxRecDepth 100000 in
set_option maxHeartbeats 4000000 in
theorem Run_good (nm word : ByteArray) (p : Option Addr) (len cap : Nat) (a b : Int) (tv : Value) (gr : Nat) (cr : Array Value) (out : ByteArray) (el : Value) (w : World)
    (hel : w.cell? ⟨3, 0, none⟩ = some el) (h6 : 20 < w.heap.size) (htv : ∃ g c, tv = tfn g c)
    (eg : ∀ args w, (callFunc gr args).run Tryz.prog w = .ok (.enter gr args) w)
    (hfind : Hid (Calls Tryz.prog 54 #[.string nm, .string word, .int .i64 len] w fun e w' => e = .returned (.tuple #[kd a b tv (tfn gr cr), .nilIface]) ∧ Below w.heap.size w w' ∧ Objs w' (w.heap.size + 1)))
    (HR : Hid (∀ W, Below w.heap.size w W → Objs W (w.heap.size + 1) → Calls Tryz.prog gr (#[.string word, .slice p len cap] ++ cr) W fun e w' => e = .returned (.string out) ∧ Below W.heap.size W w')) :
    Calls Tryz.prog 28 #[.string nm, .string word, .slice p len cap] w fun e w' => e = .returned (if 2000 < out.size then .tuple #[.string ⟨#[]⟩, el] else .tuple #[.string out, .nilIface]) ∧ Below w.heap.size w w' := by
  obtain ⟨g, c, rfl⟩ := htv
  generalize hr : (if 2000 < out.size then Value.tuple #[.string ⟨#[]⟩, el] else .tuple #[.string out, .nilIface]) = r
  have HQ : Hid ((if 2000 < out.size then Value.tuple #[.string ⟨#[]⟩, el] else .tuple #[.string out, .nilIface]) = r) := hr
  clear hr
  have hnf : ∀ (a : Addr) (m : Mode) (W : World), Sem.run Tryz.prog (store a .nilFunc m) W = stored Tryz.prog W a .nilFunc m := fun a m W => run_store _ W a _ m rfl
  have hnt : ∀ (a : Addr) (m : Mode) (W : World), Sem.run Tryz.prog (store a (tfn g c) m) W = stored Tryz.prog W a (tfn g c) m := fun a m W => run_store _ W a _ m rfl
  have hnr : ∀ (a : Addr) (m : Mode) (W : World), Sem.run Tryz.prog (store a (tfn gr cr) m) W = stored Tryz.prog W a (tfn gr cr) m := fun a m W => run_store _ W a _ m rfl
  go_enter Tryz.func28, Tryz.ntmps28
  go_wp2_with fail
  refine hfind.out.mono ?_
  rintro e w2 ⟨rfl, hb2, hO2⟩
  have gC : Below w2.heap.size w2 (w2.alloc (.cells #[.int .i64 a, .int .i64 b, tfn g c, tfn gr cr] 105)) := (Below.refl _ w2).alloc (Nat.le_refl _) _
  have HC := HR.out _ (below_then hb2 gC) (hO2.stays gC)
  go_wp2_with fail
  refine HC.mono ?_
  rintro e w3 ⟨rfl, hb3⟩
  have g3 := below_then (below_then hb2 gC) hb3
  have ke : w3.cell? ⟨3, 0, none⟩ = some el := (cell_below2 g3 (by omega)).trans hel
  clear HC gC hb2 hO2 hb3
  by_cases hl : 2000 < out.size
  · have d3 : decide ((2000 : Int) < (out.size : Int)) = true := by simp; omega
    go_wp2
    go_region
    all_goals go_wp2
    go_ret2
    exact ⟨ret_eq (by rw [← HQ.out, if_pos hl]; rfl), below_draws g3 1⟩
  · have d3 : decide ((2000 : Int) < (out.size : Int)) = false := by simp; omega
    go_wp2
    go_ret2
    exact ⟨ret_eq (by rw [← HQ.out, if_neg hl]; rfl), g3⟩

set_option maxRecDepth 100000 in
set_option maxHeartbeats 4000000 in
theorem Run_bad (nm word : ByteArray) (p : Option Addr) (len cap : Nat) (t : TypeId) (u : Value) (w : World)
    (hfind : Hid (Calls Tryz.prog 54 #[.string nm, .string word, .int .i64 len] w fun e w' => e = .returned (.tuple #[zkd, .iface t u]) ∧ Below w.heap.size w w')) :
    Calls Tryz.prog 28 #[.string nm, .string word, .slice p len cap] w fun e w' => e = .returned (.tuple #[.string ⟨#[]⟩, .iface t u]) ∧ Below w.heap.size w w' := by
  have hnf : ∀ (a : Addr) (m : Mode) (W : World), Sem.run Tryz.prog (store a .nilFunc m) W = stored Tryz.prog W a .nilFunc m := fun a m W => run_store _ W a _ m rfl
  go_enter Tryz.func28, Tryz.ntmps28
  go_wp2_with fail
  refine hfind.out.mono ?_
  rintro e w2 ⟨rfl, hb2⟩
  have g3 := hb2.alloc hb2.size (.cells #[.int .i64 0, .int .i64 0, .nilFunc, .nilFunc] 105)
  go_wp2
  go_ret2
  exact ⟨rfl, g3⟩

set_option maxRecDepth 100000 in
set_option maxHeartbeats 4000000 in
theorem Check_calls (nm word : ByteArray) (n : Int) (k0 k1 : Int) (k2 k3 : Value) (er : Value) (w : World) (h2 : k2.oneCell' = true) (h3 : k3.oneCell' = true)
    (hfind : Hid (Calls Tryz.prog 54 #[.string nm, .string word, .int .i64 n] w fun e w' => e = .returned (.tuple #[.agg #[.int .i64 k0, .int .i64 k1, k2, k3], er]) ∧ Below w.heap.size w w')) :
    Calls Tryz.prog 35 #[.string nm, .string word, .int .i64 n] w fun e w' => e = .returned er ∧ Below w.heap.size w w' := by
  have hnf : ∀ (a : Addr) (m : Mode) (W : World), Sem.run Tryz.prog (store a k2 m) W = stored Tryz.prog W a k2 m := fun a m W => run_store _ W a _ m h2
  have hnr : ∀ (a : Addr) (m : Mode) (W : World), Sem.run Tryz.prog (store a k3 m) W = stored Tryz.prog W a k3 m := fun a m W => run_store _ W a _ m h3
  go_enter Tryz.func35, Tryz.ntmps35
  go_wp2_with fail
  refine hfind.out.mono ?_
  rintro e w2 ⟨rfl, hb2⟩
  have g3 := hb2.alloc hb2.size (.cells #[.int .i64 k0, .int .i64 k1, k2, k3] 105)
  go_wp2
  go_ret
  exact ⟨rfl, g3⟩
end Go.Proofs.YtigcogfjclohjaaGreatDoor
