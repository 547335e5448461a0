/- YardFresh, for every list of rules and every list of edits of files: whatever files change between, behind Make of all nothing is stale; made again at once nothing runs; it is what a yard makes that has nothing kept. Conditions: the listed package variables start as the program's own text lays them (tied). -/
import Derived.Test.YtgdjgohiaffejaaGreatDoorYF54
import Derived.Test.YtgdjgohiaffejaaGreatDoorCards
import Derived.Test.YtgdjgohiaffejaaGreatDoorTie
namespace Go.Proofs.YtgdjgohiaffejaaGreatDoor
open Go.ChangeShapes Go.WideShapes Go.ChangeAt Go.WideMaps Go.WideElems Go.RowKit
theorem yfresh_holds : Rows.YardFreshSaid :=
  OpenClaim.holds_of_wide 12 Tryz.f12 rfl rfl rfl rfl rfl rfl rfl ⟨rfl, rfl, rfl, rfl, rfl⟩ rfl rfl rfl rfl rfl (by kernel_rfl) Tryz.func12 yfresh_facts
    (of_decide_eq_true (by kernel_rfl)) (by unfold Func.isWrapper; first | (rw [if_pos (by decide +kernel)]; kernel_rfl) | (rw [if_neg (by decide +kernel)]; exact ⟨rfl, rfl⟩))
    (fun os started H enc _ => yfresh_lifted os started H enc)
end Go.Proofs.YtgdjgohiaffejaaGreatDoor
namespace Go.Proofs.YtgdjgohiaffejaaGreatDoor
open Go.ChangeShapes Go.WideShapes Go.ChangeAt Go.WideMaps Go.WideElems Go.RowKit
open Go.ChangeMaps (setBlock shut_map_nil open_string shut_string keptBut_setBlock frozen?_setBlock heap_setBlock_same)
theorem yfresh_goes : false = Rows.yardFreshRow.goesBy Tryz.prog := by kernel_rfl
theorem yfresh_looks : true = Tryz.prog.looks [] := by kernel_rfl
theorem yfresh_text : Rows.yardFreshRow.wfByText (OpenSpec.ofChange Rows.yardFreshSpec) = true := by kernel_rfl
theorem yfresh_main : Tryz.prog.mainIs = some (Rows.yardFreshCard.stood.harness.1, Rows.yardFreshCard.stood.harness.2.toList) := by kernel_rfl
theorem yfresh_in0 : Tryz.prog.wantsStandIn 66 = false := by kernel_rfl
theorem yfresh_in1 : Tryz.prog.wantsStandIn 129 = false := by kernel_rfl
theorem yfresh_card : Rows.YardFreshCardSaid :=
  Claim7.holds_tied_plain_at .later [] _ _ _ _ (yfresh_holds) (fun _ h => by cases h) yfresh_text (fun _ h => by cases h) yardFresh_row_tie rfl ⟨rfl, rfl⟩ yfresh_main rfl
    (fun f fn hf hfn => by
      obtain rfl : f = 12 := Option.some.inj ((show Tryz.prog.funcNamed Rows.yardFreshRow.func = some 12 by kernel_rfl).symm.trans hf) |>.symm
      obtain rfl : fn = Tryz.f12 := (Option.some.inj (Tryz.func12.symm.trans hfn)).symm
      refine ⟨yfresh_looks, fun j t ht => ?_⟩
      rw [Tryz.params12] at ht
      have hm := Array.mem_of_getElem? ht
      have h6 : ∀ x ∈ [66, 129], x = 66 ∨ x = 129 := by decide
      have hm' : t = 66 ∨ t = 129 := h6 t (by simpa using hm)
      rcases hm' with rfl | rfl
      · exact yfresh_in0
      · exact yfresh_in1)
    yfresh_goes
#print axioms yfresh_card
end Go.Proofs.YtgdjgohiaffejaaGreatDoor
