/- BuildOnce, for every list of files, of rules and of numbers: each rule runs at most once; what is ready needs nothing that waits; in the end each is done, failed, or left, and what is left needs one that is failed or left. Conditions: the listed package variables start as the program's own text lays them (tied). -/
import Derived.Test.YtflbofdpfgkmcaaGreatDoorOP53
import Derived.Test.YtflbofdpfgkmcaaGreatDoorCards
import Derived.Test.YtflbofdpfgkmcaaGreatDoorTie
namespace Go.Proofs.YtflbofdpfgkmcaaGreatDoor
open Go.ChangeShapes Go.WideShapes Go.ChangeAt Go.WideMaps Go.WideElems Go.RowKit
theorem once_holds : Rows.BuildOnceSaid :=
  OpenClaim.holds_of_wide 8 Tryz.f8 rfl rfl rfl rfl rfl rfl rfl ⟨rfl, rfl, rfl, rfl, rfl⟩ rfl rfl rfl rfl rfl (by kernel_rfl) Tryz.func8 once_facts
    (of_decide_eq_true (by kernel_rfl)) (by unfold Func.isWrapper; first | (rw [if_pos (by decide +kernel)]; kernel_rfl) | (rw [if_neg (by decide +kernel)]; exact ⟨rfl, rfl⟩))
    (fun os started H enc _ => once_lifted os started H enc)
end Go.Proofs.YtflbofdpfgkmcaaGreatDoor
namespace Go.Proofs.YtflbofdpfgkmcaaGreatDoor
open Go.ChangeShapes Go.WideShapes Go.ChangeAt Go.WideMaps Go.WideElems Go.RowKit
open Go.ChangeMaps (setBlock shut_map_nil open_string shut_string keptBut_setBlock frozen?_setBlock heap_setBlock_same)
theorem once_goes : false = Rows.buildOnceRow.goesBy Tryz.prog := by kernel_rfl
theorem once_looks : true = Tryz.prog.looks [] := by kernel_rfl
theorem once_text : Rows.buildOnceRow.wfByText (OpenSpec.ofChange Rows.buildOnceSpec) = true := by kernel_rfl
theorem once_main : Tryz.prog.mainIs = some (Rows.buildOnceCard.stood.harness.1, Rows.buildOnceCard.stood.harness.2.toList) := by kernel_rfl
theorem once_inInts : Tryz.prog.wantsStandIn 68 = false := by kernel_rfl
theorem once_inRfiles : Tryz.prog.wantsStandIn 36 = false := by kernel_rfl
theorem once_inRules : Tryz.prog.wantsStandIn 66 = false := by kernel_rfl
theorem once_card : Rows.BuildOnceCardSaid :=
  Claim7.holds_tied_plain_at .later [] _ _ _ _ (once_holds) (fun _ h => by cases h) once_text (fun _ h => by cases h) buildOnce_row_tie rfl ⟨rfl, rfl⟩ once_main rfl
    (fun f fn hf hfn => by
      obtain rfl : f = 8 := Option.some.inj ((show Tryz.prog.funcNamed Rows.buildOnceRow.func = some 8 by kernel_rfl).symm.trans hf) |>.symm
      obtain rfl : fn = Tryz.f8 := (Option.some.inj (Tryz.func8.symm.trans hfn)).symm
      refine ⟨once_looks, fun j t ht => ?_⟩
      rw [Tryz.params8] at ht
      have hm := Array.mem_of_getElem? ht
      have hm' : t = 36 ∨ t = 66 ∨ t = 68 := by simpa using hm
      rcases hm' with rfl | rfl | rfl
      · exact once_inRfiles
      · exact once_inRules
      · exact once_inInts)
    once_goes
#print axioms once_card
end Go.Proofs.YtflbofdpfgkmcaaGreatDoor
