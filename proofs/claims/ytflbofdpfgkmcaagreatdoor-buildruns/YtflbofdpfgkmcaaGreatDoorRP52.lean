/- BuildRuns, for every list of files, of rules, of outs, every room of a cache and every list of numbers: a build tells and leaves what the document's answer tells and leaves, run by run and at its end; and again, with its cache. Conditions: the listed package variables start as the program's own text lays them (tied). -/
import Derived.Test.YtflbofdpfgkmcaaGreatDoorRP51
import Derived.Test.YtflbofdpfgkmcaaGreatDoorCards
import Derived.Test.YtflbofdpfgkmcaaGreatDoorTie
namespace Go.Proofs.YtflbofdpfgkmcaaGreatDoor
open Go.ChangeShapes Go.WideShapes Go.ChangeAt Go.WideMaps Go.WideElems Go.RowKit
theorem bruns_holds : Rows.BuildRunsSaid :=
 OpenClaim.holds_of_wide 9 Tryz.f9 rfl rfl rfl rfl rfl rfl rfl ⟨rfl,rfl,rfl,rfl,rfl⟩ rfl rfl rfl rfl rfl (by kernel_rfl) Tryz.func9 bruns_facts
  (of_decide_eq_true (by kernel_rfl)) (by unfold Func.isWrapper;first | (rw [if_pos (by decide +kernel)];kernel_rfl) | (rw [if_neg (by decide +kernel)];exact ⟨rfl,rfl⟩))
  (fun os started H enc _ => bruns_lifted os started H enc)
open Go.ChangeMaps (setBlock shut_map_nil open_string shut_string keptBut_setBlock frozen?_setBlock heap_setBlock_same)
theorem bruns_goes : false = Rows.buildRunsRow.goesBy Tryz.prog := by kernel_rfl
theorem bruns_looks : true = Tryz.prog.looks [] := by kernel_rfl
theorem bruns_text : Rows.buildRunsRow.wfByText (OpenSpec.ofChange Rows.buildRunsSpec) = true := by kernel_rfl
theorem bruns_main : Tryz.prog.mainIs = some (Rows.buildRunsCard.stood.harness.1,Rows.buildRunsCard.stood.harness.2.toList) := by kernel_rfl
theorem bruns_inInt : Tryz.prog.wantsStandIn 3 = false := by kernel_rfl
theorem bruns_inInts : Tryz.prog.wantsStandIn 68 = false := by kernel_rfl
theorem bruns_inRfiles : Tryz.prog.wantsStandIn 36 = false := by kernel_rfl
theorem bruns_inRules : Tryz.prog.wantsStandIn 66 = false := by kernel_rfl
theorem bruns_inStrs : Tryz.prog.wantsStandIn 45 = false := by kernel_rfl
theorem bruns_card : Rows.BuildRunsCardSaid :=
 Claim7.holds_tied_plain_at .later [] _ _ _ _ (bruns_holds) (fun _ h => by cases h) bruns_text (fun _ h => by cases h) buildRuns_row_tie rfl ⟨rfl,rfl⟩ bruns_main rfl
  (fun f fn hf hfn => by
   obtain rfl : f = 9 := Option.some.inj ((show Tryz.prog.funcNamed Rows.buildRunsRow.func = some 9 by kernel_rfl).symm.trans hf) |>.symm
   obtain rfl : fn = Tryz.f9 := (Option.some.inj (Tryz.func9.symm.trans hfn)).symm
   refine ⟨bruns_looks,fun j t ht => ?_⟩
   rw [Tryz.params9] at ht
   have hm := Array.mem_of_getElem? ht
   have hm' : t = 36 ∨ t = 66 ∨ t = 45 ∨ t = 3 ∨ t = 68 := by simpa using hm
   rcases hm' with rfl | rfl | rfl | rfl | rfl
   ·exact bruns_inRfiles
   ·exact bruns_inRules
   ·exact bruns_inStrs
   ·exact bruns_inInt
   ·exact bruns_inInts)
  bruns_goes
#print axioms bruns_card
end Go.Proofs.YtflbofdpfgkmcaaGreatDoor
