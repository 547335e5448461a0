/- PickSame, for every list of files, of rules, and two lists of picks: whatever the picks, the same rules run, and all is the same in the end. Conditions: the listed package variables start as the program's own text lays them (tied). -/
import Derived.Test.YtbgkfmodbofalaaGreatDoorPS53
import Derived.Test.YtbgkfmodbofalaaGreatDoorCards
import Derived.Test.YtbgkfmodbofalaaGreatDoorTie
namespace Go.Proofs.YtbgkfmodbofalaaGreatDoor
open Go.ChangeShapes Go.WideShapes Go.ChangeAt Go.WideMaps Go.WideElems Go.RowKit
theorem psame_holds : Rows.PickSameSaid :=
  OpenClaim.holds_of_wide 13 Tryz.f13 rfl rfl rfl rfl rfl rfl rfl ⟨rfl, rfl, rfl, rfl, rfl⟩ rfl rfl rfl rfl rfl (by kernel_rfl) Tryz.func13 psame_facts
    (of_decide_eq_true (by kernel_rfl)) (by unfold Func.isWrapper; first | (rw [if_pos (by decide +kernel)]; kernel_rfl) | (rw [if_neg (by decide +kernel)]; exact ⟨rfl, rfl⟩))
    (fun os started H enc _ => psame_lifted os started H enc)
end Go.Proofs.YtbgkfmodbofalaaGreatDoor
namespace Go.Proofs.YtbgkfmodbofalaaGreatDoor
open Go.ChangeShapes Go.WideShapes Go.ChangeAt Go.WideMaps Go.WideElems Go.RowKit
open Go.ChangeMaps (setBlock shut_map_nil open_string shut_string keptBut_setBlock frozen?_setBlock heap_setBlock_same)
theorem psame_goes : false = Rows.pickSameRow.goesBy Tryz.prog := by kernel_rfl
theorem psame_looks : true = Tryz.prog.looks [] := by kernel_rfl
theorem psame_text : Rows.pickSameRow.wfByText (OpenSpec.ofChange Rows.pickSameSpec) = true := by kernel_rfl
theorem psame_main : Tryz.prog.mainIs = some (Rows.pickSameCard.stood.harness.1, Rows.pickSameCard.stood.harness.2.toList) := by kernel_rfl
theorem psame_in0 : Tryz.prog.wantsStandIn 36 = false := by kernel_rfl
theorem psame_in1 : Tryz.prog.wantsStandIn 66 = false := by kernel_rfl
theorem psame_in2 : Tryz.prog.wantsStandIn 68 = false := by kernel_rfl
theorem psame_card : Rows.PickSameCardSaid :=
  Claim7.holds_tied_plain_at .later [] _ _ _ _ (psame_holds) (fun _ h => by cases h) psame_text (fun _ h => by cases h) pickSame_row_tie rfl ⟨rfl, rfl⟩ psame_main rfl
    (fun f fn hf hfn => by
      obtain rfl : f = 13 := Option.some.inj ((show Tryz.prog.funcNamed Rows.pickSameRow.func = some 13 by kernel_rfl).symm.trans hf) |>.symm
      obtain rfl : fn = Tryz.f13 := (Option.some.inj (Tryz.func13.symm.trans hfn)).symm
      refine ⟨psame_looks, fun j t ht => ?_⟩
      rw [Tryz.params13] at ht
      have hm := Array.mem_of_getElem? ht
      have h6 : ∀ x ∈ [36, 66, 68, 68], x = 36 ∨ x = 66 ∨ x = 68 := by decide
      have hm' : t = 36 ∨ t = 66 ∨ t = 68 := h6 t (by simpa using hm)
      rcases hm' with rfl | rfl | rfl
      · exact psame_in0
      · exact psame_in1
      · exact psame_in2)
    psame_goes
#print axioms psame_card
end Go.Proofs.YtbgkfmodbofalaaGreatDoor
