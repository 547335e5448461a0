/- PickLevels, for every list of rules: where the document's answer finds a fault, or a round, Levels and Deep tell it; else the levels are rising, none is empty, each rule lies in that of its level, just once; Deep tells how many. Conditions: the listed package variables start as the program's own text lays them (tied). -/
import Derived.Test.YtbgkfmodbofalaaGreatDoorPL53
import Derived.Test.YtbgkfmodbofalaaGreatDoorCards
import Derived.Test.YtbgkfmodbofalaaGreatDoorTie
namespace Go.Proofs.YtbgkfmodbofalaaGreatDoor
open Go.ChangeShapes Go.WideShapes Go.ChangeAt Go.WideMaps Go.WideElems Go.RowKit
theorem plev_holds : Rows.PickLevelsSaid :=
  OpenClaim.holds_of_wide 12 Tryz.f12 rfl rfl rfl rfl rfl rfl rfl ⟨rfl, rfl, rfl, rfl, rfl⟩ rfl rfl rfl rfl rfl (by kernel_rfl) Tryz.func12 plev_facts
    (of_decide_eq_true (by kernel_rfl)) (by unfold Func.isWrapper; first | (rw [if_pos (by decide +kernel)]; kernel_rfl) | (rw [if_neg (by decide +kernel)]; exact ⟨rfl, rfl⟩))
    (fun os started H enc _ => plev_lifted os started H enc)
end Go.Proofs.YtbgkfmodbofalaaGreatDoor
namespace Go.Proofs.YtbgkfmodbofalaaGreatDoor
open Go.ChangeShapes Go.WideShapes Go.ChangeAt Go.WideMaps Go.WideElems Go.RowKit
open Go.ChangeMaps (setBlock shut_map_nil open_string shut_string keptBut_setBlock frozen?_setBlock heap_setBlock_same)
theorem plev_goes : false = Rows.pickLevelsRow.goesBy Tryz.prog := by kernel_rfl
theorem plev_looks : true = Tryz.prog.looks [] := by kernel_rfl
theorem plev_text : Rows.pickLevelsRow.wfByText (OpenSpec.ofChange Rows.pickLevelsSpec) = true := by kernel_rfl
theorem plev_main : Tryz.prog.mainIs = some (Rows.pickLevelsCard.stood.harness.1, Rows.pickLevelsCard.stood.harness.2.toList) := by kernel_rfl
theorem plev_in0 : Tryz.prog.wantsStandIn 66 = false := by kernel_rfl
theorem plev_card : Rows.PickLevelsCardSaid :=
  Claim7.holds_tied_plain_at .later [] _ _ _ _ (plev_holds) (fun _ h => by cases h) plev_text (fun _ h => by cases h) pickLevels_row_tie rfl ⟨rfl, rfl⟩ plev_main rfl
    (fun f fn hf hfn => by
      obtain rfl : f = 12 := Option.some.inj ((show Tryz.prog.funcNamed Rows.pickLevelsRow.func = some 12 by kernel_rfl).symm.trans hf) |>.symm
      obtain rfl : fn = Tryz.f12 := (Option.some.inj (Tryz.func12.symm.trans hfn)).symm
      refine ⟨plev_looks, fun j t ht => ?_⟩
      rw [Tryz.params12] at ht
      have hm := Array.mem_of_getElem? ht
      have h6 : ∀ x ∈ [66], x = 66 := by decide
      have hm' : t = 66 := h6 t (by simpa using hm)
      rcases hm' with rfl
      · exact plev_in0)
    plev_goes
#print axioms plev_card
end Go.Proofs.YtbgkfmodbofalaaGreatDoor
