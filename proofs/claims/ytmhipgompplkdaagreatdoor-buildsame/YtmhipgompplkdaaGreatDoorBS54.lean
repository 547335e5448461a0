/- BuildSame, for every list of files, of rules, of numbers, and every room of a cache: in whatever order rules run, with a cache or none, results are what is wanted; all are over in the end, and none of it is made twice. Conditions: the listed package variables start as the program's own text lays them (tied). -/
import Derived.Test.YtmhipgompplkdaaGreatDoorBS53
import Derived.Test.YtmhipgompplkdaaGreatDoorCards
import Derived.Test.YtmhipgompplkdaaGreatDoorTie
namespace Go.Proofs.YtmhipgompplkdaaGreatDoor
open Go.ChangeShapes Go.WideShapes Go.ChangeAt Go.WideMaps Go.WideElems Go.RowKit
open Go.ChangeMaps (setBlock shut_map_nil open_string shut_string keptBut_setBlock frozen?_setBlock heap_setBlock_same)
theorem bsame_goes : false = Rows.buildSameRow.goesBy Tryz.prog := by kernel_rfl
theorem bsame_looks : true = Tryz.prog.looks [] := by kernel_rfl
theorem bsame_text : Rows.buildSameRow.wfByText (OpenSpec.ofChange Rows.buildSameSpec) = true := by kernel_rfl
theorem bsame_main : Tryz.prog.mainIs = some (Rows.buildSameCard.stood.harness.1, Rows.buildSameCard.stood.harness.2.toList) := by kernel_rfl
theorem bsame_in0 : Tryz.prog.wantsStandIn 36 = false := by kernel_rfl
theorem bsame_in1 : Tryz.prog.wantsStandIn 66 = false := by kernel_rfl
theorem bsame_in2 : Tryz.prog.wantsStandIn 68 = false := by kernel_rfl
theorem bsame_in3 : Tryz.prog.wantsStandIn 3 = false := by kernel_rfl
theorem bsame_card : Rows.BuildSameCardSaid :=
  Claim7.holds_tied_plain_at .later [] _ _ _ _ (bsame_holds) (fun _ h => by cases h) bsame_text (fun _ h => by cases h) buildSame_row_tie rfl ⟨rfl, rfl⟩ bsame_main rfl
    (fun f fn hf hfn => by
      obtain rfl : f = 8 := Option.some.inj ((show Tryz.prog.funcNamed Rows.buildSameRow.func = some 8 by kernel_rfl).symm.trans hf) |>.symm
      obtain rfl : fn = Tryz.f8 := (Option.some.inj (Tryz.func8.symm.trans hfn)).symm
      refine ⟨bsame_looks, fun j t ht => ?_⟩
      rw [Tryz.params8] at ht
      have hm := Array.mem_of_getElem? ht
      have h6 : ∀ x ∈ [36, 66, 68, 3], x = 36 ∨ x = 66 ∨ x = 68 ∨ x = 3 := by decide
      have hm' : t = 36 ∨ t = 66 ∨ t = 68 ∨ t = 3 := h6 t (by simpa using hm)
      rcases hm' with rfl | rfl | rfl | rfl
      · exact bsame_in0
      · exact bsame_in1
      · exact bsame_in2
      · exact bsame_in3)
    bsame_goes
#print axioms bsame_card
end Go.Proofs.YtmhipgompplkdaaGreatDoor
