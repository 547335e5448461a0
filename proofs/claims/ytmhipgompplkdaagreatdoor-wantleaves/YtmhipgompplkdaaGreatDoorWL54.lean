/- WantLeaves, for every list of files, of more files, of rules, and every text: what is wanted hangs on the leaves alone that it needs: other files make no difference. Conditions: the listed package variables start as the program's own text lays them (tied). -/
import Derived.Test.YtmhipgompplkdaaGreatDoorWL53
import Derived.Test.YtmhipgompplkdaaGreatDoorCards
import Derived.Test.YtmhipgompplkdaaGreatDoorTie
namespace Go.Proofs.YtmhipgompplkdaaGreatDoor
open Go.ChangeShapes Go.WideShapes Go.ChangeAt Go.WideMaps Go.WideElems Go.RowKit
open Go.ChangeMaps (setBlock shut_map_nil open_string shut_string keptBut_setBlock frozen?_setBlock heap_setBlock_same)
theorem wleaves_goes : false = Rows.wantLeavesRow.goesBy Tryz.prog := by kernel_rfl
theorem wleaves_looks : true = Tryz.prog.looks [] := by kernel_rfl
theorem wleaves_text : Rows.wantLeavesRow.wfByText (OpenSpec.ofChange Rows.wantLeavesSpec) = true := by kernel_rfl
theorem wleaves_main : Tryz.prog.mainIs = some (Rows.wantLeavesCard.stood.harness.1, Rows.wantLeavesCard.stood.harness.2.toList) := by kernel_rfl
theorem wleaves_in0 : Tryz.prog.wantsStandIn 36 = false := by kernel_rfl
theorem wleaves_in1 : Tryz.prog.wantsStandIn 66 = false := by kernel_rfl
theorem wleaves_in2 : Tryz.prog.wantsStandIn 9 = false := by kernel_rfl
theorem wleaves_card : Rows.WantLeavesCardSaid :=
  Claim7.holds_tied_plain_at .later [] _ _ _ _ (wleaves_holds) (fun _ h => by cases h) wleaves_text (fun _ h => by cases h) wantLeaves_row_tie rfl ⟨rfl, rfl⟩ wleaves_main rfl
    (fun f fn hf hfn => by
      obtain rfl : f = 11 := Option.some.inj ((show Tryz.prog.funcNamed Rows.wantLeavesRow.func = some 11 by kernel_rfl).symm.trans hf) |>.symm
      obtain rfl : fn = Tryz.f11 := (Option.some.inj (Tryz.func11.symm.trans hfn)).symm
      refine ⟨wleaves_looks, fun j t ht => ?_⟩
      rw [Tryz.params11] at ht
      have hm := Array.mem_of_getElem? ht
      have h6 : ∀ x ∈ [36, 36, 66, 9], x = 36 ∨ x = 66 ∨ x = 9 := by decide
      have hm' : t = 36 ∨ t = 66 ∨ t = 9 := h6 t (by simpa using hm)
      rcases hm' with rfl | rfl | rfl
      · exact wleaves_in0
      · exact wleaves_in1
      · exact wleaves_in2)
    wleaves_goes
#print axioms wleaves_card
end Go.Proofs.YtmhipgompplkdaaGreatDoor
