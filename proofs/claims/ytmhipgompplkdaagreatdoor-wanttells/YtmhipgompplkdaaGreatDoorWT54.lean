/- WantTells, for every list of files, of rules, and every text: what is wanted of it, and of all, is what the document's answer tells, and the files are left as they were. Conditions: the listed package variables start as the program's own text lays them (tied). -/
import Derived.Test.YtmhipgompplkdaaGreatDoorWT53
import Derived.Test.YtmhipgompplkdaaGreatDoorCards
import Derived.Test.YtmhipgompplkdaaGreatDoorTie
namespace Go.Proofs.YtmhipgompplkdaaGreatDoor
open Go.ChangeShapes Go.WideShapes Go.ChangeAt Go.WideMaps Go.WideElems Go.RowKit
open Go.ChangeMaps (setBlock shut_map_nil open_string shut_string keptBut_setBlock frozen?_setBlock heap_setBlock_same)
theorem wtells_goes : false = Rows.wantTellsRow.goesBy Tryz.prog := by kernel_rfl
theorem wtells_looks : true = Tryz.prog.looks [] := by kernel_rfl
theorem wtells_text : Rows.wantTellsRow.wfByText (OpenSpec.ofChange Rows.wantTellsSpec) = true := by kernel_rfl
theorem wtells_main : Tryz.prog.mainIs = some (Rows.wantTellsCard.stood.harness.1, Rows.wantTellsCard.stood.harness.2.toList) := by kernel_rfl
theorem wtells_in0 : Tryz.prog.wantsStandIn 36 = false := by kernel_rfl
theorem wtells_in1 : Tryz.prog.wantsStandIn 66 = false := by kernel_rfl
theorem wtells_in2 : Tryz.prog.wantsStandIn 9 = false := by kernel_rfl
theorem wtells_card : Rows.WantTellsCardSaid :=
  Claim7.holds_tied_plain_at .later [] _ _ _ _ (wtells_holds) (fun _ h => by cases h) wtells_text (fun _ h => by cases h) wantTells_row_tie rfl ⟨rfl, rfl⟩ wtells_main rfl
    (fun f fn hf hfn => by
      obtain rfl : f = 12 := Option.some.inj ((show Tryz.prog.funcNamed Rows.wantTellsRow.func = some 12 by kernel_rfl).symm.trans hf) |>.symm
      obtain rfl : fn = Tryz.f12 := (Option.some.inj (Tryz.func12.symm.trans hfn)).symm
      refine ⟨wtells_looks, fun j t ht => ?_⟩
      rw [Tryz.params12] at ht
      have hm := Array.mem_of_getElem? ht
      have h6 : ∀ x ∈ [36, 66, 9], x = 36 ∨ x = 66 ∨ x = 9 := by decide
      have hm' : t = 36 ∨ t = 66 ∨ t = 9 := h6 t (by simpa using hm)
      rcases hm' with rfl | rfl | rfl
      · exact wtells_in0
      · exact wtells_in1
      · exact wtells_in2)
    wtells_goes
#print axioms wtells_card
end Go.Proofs.YtmhipgompplkdaaGreatDoor
