/- ScriptAgain, for every list of commands and every number: the same lines make the same answers; those of a beginning are the beginning of those of all. Conditions: the listed package variables start as the program's own text lays them (tied). -/
import Derived.Test.YtdljhggillgpfaaGreatDoorSA53
import Derived.Test.YtdljhggillgpfaaGreatDoorCards
import Derived.Test.YtdljhggillgpfaaGreatDoorTie
namespace Go.Proofs.YtdljhggillgpfaaGreatDoor
open Go.ChangeShapes Go.WideShapes Go.ChangeAt Go.WideMaps Go.WideElems Go.RowKit
open Go.ChangeMaps (setBlock shut_map_nil open_string shut_string keptBut_setBlock frozen?_setBlock heap_setBlock_same)
theorem scagain_goes : false = Rows.scriptAgainRow.goesBy Tryz.prog := by kernel_rfl
theorem scagain_looks : true = Tryz.prog.looks [] := by kernel_rfl
theorem scagain_text : Rows.scriptAgainRow.wfByText (OpenSpec.ofChange Rows.scriptAgainSpec) = true := by kernel_rfl
theorem scagain_main : Tryz.prog.mainIs = some (Rows.scriptAgainCard.stood.harness.1,Rows.scriptAgainCard.stood.harness.2.toList) := by kernel_rfl
theorem scagain_in0 : Tryz.prog.wantsStandIn 33 = false := by kernel_rfl
theorem scagain_in1 : Tryz.prog.wantsStandIn 3 = false := by kernel_rfl
theorem scagain_card : Rows.ScriptAgainCardSaid :=
 Claim7.holds_tied_plain_at .later [] _ _ _ _ (scagain_holds) (fun _ h => by cases h) scagain_text (fun _ h => by cases h) scriptAgain_row_tie rfl ⟨rfl,rfl⟩ scagain_main rfl
  (fun f fn hf hfn => by
   obtain rfl : f = 4 := Option.some.inj ((show Tryz.prog.funcNamed Rows.scriptAgainRow.func = some 4 by kernel_rfl).symm.trans hf) |>.symm
   obtain rfl : fn = Tryz.f4 := (Option.some.inj (Tryz.func4.symm.trans hfn)).symm
   refine ⟨scagain_looks,fun j t ht => ?_⟩
   rw [Tryz.params4] at ht
   have hm := Array.mem_of_getElem? ht
   have h6 : ∀ x ∈ [33,3],x = 33 ∨ x = 3 := by decide
   have hm' : t = 33 ∨ t = 3 := h6 t (by simpa using hm)
   rcases hm' with rfl | rfl
   ·exact scagain_in0
   ·exact scagain_in1)
  scagain_goes
#print axioms scagain_card
end Go.Proofs.YtdljhggillgpfaaGreatDoor
