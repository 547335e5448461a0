/- PlayAgain, for every script: two plays of it tell the same answers and the same sum; behind Make of all nothing is stale. Conditions: the listed package variables start as the program's own text lays them (tied). -/
import Derived.Test.YthchjnopgagilaaGreatDoorPA53
import Derived.Test.YthchjnopgagilaaGreatDoorCards
import Derived.Test.YthchjnopgagilaaGreatDoorTie
namespace Go.Proofs.YthchjnopgagilaaGreatDoor
open Go.ChangeShapes Go.WideShapes Go.ChangeAt Go.WideMaps Go.WideElems Go.RowKit
theorem pagain_holds : Rows.PlayAgainSaid :=
 OpenClaim.holds_of_wide 13 Tryz.f13 rfl rfl rfl rfl rfl rfl rfl ⟨rfl,rfl,rfl,rfl,rfl⟩ rfl rfl rfl rfl rfl (by kernel_rfl) Tryz.func13 pagain_facts
  (of_decide_eq_true (by kernel_rfl)) (by unfold Func.isWrapper;first | (rw [if_pos (by decide +kernel)];kernel_rfl) | (rw [if_neg (by decide +kernel)];exact ⟨rfl,rfl⟩))
  (fun os started H enc _ => pagain_lifted os started H enc)
open Go.ChangeMaps (setBlock shut_map_nil open_string shut_string keptBut_setBlock frozen?_setBlock heap_setBlock_same)
theorem pagain_goes : false = Rows.playAgainRow.goesBy Tryz.prog := by kernel_rfl
theorem pagain_looks : true = Tryz.prog.looks [] := by kernel_rfl
theorem pagain_text : Rows.playAgainRow.wfByText (OpenSpec.ofChange Rows.playAgainSpec) = true := by kernel_rfl
theorem pagain_main : Tryz.prog.mainIs = some (Rows.playAgainCard.stood.harness.1,Rows.playAgainCard.stood.harness.2.toList) := by kernel_rfl
theorem pagain_in0 : Tryz.prog.wantsStandIn 68 = false := by kernel_rfl
theorem pagain_card : Rows.PlayAgainCardSaid :=
 Claim7.holds_tied_plain_at .later [] _ _ _ _ (pagain_holds) (fun _ h => by cases h) pagain_text (fun _ h => by cases h) playAgain_row_tie rfl ⟨rfl,rfl⟩ pagain_main rfl
  (fun f fn hf hfn => by
   obtain rfl : f = 13 := Option.some.inj ((show Tryz.prog.funcNamed Rows.playAgainRow.func = some 13 by kernel_rfl).symm.trans hf) |>.symm
   obtain rfl : fn = Tryz.f13 := (Option.some.inj (Tryz.func13.symm.trans hfn)).symm
   refine ⟨pagain_looks,fun j t ht => ?_⟩
   rw [Tryz.params13] at ht
   have hm := Array.mem_of_getElem? ht
   have h6 : ∀ x ∈ [68],x = 68 := by decide
   have hm' : t = 68 := h6 t (by simpa using hm)
   rcases hm' with rfl
   ·exact pagain_in0)
  pagain_goes
#print axioms pagain_card
end Go.Proofs.YthchjnopgagilaaGreatDoor
