/- PickRuns, for every list of files, of rules, of outs and of picks: a build that is run by picks runs what the document's answer runs, in that order, is over then, and has its states and results. Conditions: the listed package variables start as the program's own text lays them (tied). -/
import Derived.Test.YtbgkfmodbofalaaGreatDoorPR53
import Derived.Test.YtbgkfmodbofalaaGreatDoorCards
import Derived.Test.YtbgkfmodbofalaaGreatDoorTie
namespace Go.Proofs.YtbgkfmodbofalaaGreatDoor
open Go.ChangeShapes Go.WideShapes Go.ChangeAt Go.WideMaps Go.WideElems Go.RowKit
theorem Zoy : Rows.PickRunsSaid :=
 OpenClaim.holds_of_wide 14 Tryz.f14 rfl rfl rfl rfl rfl rfl rfl ⟨rfl,rfl,rfl,rfl,rfl⟩ rfl rfl rfl rfl rfl (by kernel_rfl) Tryz.func14 Zoz
  (of_decide_eq_true (by kernel_rfl)) (by unfold Func.isWrapper;first | (rw [if_pos (by decide +kernel)];kernel_rfl) | (rw [if_neg (by decide +kernel)];exact ⟨rfl,rfl⟩))
  (fun os started H enc _ => Zmk os started H enc)
open Go.ChangeMaps (setBlock shut_map_nil open_string shut_string keptBut_setBlock frozen?_setBlock heap_setBlock_same)
theorem Zsp : false = Rows.pickRunsRow.goesBy Tryz.prog := by kernel_rfl
theorem Zox : true = Tryz.prog.looks [] := by kernel_rfl
theorem Zsl : Rows.pickRunsRow.wfByText (OpenSpec.ofChange Rows.pickRunsSpec) = true := by kernel_rfl
theorem Zsn : Tryz.prog.mainIs = some (Rows.pickRunsCard.stood.harness.1,Rows.pickRunsCard.stood.harness.2.toList) := by kernel_rfl
theorem Zva : Tryz.prog.wantsStandIn 36 = false := by kernel_rfl
theorem Zuz : Tryz.prog.wantsStandIn 66 = false := by kernel_rfl
theorem Zuy : Tryz.prog.wantsStandIn 45 = false := by kernel_rfl
theorem Zux : Tryz.prog.wantsStandIn 68 = false := by kernel_rfl
theorem pruns_card : Rows.PickRunsCardSaid :=
 Claim7.holds_tied_plain_at .later [] _ _ _ _ (Zoy) (fun _ h => by cases h) Zsl (fun _ h => by cases h) pickRuns_row_tie rfl ⟨rfl,rfl⟩ Zsn rfl
  (fun f fn hf hfn => by
   obtain rfl : f = 14 := Option.some.inj ((show Tryz.prog.funcNamed Rows.pickRunsRow.func = some 14 by kernel_rfl).symm.trans hf) |>.symm
   obtain rfl : fn = Tryz.f14 := (Option.some.inj (Tryz.func14.symm.trans hfn)).symm;refine ⟨Zox,fun j t ht => ?_⟩
   rw [Tryz.params14] at ht;have hm := Array.mem_of_getElem? ht;have h6 : ∀ x ∈ [36,66,45,68],x = 36 \/ x = 66 \/ x = 45 \/ x = 68 := by decide
   have hm' : t = 36 \/ t = 66 \/ t = 45 \/ t = 68 := h6 t (by simpa using hm)
   rcases hm' with rfl | rfl | rfl | rfl
   ·exact Zva
   ·exact Zuz
   ·exact Zuy
   ·exact Zux)
  Zsp
#print axioms pruns_card
end Go.Proofs.YtbgkfmodbofalaaGreatDoor
