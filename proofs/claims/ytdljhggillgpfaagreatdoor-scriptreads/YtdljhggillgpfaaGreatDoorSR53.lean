/- ScriptReads, for every list of lines: those that are too many are told so; a line whose command is none, or that has more behind a command that takes nothing, answers the text of ErrText, whatever stands ahead of it. Conditions: the listed package variables start as the program's own text lays them (tied). -/
import Derived.Test.YtdljhggillgpfaaGreatDoorSR52
import Derived.Test.YtdljhggillgpfaaGreatDoorCards
import Derived.Test.YtdljhggillgpfaaGreatDoorTie
namespace Go.Proofs.YtdljhggillgpfaaGreatDoor
open Go.ChangeShapes Go.WideShapes Go.ChangeAt Go.WideMaps Go.WideElems Go.RowKit
open Go.ChangeMaps (setBlock shut_map_nil open_string shut_string keptBut_setBlock frozen?_setBlock heap_setBlock_same)
theorem screads_goes : false = Rows.scriptReadsRow.goesBy Tryz.prog := by kernel_rfl
theorem screads_looks : true = Tryz.prog.looks [] := by kernel_rfl
theorem screads_text : Rows.scriptReadsRow.wfByText (OpenSpec.ofChange Rows.scriptReadsSpec) = true := by kernel_rfl
theorem screads_main : Tryz.prog.mainIs = some (Rows.scriptReadsCard.stood.harness.1,Rows.scriptReadsCard.stood.harness.2.toList) := by kernel_rfl
theorem screads_in0 : Tryz.prog.wantsStandIn 22 = false := by kernel_rfl
theorem screads_card : Rows.ScriptReadsCardSaid :=
 Claim7.holds_tied_plain_at .later [] _ _ _ _ (screads_holds) (fun _ h => by cases h) screads_text (fun _ h => by cases h) scriptReads_row_tie rfl ⟨rfl,rfl⟩ screads_main rfl
  (fun f fn hf hfn => by
   obtain rfl : f = 3 := Option.some.inj ((show Tryz.prog.funcNamed Rows.scriptReadsRow.func = some 3 by kernel_rfl).symm.trans hf) |>.symm
   obtain rfl : fn = Tryz.f3 := (Option.some.inj (Tryz.func3.symm.trans hfn)).symm
   refine ⟨screads_looks,fun j t ht => ?_⟩
   rw [Tryz.params3] at ht
   have hm := Array.mem_of_getElem? ht
   have h6 : ∀ x ∈ [22],x = 22 := by decide
   have hm' : t = 22 := h6 t (by simpa using hm)
   rcases hm' with rfl
   ·exact screads_in0)
  screads_goes
#print axioms screads_card
end Go.Proofs.YtdljhggillgpfaaGreatDoor
