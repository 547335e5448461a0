/- PlayRuns, for every script: a play of it tells the answers, the sum and the files of the document's answer's play. Conditions: the listed package variables start as the program's own text lays them (tied). -/
import Derived.Test.YtcplmkhclckagaaGreatDoorPR53
import Derived.Test.YtcplmkhclckagaaGreatDoorCards
import Derived.Test.YtcplmkhclckagaaGreatDoorTie
open Go.Proofs.Tryz
namespace Go.Proofs.YtcplmkhclckagaaGreatDoor
open Go.ChangeShapes Go.WideShapes Go.ChangeAt Go.WideMaps Go.WideElems Go.RowKit
open Go.ChangeMaps (setBlock shut_map_nil open_string shut_string keptBut_setBlock frozen?_setBlock heap_setBlock_same)
theorem Zsm:false=Rows.playRunsRow.goesBy prog:=by kernel_rfl
theorem Zoz:true=prog.looks []:=by kernel_rfl
theorem Zsi:Rows.playRunsRow.wfByText (OpenSpec.ofChange Rows.playRunsSpec)=true:=by kernel_rfl
theorem Zsk:prog.mainIs=some (Rows.playRunsCard.stood.harness.1,Rows.playRunsCard.stood.harness.2.toList):=by kernel_rfl
theorem Zwe:prog.wantsStandIn 22=false:=by kernel_rfl
theorem plruns_card:Rows.PlayRunsCardSaid :=
 Claim7.holds_tied_plain_at .later [] _ _ _ _ (Zpa) (fun _ h=>by cases h) Zsi (fun _ h=>by cases h) playRuns_row_tie rfl ⟨rfl,rfl⟩ Zsk rfl
  (fun f fn hf hfn=>by
   obtain rfl:f=3:=Option.some.inj ((show prog.funcNamed Rows.playRunsRow.func=some 3 by kernel_rfl).symm.trans hf) |>.symm
   obtain rfl:fn=f3:=(Option.some.inj (func3.symm.trans hfn)).symm;refine⟨Zoz,fun j t ht=> ?_⟩
   rw[params3]at ht;have hm:=Array.mem_of_getElem? ht;have h6:∀ x∈[22],x=22:=by decide
   have hm':t=22:=h6 t (by simpa using hm)
   rcases hm' with rfl
   ·exact Zwe)
  Zsm
#print axioms plruns_card
