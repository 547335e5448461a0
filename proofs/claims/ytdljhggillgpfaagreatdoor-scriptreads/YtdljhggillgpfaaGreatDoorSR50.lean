import Derived.Test.YtdljhggillgpfaaGreatDoorSR49
namespace Go.Proofs.YtdljhggillgpfaaGreatDoor
open Go.ChangeShapes Go.WideShapes Go.ChangeAt Go.WideMaps Go.WideElems Go.RowKit
theorem screads_two {a b : Bool} (ha : a = true) (hb : b = true) : (a && b) = true := by rw [ha,hb];rfl
theorem screads_f10 : (Rows.scriptReadsRow.inPlace == Tryz.prog.inPlace 3) = true := by kernel_rfl
theorem screads_f11 : (Rows.scriptReadsRow.unfollowed == Tryz.prog.unfollowed 3) = true := by kernel_rfl
theorem screads_f12 : (Rows.scriptReadsRow.recurses == Tryz.prog.recurses 3) = true := by kernel_rfl
theorem screads_f13 : (Rows.scriptReadsRow.named == Tryz.prog.varsNamed 3) = true := by kernel_rfl
end Go.Proofs.YtdljhggillgpfaaGreatDoor
