import Derived.Test.YtbgkfmodbofalaaGreatDoorPR51
namespace Go.Proofs.YtbgkfmodbofalaaGreatDoor
open Go.ChangeShapes Go.WideShapes Go.ChangeAt Go.WideMaps Go.WideElems Go.RowKit
theorem Zah {a b : Bool} (ha : a = true) (hb : b = true) : (a && b) = true := by rw [ha,hb];rfl
theorem Zve : (Rows.pickRunsRow.inPlace == Tryz.prog.inPlace 14) = true := by kernel_rfl
theorem Zvd : (Rows.pickRunsRow.unfollowed == Tryz.prog.unfollowed 14) = true := by kernel_rfl
theorem Zvc : (Rows.pickRunsRow.recurses == Tryz.prog.recurses 14) = true := by kernel_rfl
theorem Zvb : (Rows.pickRunsRow.named == Tryz.prog.varsNamed 14) = true := by kernel_rfl
end Go.Proofs.YtbgkfmodbofalaaGreatDoor
