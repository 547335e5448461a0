import Derived.Test.YtflbofdpfgkmcaaGreatDoorOP52
namespace Go.Proofs.YtflbofdpfgkmcaaGreatDoor
open Go.ChangeShapes Go.WideShapes Go.ChangeAt Go.WideMaps Go.WideElems Go.RowKit
theorem once_two {a b : Bool} (ha : a = true) (hb : b = true) : (a && b) = true := by rw [ha, hb]; rfl
theorem once_f10 : (Rows.buildOnceRow.inPlace == Tryz.prog.inPlace 8) = true := by kernel_rfl
theorem once_f11 : (Rows.buildOnceRow.unfollowed == Tryz.prog.unfollowed 8) = true := by kernel_rfl
theorem once_f12 : (Rows.buildOnceRow.recurses == Tryz.prog.recurses 8) = true := by kernel_rfl
theorem once_f13 : (Rows.buildOnceRow.named == Tryz.prog.varsNamed 8) = true := by kernel_rfl
theorem once_facts : joinedFacts Tryz.prog 8 Tryz.f8 Rows.buildOnceSpec Rows.buildOnceRow = true := by
  unfold joinedFacts
  exact (once_two (once_two (once_two (once_two (once_two (once_two (once_two (once_two (once_two (once_two (once_two (once_two (once_two (once_two (once_two (once_two (once_two (once_two (once_two (once_two (once_two (once_two (once_two (once_two (once_two (once_two (once_two (once_two (once_two (once_two (once_two (by kernel_rfl) (by kernel_rfl)) (by kernel_rfl)) (by kernel_rfl)) (by kernel_rfl)) (by kernel_rfl)) (by kernel_rfl)) (by kernel_rfl)) (by kernel_rfl)) once_f10) once_f11) once_f12) once_f13) (by kernel_rfl)) (by kernel_rfl)) (by kernel_rfl)) (by kernel_rfl)) (by kernel_rfl)) (by kernel_rfl)) (by kernel_rfl)) (by kernel_rfl)) (by kernel_rfl)) (by kernel_rfl)) (by kernel_rfl)) (by kernel_rfl)) (by kernel_rfl)) (by kernel_rfl)) (by kernel_rfl)) (by kernel_rfl)) (by kernel_rfl)) (by kernel_rfl)) (by kernel_rfl))
end Go.Proofs.YtflbofdpfgkmcaaGreatDoor
