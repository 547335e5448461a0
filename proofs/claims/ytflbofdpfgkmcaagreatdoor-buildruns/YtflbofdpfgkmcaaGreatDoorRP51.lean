import Derived.Test.YtflbofdpfgkmcaaGreatDoorRP50
namespace Go.Proofs.YtflbofdpfgkmcaaGreatDoor
open Go.ChangeShapes Go.WideShapes Go.ChangeAt Go.WideMaps Go.WideElems Go.RowKit
theorem bruns_two {a b : Bool} (ha : a = true) (hb : b = true) : (a && b) = true := by rw [ha,hb];rfl
theorem bruns_f10 : (Rows.buildRunsRow.inPlace == Tryz.prog.inPlace 9) = true := by kernel_rfl
theorem bruns_f11 : (Rows.buildRunsRow.unfollowed == Tryz.prog.unfollowed 9) = true := by kernel_rfl
theorem bruns_f12 : (Rows.buildRunsRow.recurses == Tryz.prog.recurses 9) = true := by kernel_rfl
theorem bruns_f13 : (Rows.buildRunsRow.named == Tryz.prog.varsNamed 9) = true := by kernel_rfl
theorem bruns_facts : joinedFacts Tryz.prog 9 Tryz.f9 Rows.buildRunsSpec Rows.buildRunsRow = true := by
 unfold joinedFacts
 exact (bruns_two (bruns_two (bruns_two (bruns_two (bruns_two (bruns_two (bruns_two (bruns_two (bruns_two (bruns_two (bruns_two (bruns_two (bruns_two (bruns_two (bruns_two (bruns_two (bruns_two (bruns_two (bruns_two (bruns_two (bruns_two (bruns_two (bruns_two (bruns_two (bruns_two (bruns_two (bruns_two (bruns_two (bruns_two (bruns_two (bruns_two (by kernel_rfl) (by kernel_rfl)) (by kernel_rfl)) (by kernel_rfl)) (by kernel_rfl)) (by kernel_rfl)) (by kernel_rfl)) (by kernel_rfl)) (by kernel_rfl)) bruns_f10) bruns_f11) bruns_f12) bruns_f13) (by kernel_rfl)) (by kernel_rfl)) (by kernel_rfl)) (by kernel_rfl)) (by kernel_rfl)) (by kernel_rfl)) (by kernel_rfl)) (by kernel_rfl)) (by kernel_rfl)) (by kernel_rfl)) (by kernel_rfl)) (by kernel_rfl)) (by kernel_rfl)) (by kernel_rfl)) (by kernel_rfl)) (by kernel_rfl)) (by kernel_rfl)) (by kernel_rfl)) (by kernel_rfl))
end Go.Proofs.YtflbofdpfgkmcaaGreatDoor
