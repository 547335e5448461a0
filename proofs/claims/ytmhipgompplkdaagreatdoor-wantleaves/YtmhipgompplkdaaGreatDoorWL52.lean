import Derived.Test.YtmhipgompplkdaaGreatDoorWL51
namespace Go.Proofs.YtmhipgompplkdaaGreatDoor
open Go.ChangeShapes Go.WideShapes Go.ChangeAt Go.WideMaps Go.WideElems Go.RowKit
theorem wleaves_two {a b : Bool} (ha : a = true) (hb : b = true) : (a && b) = true := by rw [ha, hb]; rfl
theorem wleaves_f10 : (Rows.wantLeavesRow.inPlace == Tryz.prog.inPlace 11) = true := by kernel_rfl
theorem wleaves_f11 : (Rows.wantLeavesRow.unfollowed == Tryz.prog.unfollowed 11) = true := by kernel_rfl
theorem wleaves_f12 : (Rows.wantLeavesRow.recurses == Tryz.prog.recurses 11) = true := by kernel_rfl
theorem wleaves_f13 : (Rows.wantLeavesRow.named == Tryz.prog.varsNamed 11) = true := by kernel_rfl
theorem wleaves_facts : joinedFacts Tryz.prog 11 Tryz.f11 Rows.wantLeavesSpec Rows.wantLeavesRow = true := by
  unfold joinedFacts
  exact (wleaves_two (wleaves_two (wleaves_two (wleaves_two (wleaves_two (wleaves_two (wleaves_two (wleaves_two (wleaves_two (wleaves_two (wleaves_two (wleaves_two (wleaves_two (wleaves_two (wleaves_two (wleaves_two (wleaves_two (wleaves_two (wleaves_two (wleaves_two (wleaves_two (wleaves_two (wleaves_two (wleaves_two (wleaves_two (wleaves_two (wleaves_two (wleaves_two (wleaves_two (wleaves_two (wleaves_two (by kernel_rfl) (by kernel_rfl)) (by kernel_rfl)) (by kernel_rfl)) (by kernel_rfl)) (by kernel_rfl)) (by kernel_rfl)) (by kernel_rfl)) (by kernel_rfl)) wleaves_f10) wleaves_f11) wleaves_f12) wleaves_f13) (by kernel_rfl)) (by kernel_rfl)) (by kernel_rfl)) (by kernel_rfl)) (by kernel_rfl)) (by kernel_rfl)) (by kernel_rfl)) (by kernel_rfl)) (by kernel_rfl)) (by kernel_rfl)) (by kernel_rfl)) (by kernel_rfl)) (by kernel_rfl)) (by kernel_rfl)) (by kernel_rfl)) (by kernel_rfl)) (by kernel_rfl)) (by kernel_rfl)) (by kernel_rfl))
end Go.Proofs.YtmhipgompplkdaaGreatDoor
