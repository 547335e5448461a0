import Derived.Test.YtmhipgompplkdaaGreatDoorBS51
namespace Go.Proofs.YtmhipgompplkdaaGreatDoor
open Go.ChangeShapes Go.WideShapes Go.ChangeAt Go.WideMaps Go.WideElems Go.RowKit
theorem bsame_two {a b : Bool} (ha : a = true) (hb : b = true) : (a && b) = true := by rw [ha, hb]; rfl
theorem bsame_f10 : (Rows.buildSameRow.inPlace == Tryz.prog.inPlace 8) = true := by kernel_rfl
theorem bsame_f11 : (Rows.buildSameRow.unfollowed == Tryz.prog.unfollowed 8) = true := by kernel_rfl
theorem bsame_f12 : (Rows.buildSameRow.recurses == Tryz.prog.recurses 8) = true := by kernel_rfl
theorem bsame_f13 : (Rows.buildSameRow.named == Tryz.prog.varsNamed 8) = true := by kernel_rfl
theorem bsame_facts : joinedFacts Tryz.prog 8 Tryz.f8 Rows.buildSameSpec Rows.buildSameRow = true := by
  unfold joinedFacts
  exact (bsame_two (bsame_two (bsame_two (bsame_two (bsame_two (bsame_two (bsame_two (bsame_two (bsame_two (bsame_two (bsame_two (bsame_two (bsame_two (bsame_two (bsame_two (bsame_two (bsame_two (bsame_two (bsame_two (bsame_two (bsame_two (bsame_two (bsame_two (bsame_two (bsame_two (bsame_two (bsame_two (bsame_two (bsame_two (bsame_two (bsame_two (by kernel_rfl) (by kernel_rfl)) (by kernel_rfl)) (by kernel_rfl)) (by kernel_rfl)) (by kernel_rfl)) (by kernel_rfl)) (by kernel_rfl)) (by kernel_rfl)) bsame_f10) bsame_f11) bsame_f12) bsame_f13) (by kernel_rfl)) (by kernel_rfl)) (by kernel_rfl)) (by kernel_rfl)) (by kernel_rfl)) (by kernel_rfl)) (by kernel_rfl)) (by kernel_rfl)) (by kernel_rfl)) (by kernel_rfl)) (by kernel_rfl)) (by kernel_rfl)) (by kernel_rfl)) (by kernel_rfl)) (by kernel_rfl)) (by kernel_rfl)) (by kernel_rfl)) (by kernel_rfl)) (by kernel_rfl))
end Go.Proofs.YtmhipgompplkdaaGreatDoor
