import Derived.Test.YtmhipgompplkdaaGreatDoorWT51
namespace Go.Proofs.YtmhipgompplkdaaGreatDoor
open Go.ChangeShapes Go.WideShapes Go.ChangeAt Go.WideMaps Go.WideElems Go.RowKit
theorem wtells_two {a b : Bool} (ha : a = true) (hb : b = true) : (a && b) = true := by rw [ha, hb]; rfl
theorem wtells_f10 : (Rows.wantTellsRow.inPlace == Tryz.prog.inPlace 12) = true := by kernel_rfl
theorem wtells_f11 : (Rows.wantTellsRow.unfollowed == Tryz.prog.unfollowed 12) = true := by kernel_rfl
theorem wtells_f12 : (Rows.wantTellsRow.recurses == Tryz.prog.recurses 12) = true := by kernel_rfl
theorem wtells_f13 : (Rows.wantTellsRow.named == Tryz.prog.varsNamed 12) = true := by kernel_rfl
theorem wtells_facts : joinedFacts Tryz.prog 12 Tryz.f12 Rows.wantTellsSpec Rows.wantTellsRow = true := by
  unfold joinedFacts
  exact (wtells_two (wtells_two (wtells_two (wtells_two (wtells_two (wtells_two (wtells_two (wtells_two (wtells_two (wtells_two (wtells_two (wtells_two (wtells_two (wtells_two (wtells_two (wtells_two (wtells_two (wtells_two (wtells_two (wtells_two (wtells_two (wtells_two (wtells_two (wtells_two (wtells_two (wtells_two (wtells_two (wtells_two (wtells_two (wtells_two (wtells_two (by kernel_rfl) (by kernel_rfl)) (by kernel_rfl)) (by kernel_rfl)) (by kernel_rfl)) (by kernel_rfl)) (by kernel_rfl)) (by kernel_rfl)) (by kernel_rfl)) wtells_f10) wtells_f11) wtells_f12) wtells_f13) (by kernel_rfl)) (by kernel_rfl)) (by kernel_rfl)) (by kernel_rfl)) (by kernel_rfl)) (by kernel_rfl)) (by kernel_rfl)) (by kernel_rfl)) (by kernel_rfl)) (by kernel_rfl)) (by kernel_rfl)) (by kernel_rfl)) (by kernel_rfl)) (by kernel_rfl)) (by kernel_rfl)) (by kernel_rfl)) (by kernel_rfl)) (by kernel_rfl)) (by kernel_rfl))
end Go.Proofs.YtmhipgompplkdaaGreatDoor
