/- What the rows' listed variables give commands. -/
import Derived.Test.YtigcogfjclohjaaGreatDoorTLaid
import Derived.Test.YtigcogfjclohjaaGreatDoorAKinds
import Derived.Test.YtigcogfjclohjaaGreatDoorANum
namespace Go.Proofs.YtigcogfjclohjaaGreatDoor
open Go.ChangeShapes Go.WideShapes Go.ChangeAt Go.WideMaps Go.WideElems Go.RowKit

theorem big_of {W : World} (h : W.ShapedOpen Tryz.prog) : 20 < W.heap.size := by
  have h0 : (((begin Tryz.prog (fun _ _ => 0) default).world.heap[20]?).bind Obj.row?).isSome = true := by kernel_rfl
  obtain ⟨⟨zero, t⟩, hz⟩ := Option.isSome_iff_exists.1 h0
  obtain ⟨cs, hh, _⟩ := h.1 20 zero t (of_decide_eq_true (by kernel_rfl)) hz
  exact (Array.getElem?_eq_some_iff.1 hh).1

/-- The rows of ActSorts and ActHeads list the same variables. -/
theorem act_laid {W : World} (h : laidMetH Tryz.prog Rows.actSortsRow.laid W) (hsh : W.ShapedOpen Tryz.prog) : (∃ es el, AW W es el) ∧ SynAt W := by
  rw [MakeChecks.laidMetH_plain _ _ _ (by kernel_rfl)] at h
  have h3 := h.tail.tail
  have hP := TL.pow_laid h3
  have h4 := h3.tail
  have h := h4.tail
  obtain ⟨a1, e1⟩ := TL.sentinel1 1 h (by kernel_rfl) (by kernel_rfl)
  have h := h.tail
  obtain ⟨a2, e2⟩ := TL.sentinel1 6 h (by kernel_rfl) (by kernel_rfl)
  have h := h.tail
  obtain ⟨a3, e3⟩ := TL.sentinel1 3 h (by kernel_rfl) (by kernel_rfl)
  have h := h.tail.tail
  obtain ⟨a4, e4⟩ := TL.sentinel1 15 h (by kernel_rfl) (by kernel_rfl)
  obtain ⟨m, hm⟩ := TL.maxLen_cell hsh
  exact ⟨⟨_, _, ⟨m, hm⟩, hP, e1, e3, big_of hsh⟩, _, e4, .inr ⟨_, _, rfl⟩⟩
end Go.Proofs.YtigcogfjclohjaaGreatDoor
