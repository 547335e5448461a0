/- What PathMatches's listed variables give its walk; a start that meets the row's condition. -/
import Derived.Test.YtpkkhabiheobnaaDoorStarsLaid
namespace Go.Proofs.YtpkkhabiheobnaaDoor
open Go.ChangeShapes Go.WideShapes Go.ChangeAt Go.WideMaps Go.WideElems Go.RowKit

theorem matches_errs {W : World} (h : laidMetH Tryd.prog Rows.pathMatchesRow.laid W) : ∃ es, E12 W es := by
  have e1 : (Rows.pathMatchesRow.laid.filter fun x => x.2.handleName?.isNone) = ("unicode/utf8.acceptRanges", Rows.laid_unicode_utf8_acceptRanges) :: (twelve.map (fun x => (x.1, sd x.2.1)) ++ [("unicode/utf8.first", Rows.laid_unicode_utf8_first)]) := by kernel_rfl
  have h1 : laidMet Tryd.prog (Rows.pathMatchesRow.laid.filter fun x => x.2.handleName?.isNone) W := h.1
  rw [e1] at h1
  have h2 : handlesMet Tryd.prog (Rows.pathMatchesRow.laid.filter fun x => x.2.handleName?.isSome) W := h.2
  have e2 : (Rows.pathMatchesRow.laid.filter fun x => x.2.handleName?.isSome) = [((Rows.namesRow.laid.headD ("", .nil)).1, Rows.laid_errors_errorType)] := by kernel_rfl
  rw [e2] at h2
  exact e12_of h1.tail (handle_of h2 (List.mem_singleton.2 rfl))

/-- All that is listed, laid over any start by the function. -/
theorem laidMet_layAll {P : Program} {w0 : World} {laid : List (String × DataW Unit)} (args : Array Value)
    (hf : w0.layFits P laid [] = true) (hi : w0.layIfaces P laid (w0.layVars P laid) = true) :
    laidMet P laid ((w0.layVars P laid).forCall (fun _ _ => 0) ⟨#[], args, []⟩).memory := by
  have e1 : (laid.filter fun x => (laid.map (·.1)).contains x.1) = laid := List.filter_eq_self.2 fun x hx => List.contains_iff_mem.2 (List.mem_map.2 ⟨x, hx, rfl⟩)
  have e2 : (laid.filter fun x => !(laid.map (·.1)).contains x.1) = [] := List.filter_eq_nil_iff.2 fun x hx => by rw [List.contains_iff_mem.2 (List.mem_map.2 ⟨x, hx, rfl⟩)]; simp
  have h : laidMet P laid (w0.layVars P laid) := laidMet_layVars (w0 := w0) (laid.map (·.1)) [] (by rw [e1]) (by rw [e1]; exact hf) (by rw [e1]; exact hi) (by rw [e2]; exact LaidIn.none)
  exact h.of_heap (by simp [World.memory, World.forCall, Input.heap])

theorem matches_met (os : Os) (args : Array Value) : laidMetH Tryd.prog Rows.pathMatchesRow.laid (((World.doorLaid Tryd.prog 262 os).layVars Tryd.prog (Rows.pathMatchesRow.laid.filter fun x => x.2.handleName?.isNone)).forCall (fun _ _ => 0) ⟨#[], args, []⟩).memory :=
  laidMetH_of_parts3 (fuel := 8) (laidMet_layAll args (by kernel_rfl) (by kernel_rfl)) (by kernel_rfl) (by kernel_rfl)
end Go.Proofs.YtpkkhabiheobnaaDoor
