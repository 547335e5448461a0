/- TreeReads, for every text: it is read as a tree just where the document's answer reads one; the error's number is the same; what is read has this text. Conditions: the listed package variables start as the program's own text lays them (tied). -/
import Derived.Test.YtigcogfjclohjaaGreatDoorTreeReads
import Derived.Test.YtigcogfjclohjaaGreatDoorELaid
import Derived.Test.YtigcogfjclohjaaGreatDoorCards
import Derived.Test.YtigcogfjclohjaaGreatDoorTie
namespace Go.Proofs.YtigcogfjclohjaaGreatDoor
open Go.ChangeShapes Go.WideShapes Go.ChangeAt Go.WideMaps Go.WideElems Go.RowKit
open Go.ChangeMaps (setBlock shut_map_nil open_string shut_string keptBut_setBlock frozen?_setBlock heap_setBlock_same)

theorem reads_laid {W : World} (h : laidMetH Tryz.prog Rows.treeReadsRow.laid W) : (∃ es, E12 W es) ∧ Pow W ∧ SynAt W := by
  have e1 : (Rows.treeReadsRow.laid.filter fun x => x.2.handleName?.isNone) = ("math/bits.deBruijn32tab", Rows.laid_math_bits_deBruijn32tab) :: ("math/bits.deBruijn64tab", Rows.laid_math_bits_deBruijn64tab) :: ("internal/strconv.uint64pow10", Rows.laid_internal_strconv_uint64pow10) :: (EL.twelve.map (fun x => (x.1, EL.sd x.2.1)) ++ [("strconv.ErrRange", Rows.laid_strconv_ErrRange), ("strconv.ErrSyntax", Rows.laid_strconv_ErrSyntax)]) := by kernel_rfl
  have h1 : laidMet Tryz.prog (Rows.treeReadsRow.laid.filter fun x => x.2.handleName?.isNone) W := h.1
  rw [e1] at h1
  have h2 : handlesMet Tryz.prog (Rows.treeReadsRow.laid.filter fun x => x.2.handleName?.isSome) W := h.2
  have e2 : (Rows.treeReadsRow.laid.filter fun x => x.2.handleName?.isSome) = [("errors.errorType", Rows.laid_errors_errorType)] := by kernel_rfl
  rw [e2] at h2
  have h3 := h1.tail.tail
  have h4 := (EL.laidMet_drop _ h3.tail).tail
  obtain ⟨a, ha⟩ := TL.sentinel1 15 h4 (by kernel_rfl) (by kernel_rfl)
  exact ⟨EL.e12_of h3.tail (EL.handle_of h2 (List.mem_singleton.2 rfl)), TL.pow_laid h3, _, ha, .inr ⟨_, _, rfl⟩⟩

theorem reads_met (os : Os) (args : Array Value) : laidMetH Tryz.prog Rows.treeReadsRow.laid (((World.doorLaid Tryz.prog 370 os).layVars Tryz.prog (Rows.treeReadsRow.laid.filter fun x => x.2.handleName?.isNone)).forCall (fun _ _ => 0) ⟨#[], args, []⟩).memory :=
  laidMetH_of_parts3 (fuel := 8) (EL.laidMet_layAll args (by kernel_rfl) (by kernel_rfl)) (by kernel_rfl) (by kernel_rfl)

set_option maxRecDepth 100000 in
theorem reads_lifted (os : Os) (started : os.Started) (H : Type) (enc : TypeId × Value → H) :
    ReturnsInHanded {} Tryz.checked os 3 .any (fun w args => (Rows.treeReadsSpec.pre enc Tryz.prog Tryz.f3 [] false w args ∧ laidMetH Tryz.prog Rows.treeReadsRow.laid w) ∧ sizedMet enc Tryz.prog Tryz.f3 (OpenSpec.ofChange Rows.treeReadsSpec) false w args)
      (Rows.treeReadsSpec.post enc Tryz.prog Tryz.f3 false true false false) := by
  refine TL.returns_laid_shaped (C := Tryz.checked) (X := fun w _ => laidMetH Tryz.prog Rows.treeReadsRow.laid w) (fun _ _ _ hh h => h.of_heap hh) TL.own started (by kernel_rfl) Tryz.func3
    (ChangeSpec.witness_shaped (enc := enc) (C := Tryz.checked) (os := os) (X := fun w _ => laidMetH Tryz.prog Rows.treeReadsRow.laid w) false ((World.doorLaid Tryz.prog 370 os).layVars Tryz.prog (Rows.treeReadsRow.laid.filter fun x => x.2.handleName?.isNone)) #[.string ⟨#[]⟩] 8 (World.layVars_os _ _ _) (World.shaped_of_ZipB (by kernel_rfl) (by kernel_rfl)) (by kernel_rfl) (by kernel_rfl) (by kernel_rfl) (reads_met os _)) ?_
  intro W base args ds gs before hval0 hW hsh hL _
  have hval : ∀ (j : Nat) t v, Tryz.f3.params[j]? = some t → args[j]? = some v → Value.okWide Tryz.prog W .any base t v := hval0
  have hW' := hW
  obtain ⟨p, q, hA0, hV, rfl, hfz, hnd⟩ := hW
  have hA : DataW.TrodAll enc Tryz.prog W 0 (fun _ => true) true Tryz.f3.params.toList args.toList ds p := hA0
  rw [Tryz.params3] at hA hval
  obtain ⟨v0, d0, rfl, rfl, h0⟩ := trodAll_one hA
  obtain ⟨rfl, rfl⟩ := trodVars_none hV
  obtain ⟨s, rfl, rfl, rfl, hs⟩ := open_string Tryz.underlying9 (hval 0 9 v0 rfl rfl) h0
  obtain ⟨⟨es, hE⟩, hP, hS⟩ := reads_laid hL
  obtain ⟨m, hm⟩ := TL.maxLen_cell hsh
  clear hA0 hval0
  simp only [List.append_nil] at hW'
  refine (TreeReads_calls s.data.toList W es hE hP m hm hS).mono fun e W' ⟨he, hb⟩ => ?_
  subst he
  have e1 : Rows.treeReadsSpec.fn H ([.lit (.string s.data.toList)] ++ []) = { results := [.lit (.bool true)], args := [.lit (.string s.data.toList)] } := by simp [Rows.treeReadsSpec]
  refine ⟨_, rfl, _, _, _, [], [], [], hW', ?_, ?_, ?_, hb.frame _, fun h => by cases h⟩
  · rw [e1]; exact trodAll_mk1 (shut_bool Tryz.underlying4 true)
  · rw [e1]; exact trodAll_mk1 (shut_string Tryz.underlying9 hs)
  · rw [e1]; rfl

theorem reads_holds : Rows.TreeReadsSaid :=
  OpenClaim.holds_of_wide 3 Tryz.f3 rfl rfl rfl rfl rfl rfl rfl ⟨rfl, rfl, rfl, rfl, rfl⟩ rfl rfl rfl rfl rfl (by kernel_rfl) Tryz.func3 (by kernel_rfl)
    (of_decide_eq_true (by kernel_rfl)) (by unfold Func.isWrapper; first | (rw [if_pos (by decide +kernel)]; kernel_rfl) | (rw [if_neg (by decide +kernel)]; exact ⟨rfl, rfl⟩))
    (fun os started H enc _ => reads_lifted os started H enc)

theorem reads_card : Rows.TreeReadsCardSaid :=
  Claim7.holds_tied_plain_at .later [] _ _ _ _ reads_holds (fun _ h => by cases h) (by kernel_rfl) (fun _ h => by cases h) treeReads_row_tie rfl ⟨rfl, rfl⟩ (by kernel_rfl) rfl
    (fun f fn hf hfn => by
      obtain rfl : f = 3 := Option.some.inj ((show Tryz.prog.funcNamed Rows.treeReadsRow.func = some 3 by kernel_rfl).symm.trans hf) |>.symm
      obtain rfl : fn = Tryz.f3 := (Option.some.inj (Tryz.func3.symm.trans hfn)).symm
      refine ⟨by kernel_rfl, fun j t ht => ?_⟩
      rw [Tryz.params3] at ht
      obtain rfl : t = 9 := by simpa using Array.mem_of_getElem? ht
      exact (show Tryz.prog.wantsStandIn 9 = false by kernel_rfl))
    (by kernel_rfl)
#print axioms reads_card
end Go.Proofs.YtigcogfjclohjaaGreatDoor
