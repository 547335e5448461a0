/- ActSorts, for every three texts: sorted lines rise, and are all lines; sorted again, or in another order, they are the same; once sorted they are all different. Conditions: the listed package variables start as the program's own text lays them (tied). -/
import Derived.Test.YtigcogfjclohjaaGreatDoorASorts3
import Derived.Test.YtigcogfjclohjaaGreatDoorALaid
import Derived.Test.YtigcogfjclohjaaGreatDoorCards
import Derived.Test.YtigcogfjclohjaaGreatDoorTie
namespace Go.Proofs.YtigcogfjclohjaaGreatDoor
open Go.ChangeShapes Go.WideShapes Go.ChangeAt Go.WideMaps Go.WideElems Go.RowKit
open Go.ChangeMaps (setBlock shut_map_nil open_string shut_string keptBut_setBlock frozen?_setBlock heap_setBlock_same)

theorem sorts_met (os : Os) (args : Array Value) : laidMetH Tryz.prog Rows.actSortsRow.laid ((World.laidAll Tryz.prog os Rows.actSortsRow.laid).forCall (fun _ _ => 0) ⟨#[], args, []⟩).memory := by
  rw [MakeChecks.laidMetH_plain _ _ _ (by kernel_rfl)]
  exact laidMet_laidAll _ (by kernel_rfl) (by kernel_rfl)

set_option maxRecDepth 100000 in
theorem sorts_lifted (os : Os) (started : os.Started) (H : Type) (enc : TypeId × Value → H) :
    ReturnsInHanded {} Tryz.checked os 6 .any (fun w args => (Rows.actSortsSpec.pre enc Tryz.prog Tryz.f6 [] false w args ∧ laidMetH Tryz.prog Rows.actSortsRow.laid w) ∧ sizedMet enc Tryz.prog Tryz.f6 (OpenSpec.ofChange Rows.actSortsSpec) false w args)
      (Rows.actSortsSpec.post enc Tryz.prog Tryz.f6 false true false false) := by
  refine TL.returns_laid_shaped (C := Tryz.checked) (X := fun w _ => laidMetH Tryz.prog Rows.actSortsRow.laid w) (fun _ _ _ hh h => h.of_heap hh) TL.own started (by kernel_rfl) Tryz.func6
    (ChangeSpec.witness_shaped (enc := enc) (C := Tryz.checked) (os := os) (X := fun w _ => laidMetH Tryz.prog Rows.actSortsRow.laid w) false (World.laidAll Tryz.prog os Rows.actSortsRow.laid) #[.string ⟨#[]⟩, .string ⟨#[]⟩, .string ⟨#[]⟩] 8 (World.laidAll_os _ _ _) (World.shaped_of_ZipB (by kernel_rfl) (by kernel_rfl)) (by kernel_rfl) (by kernel_rfl) (by kernel_rfl) (sorts_met os _)) ?_
  intro W base args ds gs before hval0 hW hsh hL _
  have hval : ∀ (j : Nat) t v, Tryz.f6.params[j]? = some t → args[j]? = some v → Value.okWide Tryz.prog W .any base t v := hval0
  have hW' := hW
  obtain ⟨p, q, hA0, hV, rfl, hfz, hnd⟩ := hW
  have hA : DataW.TrodAll enc Tryz.prog W 0 (fun _ => true) true Tryz.f6.params.toList args.toList ds p := hA0
  rw [Tryz.params6] at hA hval
  obtain ⟨v0, v1, v2, d0, d1, d2, p0, p1, p2, rfl, rfl, rfl, h0, h1, h2⟩ := trodAll_three hA
  obtain ⟨rfl, rfl⟩ := trodVars_none hV
  obtain ⟨a, rfl, rfl, rfl, ha⟩ := open_string Tryz.underlying9 (hval 0 9 v0 rfl rfl) h0
  obtain ⟨b, rfl, rfl, rfl, hb⟩ := open_string Tryz.underlying9 (hval 1 9 v1 rfl rfl) h1
  obtain ⟨c, rfl, rfl, rfl, hc⟩ := open_string Tryz.underlying9 (hval 2 9 v2 rfl rfl) h2
  obtain ⟨⟨es, el, hAW⟩, _⟩ := act_laid hL hsh
  clear hA0 hval0
  simp only [List.append_nil] at hW'
  refine (ActSorts_calls hAW a.data.toList b.data.toList c.data.toList).mono fun e W' ⟨he, hbl⟩ => ?_
  subst he
  have e1 : Rows.actSortsSpec.fn H ([.lit (.string a.data.toList), .lit (.string b.data.toList), .lit (.string c.data.toList)] ++ []) = { results := [.lit (.bool true)], args := [.lit (.string a.data.toList), .lit (.string b.data.toList), .lit (.string c.data.toList)] } := by simp [Rows.actSortsSpec]
  refine ⟨_, rfl, _, _, _, [], [], [], hW', ?_, ?_, ?_, hbl.frame _, fun h => by cases h⟩
  · rw [e1]; exact trodAll_mk1 (shut_bool Tryz.underlying4 true)
  · rw [e1]; exact trodAll_mk3 (shut_string Tryz.underlying9 ha) (shut_string Tryz.underlying9 hb) (shut_string Tryz.underlying9 hc)
  · rw [e1]; rfl

theorem sorts_holds : Rows.ActSortsSaid :=
  OpenClaim.holds_of_wide 6 Tryz.f6 rfl rfl rfl rfl rfl rfl rfl ⟨rfl, rfl, rfl, rfl, rfl⟩ rfl rfl rfl rfl rfl (by kernel_rfl) Tryz.func6 (by kernel_rfl)
    (of_decide_eq_true (by kernel_rfl)) (by unfold Func.isWrapper; first | (rw [if_pos (by decide +kernel)]; kernel_rfl) | (rw [if_neg (by decide +kernel)]; exact ⟨rfl, rfl⟩))
    (fun os started H enc _ => sorts_lifted os started H enc)

theorem sorts_card : Rows.ActSortsCardSaid :=
  Claim7.holds_tied_plain_at .later [] _ _ _ _ sorts_holds (fun _ h => by cases h) (by kernel_rfl) (fun _ h => by cases h) actSorts_row_tie rfl ⟨rfl, rfl⟩ (by kernel_rfl) rfl
    (fun f fn hf hfn => by
      obtain rfl : f = 6 := Option.some.inj ((show Tryz.prog.funcNamed Rows.actSortsRow.func = some 6 by kernel_rfl).symm.trans hf) |>.symm
      obtain rfl : fn = Tryz.f6 := (Option.some.inj (Tryz.func6.symm.trans hfn)).symm
      refine ⟨by kernel_rfl, fun j t ht => ?_⟩
      rw [Tryz.params6] at ht
      obtain rfl : t = 9 := by
        have := Array.mem_of_getElem? ht
        simpa using this
      exact (show Tryz.prog.wantsStandIn 9 = false by kernel_rfl))
    (by kernel_rfl)
#print axioms sorts_card
end Go.Proofs.YtigcogfjclohjaaGreatDoor
