/- ActRuns, for every kind, word and list of texts: package act's Check and Run tell what the document's answer tells. Conditions: the listed package variables start as the program's own text lays them (tied). -/
import Derived.Test.YtigcogfjclohjaaGreatDoorMR4
import Derived.Test.YtigcogfjclohjaaGreatDoorALaid
import Derived.Test.YtigcogfjclohjaaGreatDoorELaidA
import Derived.Test.YtigcogfjclohjaaGreatDoorCards
import Derived.Test.YtigcogfjclohjaaGreatDoorTie
import Derived.SliceStrings
namespace Go.Proofs.YtigcogfjclohjaaGreatDoor
open Go.ChangeShapes Go.WideShapes Go.ChangeAt Go.WideMaps Go.WideElems Go.RowKit
open Go.ChangeMaps (setBlock shut_map_nil open_string shut_string keptBut_setBlock frozen?_setBlock heap_setBlock_same)

theorem runs_laid {W : World} (h : laidMetH Tryz.prog Rows.actRunsRow.laid W) : (∃ es, E12 W es) ∧ Pow W ∧ SynAt W := by
  have e1 : (Rows.actRunsRow.laid.filter fun x => x.2.handleName?.isNone) = ("math/bits.deBruijn32tab", Rows.laid_math_bits_deBruijn32tab) :: ("math/bits.deBruijn64tab", Rows.laid_math_bits_deBruijn64tab) :: ("internal/strconv.uint64pow10", Rows.laid_internal_strconv_uint64pow10) :: ("unicode/utf8.acceptRanges", Rows.laid_unicode_utf8_acceptRanges) :: (EL.twelve.map (fun x => (x.1, EL.sd x.2.1)) ++ [("strconv.ErrRange", Rows.laid_strconv_ErrRange), ("strconv.ErrSyntax", Rows.laid_strconv_ErrSyntax), ("unicode/utf8.first", Rows.laid_unicode_utf8_first)]) := by kernel_rfl
  have h1 : laidMet Tryz.prog (Rows.actRunsRow.laid.filter fun x => x.2.handleName?.isNone) W := h.1
  rw [e1] at h1
  have h2 : handlesMet Tryz.prog (Rows.actRunsRow.laid.filter fun x => x.2.handleName?.isSome) W := h.2
  have e2 : (Rows.actRunsRow.laid.filter fun x => x.2.handleName?.isSome) = [("errors.errorType", Rows.laid_errors_errorType)] := by kernel_rfl
  rw [e2] at h2
  have h3 := h1.tail.tail
  have h4 := (EL.laidMet_drop _ h3.tail.tail).tail
  obtain ⟨a, ha⟩ := TL.sentinel1 15 h4 (by kernel_rfl) (by kernel_rfl)
  exact ⟨EL.e12_of h3.tail.tail (EL.handle_of h2 (List.mem_singleton.2 rfl)), TL.pow_laid h3, _, ha, .inr ⟨_, _, rfl⟩⟩

theorem runs_met (os : Os) (args : Array Value) : laidMetH Tryz.prog Rows.actRunsRow.laid (((World.doorLaid Tryz.prog 370 os).layVars Tryz.prog (Rows.actRunsRow.laid.filter fun x => x.2.handleName?.isNone)).forCall (fun _ _ => 0) ⟨#[], args, []⟩).memory :=
  laidMetH_of_parts3 (fuel := 8) (EL.laidMet_layAll args (by kernel_rfl) (by kernel_rfl)) (by kernel_rfl) (by kernel_rfl)

/-- ActRuns at whatever came in. -/
theorem runs_any {H : Type} {enc : TypeId × Value → H} {W : World} (nm wd : ByteArray) {v0 : Value} {d0 : DataW H} {p : List MemPlace} (h0 : DataW.Trod enc Tryz.prog W 0 (fun _ => true) true 41 v0 d0 p) (hsl : ∃ a len cap, v0 = .slice a len cap) (hL : laidMetH Tryz.prog Rows.actRunsRow.laid W) (hsh : W.ShapedOpen Tryz.prog) :
    Calls Tryz.prog 8 #[.string nm, .string wd, v0] W fun e w' => e = .returned (.bool true) ∧ Below W.heap.size W w' := by
  obtain ⟨⟨es, hE⟩, hP, hS⟩ := runs_laid hL
  have hA := hE.ae (TL.maxLen_cell hsh) hP hS (big_of hsh)
  obtain ⟨sa, sl, sc, rfl⟩ := hsl
  obtain ⟨fuel, hf⟩ := h0
  have hcs : (Value.slice sa sl sc).cells.toList = [.slice sa sl sc] := rfl
  rcases open_strings Tryz.underlying41 Tryz.underlying9 TL.cellsStr hf with ⟨hc, _⟩ | ⟨a, len, cap, ss, hc, _, hlc, _, hsl, _, hin, _⟩
  · rw [hcs] at hc
    obtain ⟨rfl, rfl, rfl⟩ : sa = none ∧ sl = 0 ∧ sc = 0 := by simpa using hc
    exact ActRuns_calls nm.data.toList wd.data.toList _ [] W es hE hA ⟨none, 0, rfl, fun h => absurd rfl h⟩ (.inl rfl)
  · rw [hcs] at hc
    obtain ⟨rfl, rfl, rfl⟩ : sa = some a ∧ sl = len ∧ sc = cap := by simpa using hc
    simp only [if_true] at hsl
    have hlen : ((ss.take sl).map fun s => s.data.toList).length = sl := by simp; omega
    have hrow : IRow W (.slice (some a) ((ss.take sl).map fun s => s.data.toList).length sc) ((ss.take sl).map fun s => s.data.toList) := by
      refine ⟨_, _, rfl, fun hne => ?_⟩
      have h0 : 0 < sl := by
        rcases Nat.eq_zero_or_pos sl with e | e
        · subst e; simp at hne
        · exact e
      have hs : a.spot = none := World.cell?_spot (a := a.add 0) (hin 0 (by omega))
      obtain ⟨ab, ao, sp⟩ := a
      cases hs
      refine ⟨ab, ao, rfl, lt_of_cell (hin 0 (by omega)), fun j hj => ?_⟩
      rw [hlen] at hj
      have hc := hin j (by omega)
      rw [add_at2] at hc
      rw [hc, List.getElem_map, List.getElem_take]
      have hjl : j < ss.length := by omega
      rw [List.getD_eq_getElem?_getD, List.getElem?_eq_getElem hjl]
      rfl
    have := ActRuns_calls nm.data.toList wd.data.toList _ _ W es hE hA hrow (.inr ⟨_, _, _, rfl⟩)
    rw [hlen] at this
    exact this

set_option maxRecDepth 100000 in
theorem runs_lifted (os : Os) (started : os.Started) (H : Type) (enc : TypeId × Value → H) :
    ReturnsInHanded {} Tryz.checked os 8 .any (fun w args => (Rows.actRunsSpec.pre enc Tryz.prog Tryz.f8 [] false w args ∧ laidMetH Tryz.prog Rows.actRunsRow.laid w) ∧ sizedMet enc Tryz.prog Tryz.f8 (OpenSpec.ofChange Rows.actRunsSpec) false w args)
      (Rows.actRunsSpec.post enc Tryz.prog Tryz.f8 false true false false) := by
  refine TL.returns_laid_shaped (C := Tryz.checked) (X := fun w _ => laidMetH Tryz.prog Rows.actRunsRow.laid w) (fun _ _ _ hh h => h.of_heap hh) TL.own started (by kernel_rfl) Tryz.func8
    (ChangeSpec.witness_shaped (enc := enc) (C := Tryz.checked) (os := os) (X := fun w _ => laidMetH Tryz.prog Rows.actRunsRow.laid w) false ((World.doorLaid Tryz.prog 370 os).layVars Tryz.prog (Rows.actRunsRow.laid.filter fun x => x.2.handleName?.isNone)) #[.string ⟨#[]⟩, .string ⟨#[]⟩, .slice none 0 0] 8 (World.layVars_os _ _ _) (World.shaped_of_ZipB (by kernel_rfl) (by kernel_rfl)) (by kernel_rfl) (by kernel_rfl) (by kernel_rfl) (runs_met os _)) ?_
  intro W base args ds gs before hval0 hW hsh hL _
  have hval : ∀ (j : Nat) t v, Tryz.f8.params[j]? = some t → args[j]? = some v → Value.okWide Tryz.prog W .any base t v := hval0
  have hW' := hW
  obtain ⟨p, q, hA0, hV, rfl, hfz, hnd⟩ := hW
  have hA : DataW.TrodAll enc Tryz.prog W 0 (fun _ => true) true Tryz.f8.params.toList args.toList ds p := hA0
  rw [Tryz.params8] at hA hval
  obtain ⟨v0, v1, v2, d0, d1, d2, p0, p1, p2, rfl, rfl, rfl, h0, h1, h2⟩ := trodAll_three hA
  obtain ⟨rfl, rfl⟩ := trodVars_none hV
  obtain ⟨a, rfl, rfl, rfl, ha⟩ := open_string Tryz.underlying9 (hval 0 9 v0 rfl rfl) h0
  obtain ⟨b, rfl, rfl, rfl, hb⟩ := open_string Tryz.underlying9 (hval 1 9 v1 rfl rfl) h1
  have hsl := okWide_slice Tryz.underlying41 (hval 2 41 v2 rfl rfl)
  clear hA0 hval0
  simp only [List.append_nil, List.nil_append] at hW'
  have hlt : ∀ x ∈ p2, x.block < W.heap.size := fun x hx => by simpa using hW'.lt x hx
  refine (runs_any a b h2 hsl hL hsh).mono fun e W' ⟨he, hbl⟩ => ?_
  subst he
  have harg := Below.trod TL.laidOut (by kernel_rfl) (of_decide_eq_true (by kernel_rfl)) h2 hbl hlt
  have e1 : Rows.actRunsSpec.fn H ([.lit (.string a.data.toList), .lit (.string b.data.toList), d2] ++ []) = { results := [.lit (.bool true)], args := [.lit (.string a.data.toList), .lit (.string b.data.toList), d2] } := by simp [Rows.actRunsSpec]
  refine ⟨_, rfl, _, _, _, [], p2, [], hW', ?_, ?_, ?_, hbl.frame _, fun h => by cases h⟩
  · rw [e1]; exact trodAll_mk1 (shut_bool Tryz.underlying4 true)
  · rw [e1]; exact trodAll_mk3 (shut_string Tryz.underlying9 ha) (shut_string Tryz.underlying9 hb) harg
  · rw [e1]; rfl

theorem runs_holds : Rows.ActRunsSaid :=
  OpenClaim.holds_of_wide 8 Tryz.f8 rfl rfl rfl rfl rfl rfl rfl ⟨rfl, rfl, rfl, rfl, rfl⟩ rfl rfl rfl rfl rfl (by kernel_rfl) Tryz.func8 (by kernel_rfl)
    (of_decide_eq_true (by kernel_rfl)) (by unfold Func.isWrapper; first | (rw [if_pos (by decide +kernel)]; kernel_rfl) | (rw [if_neg (by decide +kernel)]; exact ⟨rfl, rfl⟩))
    (fun os started H enc _ => runs_lifted os started H enc)

theorem runs_card : Rows.ActRunsCardSaid :=
  Claim7.holds_tied_plain_at .later [] _ _ _ _ runs_holds (fun _ h => by cases h) (by kernel_rfl) (fun _ h => by cases h) actRuns_row_tie rfl ⟨rfl, rfl⟩ (by kernel_rfl) rfl
    (fun f fn hf hfn => by
      obtain rfl : f = 8 := Option.some.inj ((show Tryz.prog.funcNamed Rows.actRunsRow.func = some 8 by kernel_rfl).symm.trans hf) |>.symm
      obtain rfl : fn = Tryz.f8 := (Option.some.inj (Tryz.func8.symm.trans hfn)).symm
      refine ⟨by kernel_rfl, fun j t ht => ?_⟩
      rw [Tryz.params8] at ht
      have hm := Array.mem_of_getElem? ht
      have hm' : t = 9 ∨ t = 41 := by
        simp at hm
        rcases hm with h | h
        · exact .inl h
        · exact .inr h
      rcases hm' with rfl | rfl
      · exact (show Tryz.prog.wantsStandIn 9 = false by kernel_rfl)
      · exact (show Tryz.prog.wantsStandIn 41 = false by kernel_rfl))
    (by kernel_rfl)
#print axioms runs_card
end Go.Proofs.YtigcogfjclohjaaGreatDoor
