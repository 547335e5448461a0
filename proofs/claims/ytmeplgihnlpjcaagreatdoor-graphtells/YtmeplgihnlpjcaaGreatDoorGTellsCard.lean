/- GraphTells, for every list of rules and of outs: order, round, needs and leaves are those of the document's answer. Conditions: the listed package variables start as the program's own text lays them (tied). -/
import Derived.Test.YtmeplgihnlpjcaaGreatDoorMG15
import Derived.Test.YtmeplgihnlpjcaaGreatDoorGTells
import Derived.Test.YtmeplgihnlpjcaaGreatDoorMG20
import Derived.Test.YtmeplgihnlpjcaaGreatDoorMG17
import Derived.Test.YtmeplgihnlpjcaaGreatDoorCards
import Derived.Test.YtmeplgihnlpjcaaGreatDoorTie
namespace Go.Proofs.YtmeplgihnlpjcaaGreatDoor
open Go.ChangeShapes Go.WideShapes Go.ChangeAt Go.WideMaps Go.WideElems Go.RowKit
open Go.ChangeMaps (setBlock shut_map_nil open_string shut_string keptBut_setBlock frozen?_setBlock heap_setBlock_same)

theorem tells_laid {W : World} (h : laidMetH Tryz.prog Rows.graphTellsRow.laid W) (hsh : W.ShapedOpen Tryz.prog) : ∃ es, E12 W es ∧ AE W (erOf es) := by
  have e1 : (Rows.graphTellsRow.laid.filter fun x => x.2.handleName?.isNone) = ("math/bits.deBruijn32tab", Rows.laid_math_bits_deBruijn32tab) :: ("math/bits.deBruijn64tab", Rows.laid_math_bits_deBruijn64tab) :: ("internal/strconv.uint64pow10", Rows.laid_internal_strconv_uint64pow10) :: ("unicode/utf8.acceptRanges", Rows.laid_unicode_utf8_acceptRanges) :: (EL.twelve.map (fun x => (x.1, EL.sd x.2.1)) ++ [("strconv.ErrRange", Rows.laid_strconv_ErrRange), ("strconv.ErrSyntax", Rows.laid_strconv_ErrSyntax), ("unicode/utf8.first", Rows.laid_unicode_utf8_first)]) := by kernel_rfl
  have h1 : laidMet Tryz.prog (Rows.graphTellsRow.laid.filter fun x => x.2.handleName?.isNone) W := h.1
  rw [e1] at h1
  have h2 : handlesMet Tryz.prog (Rows.graphTellsRow.laid.filter fun x => x.2.handleName?.isSome) W := h.2
  have e2 : (Rows.graphTellsRow.laid.filter fun x => x.2.handleName?.isSome) = [("errors.errorType", Rows.laid_errors_errorType)] := by kernel_rfl
  rw [e2] at h2
  have h3 := h1.tail.tail
  have h4 := (EL.laidMet_drop _ h3.tail.tail).tail
  obtain ⟨a, ha⟩ := TL.sentinel1 17 h4 (by kernel_rfl) (by kernel_rfl)
  obtain ⟨es, hE⟩ := EL.e12_of h3.tail.tail (EL.handle_of h2 (List.mem_singleton.2 rfl))
  exact ⟨es, hE, hE.ae (TL.maxLen_cell hsh) (TL.pow_laid h3) ⟨_, ha, .inr ⟨_, _, rfl⟩⟩ (big_of hsh)⟩

theorem tells_met (os : Os) (args : Array Value) : laidMetH Tryz.prog Rows.graphTellsRow.laid (((World.doorLaid Tryz.prog 394 os).layVars Tryz.prog (Rows.graphTellsRow.laid.filter fun x => x.2.handleName?.isNone)).forCall (fun _ _ => 0) ⟨#[], args, []⟩).memory :=
  laidMetH_of_parts3 (fuel := 8) (EL.laidMet_layAll args (by kernel_rfl) (by kernel_rfl)) (by kernel_rfl) (by kernel_rfl)

/-- GraphTells at whatever came in. -/
theorem tells_any {H : Type} {enc : TypeId × Value → H} {W : World} {v0 v1 : Value} {d0 d1 : DataW H} {p0 p1 : List MemPlace} (h0 : DataW.Trod enc Tryz.prog W 0 (fun _ => true) true 22 v0 d0 p0) (hsl : ∃ a len cap, v0 = .slice a len cap) (h1 : DataW.Trod enc Tryz.prog W 0 (fun _ => true) true 34 v1 d1 p1) (hsl1 : ∃ a len cap, v1 = .slice a len cap) (hL : laidMetH Tryz.prog Rows.graphTellsRow.laid W) (hsh : W.ShapedOpen Tryz.prog) :
    Calls Tryz.prog 4 #[v0, v1] W fun e w' => e = .returned (.bool true) ∧ Below W.heap.size W w' := by
  obtain ⟨es, hE, hA⟩ := tells_laid hL hsh
  obtain ⟨sa, sl, sc, rfl⟩ := hsl
  obtain ⟨ta, tl, tc, rfl⟩ := hsl1
  obtain ⟨fuel, hf⟩ := h0
  obtain ⟨fuel1, hf1⟩ := h1
  have hcs : (Value.slice sa sl sc).cells.toList = [.slice sa sl sc] := rfl
  have hct : (Value.slice ta tl tc).cells.toList = [.slice ta tl tc] := rfl
  obtain ⟨v, l, hc, hr⟩ := GL.open_rules hf
  rw [hcs] at hc
  obtain rfl : Value.slice sa sl sc = v := by simpa using hc
  obtain ⟨u, outs, hc1, hr1⟩ := GL.open_texts hf1
  rw [hct] at hc1
  obtain rfl : Value.slice ta tl tc = u := by simpa using hc1
  exact GraphTells_calls hE hA (graphs es) cycleOf_tells _ l hr _ outs hr1

set_option maxRecDepth 100000 in
theorem tells_lifted (os : Os) (started : os.Started) (H : Type) (enc : TypeId × Value → H) :
    ReturnsInHanded {} Tryz.checked os 4 .any (fun w args => (Rows.graphTellsSpec.pre enc Tryz.prog Tryz.f4 [] false w args ∧ laidMetH Tryz.prog Rows.graphTellsRow.laid w) ∧ sizedMet enc Tryz.prog Tryz.f4 (OpenSpec.ofChange Rows.graphTellsSpec) false w args)
      (Rows.graphTellsSpec.post enc Tryz.prog Tryz.f4 false true false false) := by
  refine TL.returns_laid_shaped (C := Tryz.checked) (X := fun w _ => laidMetH Tryz.prog Rows.graphTellsRow.laid w) (fun _ _ _ hh h => h.of_heap hh) TL.own started (by kernel_rfl) Tryz.func4
    (ChangeSpec.witness_shaped (enc := enc) (C := Tryz.checked) (os := os) (X := fun w _ => laidMetH Tryz.prog Rows.graphTellsRow.laid w) false ((World.doorLaid Tryz.prog 394 os).layVars Tryz.prog (Rows.graphTellsRow.laid.filter fun x => x.2.handleName?.isNone)) #[.slice none 0 0, .slice none 0 0] 8 (World.layVars_os _ _ _) (World.shaped_of_ZipB (by kernel_rfl) (by kernel_rfl)) (by kernel_rfl) (by kernel_rfl) (by kernel_rfl) (tells_met os _)) ?_
  intro W base args ds gs before hval0 hW hsh hL _
  have hval : ∀ (j : Nat) t v, Tryz.f4.params[j]? = some t → args[j]? = some v → Value.okWide Tryz.prog W .any base t v := hval0
  have hW' := hW
  obtain ⟨p, q, hA0, hV, rfl, hfz, hnd⟩ := hW
  have hA : DataW.TrodAll enc Tryz.prog W 0 (fun _ => true) true Tryz.f4.params.toList args.toList ds p := hA0
  rw [Tryz.params4] at hA hval
  obtain ⟨v0, v1, d0, d1, p0, p1, rfl, rfl, rfl, h0, h1⟩ := trodAll_two hA
  obtain ⟨rfl, rfl⟩ := trodVars_none hV
  have hsl := okWide_slice Tryz.underlying22 (hval 0 22 v0 rfl rfl)
  have hsl1 := okWide_slice Tryz.underlying34 (hval 1 34 v1 rfl rfl)
  clear hA0 hval0
  simp only [List.append_nil] at hW'
  have hlt : ∀ x ∈ p0 ++ p1, x.block < W.heap.size := fun x hx => by simpa using hW'.lt x hx
  refine (tells_any h0 hsl h1 hsl1 hL hsh).mono fun e W' ⟨he, hb⟩ => ?_
  subst he
  have harg := Below.trod TL.laidOut (by kernel_rfl) (of_decide_eq_true (by kernel_rfl)) h0 hb (fun x hx => hlt x (List.mem_append_left _ hx))
  have harg1 := Below.trod TL.laidOut (by kernel_rfl) (of_decide_eq_true (by kernel_rfl)) h1 hb (fun x hx => hlt x (List.mem_append_right _ hx))
  have e1 : Rows.graphTellsSpec.fn H ([d0, d1] ++ []) = { results := [.lit (.bool true)], args := [d0, d1] } := by simp [Rows.graphTellsSpec]
  refine ⟨_, rfl, _, _, _, [], p0 ++ p1, [], hW', ?_, ?_, ?_, hb.frame _, fun h => by cases h⟩
  · rw [e1]; exact trodAll_mk1 (shut_bool Tryz.underlying4 true)
  · rw [e1]; exact trodAll_mk2 harg harg1
  · rw [e1]; rfl

theorem tells_holds : Rows.GraphTellsSaid :=
  OpenClaim.holds_of_wide 4 Tryz.f4 rfl rfl rfl rfl rfl rfl rfl ⟨rfl, rfl, rfl, rfl, rfl⟩ rfl rfl rfl rfl rfl (by kernel_rfl) Tryz.func4 (by kernel_rfl)
    (of_decide_eq_true (by kernel_rfl)) (by unfold Func.isWrapper; first | (rw [if_pos (by decide +kernel)]; kernel_rfl) | (rw [if_neg (by decide +kernel)]; exact ⟨rfl, rfl⟩))
    (fun os started H enc _ => tells_lifted os started H enc)

theorem tells_card : Rows.GraphTellsCardSaid :=
  Claim7.holds_tied_plain_at .later [] _ _ _ _ (tells_holds) (fun _ h => by cases h) (by kernel_rfl) (fun _ h => by cases h) graphTells_row_tie rfl ⟨rfl, rfl⟩ (by kernel_rfl) rfl
    (fun f fn hf hfn => by
      obtain rfl : f = 4 := Option.some.inj ((show Tryz.prog.funcNamed Rows.graphTellsRow.func = some 4 by kernel_rfl).symm.trans hf) |>.symm
      obtain rfl : fn = Tryz.f4 := (Option.some.inj (Tryz.func4.symm.trans hfn)).symm
      refine ⟨by kernel_rfl, fun j t ht => ?_⟩
      rw [Tryz.params4] at ht
      have hm := Array.mem_of_getElem? ht
      have hm' : t = 22 ∨ t = 34 := by simpa using hm
      rcases hm' with rfl | rfl
      · exact (show Tryz.prog.wantsStandIn 22 = false by kernel_rfl)
      · exact (show Tryz.prog.wantsStandIn 34 = false by kernel_rfl))
    (by kernel_rfl)
#print axioms tells_card
end Go.Proofs.YtmeplgihnlpjcaaGreatDoor
