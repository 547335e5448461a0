/- GraphEither, for every list of rules: there is an order, in which each comes behind all that it needs, or a round, in which each needs the one behind it. Conditions: the listed package variables start as the program's own text lays them (tied). -/
import Derived.Test.YtmeplgihnlpjcaaGreatDoorMG15
import Derived.Test.YtmeplgihnlpjcaaGreatDoorGEither
import Derived.Test.YtmeplgihnlpjcaaGreatDoorMG17
import Derived.Test.YtmeplgihnlpjcaaGreatDoorCards
import Derived.Test.YtmeplgihnlpjcaaGreatDoorTie
namespace Go.Proofs.YtmeplgihnlpjcaaGreatDoor
open Go.ChangeShapes Go.WideShapes Go.ChangeAt Go.WideMaps Go.WideElems Go.RowKit
open Go.ChangeMaps (setBlock shut_map_nil open_string shut_string keptBut_setBlock frozen?_setBlock heap_setBlock_same)

theorem either_laid {W : World} (h : laidMetH Tryz.prog Rows.graphEitherRow.laid W) (hsh : W.ShapedOpen Tryz.prog) : ∃ es, GraphW W es := by
  have e1 : (Rows.graphEitherRow.laid.filter fun x => x.2.handleName?.isNone) = [("math/bits.deBruijn32tab", Rows.laid_math_bits_deBruijn32tab), ("math/bits.deBruijn64tab", Rows.laid_math_bits_deBruijn64tab), ("internal/strconv.uint64pow10", Rows.laid_internal_strconv_uint64pow10), ("unicode/utf8.acceptRanges", Rows.laid_unicode_utf8_acceptRanges), ("kilnfield/api.ErrBound", Rows.laid_kilnfield_api_ErrBound), ("kilnfield/api.ErrShape", Rows.laid_kilnfield_api_ErrShape), ("kilnfield/api.ErrName", Rows.laid_kilnfield_api_ErrName), ("kilnfield/api.ErrKind", Rows.laid_kilnfield_api_ErrKind), ("kilnfield/api.ErrExist", Rows.laid_kilnfield_api_ErrExist), ("kilnfield/api.ErrCycle", Rows.laid_kilnfield_api_ErrCycle), ("kilnfield/api.ErrLong", Rows.laid_kilnfield_api_ErrLong), ("strconv.ErrRange", Rows.laid_strconv_ErrRange), ("strconv.ErrSyntax", Rows.laid_strconv_ErrSyntax), ("unicode/utf8.first", Rows.laid_unicode_utf8_first)] := by kernel_rfl
  have h1 : laidMet Tryz.prog (Rows.graphEitherRow.laid.filter fun x => x.2.handleName?.isNone) W := h.1
  rw [e1] at h1
  have h2 : handlesMet Tryz.prog (Rows.graphEitherRow.laid.filter fun x => x.2.handleName?.isSome) W := h.2
  have e2 : (Rows.graphEitherRow.laid.filter fun x => x.2.handleName?.isSome) = [("errors.errorType", Rows.laid_errors_errorType)] := by kernel_rfl
  rw [e2] at h2
  have h3 := h1.tail.tail
  have hP := TL.pow_laid h3
  have h4 := h3.tail.tail
  obtain ⟨a1, c1⟩ := TL.sentinel1 3 h4 (by kernel_rfl) (by kernel_rfl)
  have h5 := h4.tail
  obtain ⟨a2, c2⟩ := TL.sentinel1 4 h5 (by kernel_rfl) (by kernel_rfl)
  have h6 := h5.tail
  obtain ⟨a3, c3⟩ := TL.sentinel1 5 h6 (by kernel_rfl) (by kernel_rfl)
  have h7 := h6.tail
  obtain ⟨a4, c4⟩ := TL.sentinel1 6 h7 (by kernel_rfl) (by kernel_rfl)
  have h8 := h7.tail
  obtain ⟨a6, c6⟩ := TL.sentinel1 7 h8 (by kernel_rfl) (by kernel_rfl)
  have h9 := h8.tail
  obtain ⟨a8, c8⟩ := TL.sentinel1 1 h9 (by kernel_rfl) (by kernel_rfl)
  have h10 := h9.tail
  obtain ⟨a9, c9⟩ := TL.sentinel1 9 h10 (by kernel_rfl) (by kernel_rfl)
  have h11 := h10.tail.tail
  obtain ⟨aS, cS⟩ := TL.sentinel1 17 h11 (by kernel_rfl) (by kernel_rfl)
  have hT := EL.handle_of h2 (List.mem_singleton.2 rfl)
  exact ⟨fun k => match k with | 1 => a1 | 2 => a2 | 3 => a3 | 4 => a4 | 6 => a6 | 8 => a8 | _ => a9,
    ⟨⟨⟨c1, c3, c6, hT⟩, ⟨⟨TL.maxLen_cell hsh, hP, c2, c9, big_of hsh⟩, ⟨_, cS, .inr ⟨_, _, rfl⟩⟩, c4, fun _ => ⟨_, _, rfl⟩, rfl⟩⟩, c8⟩⟩

theorem either_met (os : Os) (args : Array Value) : laidMetH Tryz.prog Rows.graphEitherRow.laid (((World.doorLaid Tryz.prog 394 os).layVars Tryz.prog (Rows.graphEitherRow.laid.filter fun x => x.2.handleName?.isNone)).forCall (fun _ _ => 0) ⟨#[], args, []⟩).memory :=
  laidMetH_of_parts3 (fuel := 8) (EL.laidMet_layAll args (by kernel_rfl) (by kernel_rfl)) (by kernel_rfl) (by kernel_rfl)

/-- GraphEither at whatever came in. -/
theorem either_any {H : Type} {enc : TypeId × Value → H} {W : World} {v0 : Value} {d0 : DataW H} {p : List MemPlace} (h0 : DataW.Trod enc Tryz.prog W 0 (fun _ => true) true 22 v0 d0 p) (hsl : ∃ a len cap, v0 = .slice a len cap) (hL : laidMetH Tryz.prog Rows.graphEitherRow.laid W) (hsh : W.ShapedOpen Tryz.prog) :
    Calls Tryz.prog 3 #[v0] W fun e w' => e = .returned (.bool true) ∧ Below W.heap.size W w' := by
  obtain ⟨es, hW⟩ := either_laid hL hsh
  obtain ⟨sa, sl, sc, rfl⟩ := hsl
  obtain ⟨fuel, hf⟩ := h0
  have hcs : (Value.slice sa sl sc).cells.toList = [.slice sa sl sc] := rfl
  obtain ⟨v, l, hc, hr⟩ := GL.open_rules hf
  rw [hcs] at hc
  obtain rfl : Value.slice sa sl sc = v := by simpa using hc
  exact GraphEither_calls hW (graphs es) _ l hr

set_option maxRecDepth 100000 in
theorem either_lifted (os : Os) (started : os.Started) (H : Type) (enc : TypeId × Value → H) :
    ReturnsInHanded {} Tryz.checked os 3 .any (fun w args => (Rows.graphEitherSpec.pre enc Tryz.prog Tryz.f3 [] false w args ∧ laidMetH Tryz.prog Rows.graphEitherRow.laid w) ∧ sizedMet enc Tryz.prog Tryz.f3 (OpenSpec.ofChange Rows.graphEitherSpec) false w args)
      (Rows.graphEitherSpec.post enc Tryz.prog Tryz.f3 false true false false) := by
  refine TL.returns_laid_shaped (C := Tryz.checked) (X := fun w _ => laidMetH Tryz.prog Rows.graphEitherRow.laid w) (fun _ _ _ hh h => h.of_heap hh) TL.own started (by kernel_rfl) Tryz.func3
    (ChangeSpec.witness_shaped (enc := enc) (C := Tryz.checked) (os := os) (X := fun w _ => laidMetH Tryz.prog Rows.graphEitherRow.laid w) false ((World.doorLaid Tryz.prog 394 os).layVars Tryz.prog (Rows.graphEitherRow.laid.filter fun x => x.2.handleName?.isNone)) #[.slice none 0 0] 8 (World.layVars_os _ _ _) (World.shaped_of_ZipB (by kernel_rfl) (by kernel_rfl)) (by kernel_rfl) (by kernel_rfl) (by kernel_rfl) (either_met os _)) ?_
  intro W base args ds gs before hval0 hW hsh hL _
  have hval : ∀ (j : Nat) t v, Tryz.f3.params[j]? = some t → args[j]? = some v → Value.okWide Tryz.prog W .any base t v := hval0
  have hW' := hW
  obtain ⟨p, q, hA0, hV, rfl, hfz, hnd⟩ := hW
  have hA : DataW.TrodAll enc Tryz.prog W 0 (fun _ => true) true Tryz.f3.params.toList args.toList ds p := hA0
  rw [Tryz.params3] at hA hval
  obtain ⟨v0, d0, rfl, rfl, h0⟩ := trodAll_one hA
  obtain ⟨rfl, rfl⟩ := trodVars_none hV
  have hsl := okWide_slice Tryz.underlying22 (hval 0 22 v0 rfl rfl)
  clear hA0 hval0
  simp only [List.append_nil] at hW'
  have hlt : ∀ x ∈ p, x.block < W.heap.size := fun x hx => by simpa using hW'.lt x hx
  refine (either_any h0 hsl hL hsh).mono fun e W' ⟨he, hb⟩ => ?_
  subst he
  have harg := Below.trod TL.laidOut (by kernel_rfl) (of_decide_eq_true (by kernel_rfl)) h0 hb hlt
  have e1 : Rows.graphEitherSpec.fn H ([d0] ++ []) = { results := [.lit (.bool true)], args := [d0] } := by simp [Rows.graphEitherSpec]
  refine ⟨_, rfl, _, _, _, [], p, [], hW', ?_, ?_, ?_, hb.frame _, fun h => by cases h⟩
  · rw [e1]; exact trodAll_mk1 (shut_bool Tryz.underlying4 true)
  · rw [e1]; exact trodAll_mk1 harg
  · rw [e1]; rfl

theorem either_holds : Rows.GraphEitherSaid :=
  OpenClaim.holds_of_wide 3 Tryz.f3 rfl rfl rfl rfl rfl rfl rfl ⟨rfl, rfl, rfl, rfl, rfl⟩ rfl rfl rfl rfl rfl (by kernel_rfl) Tryz.func3 (by kernel_rfl)
    (of_decide_eq_true (by kernel_rfl)) (by unfold Func.isWrapper; first | (rw [if_pos (by decide +kernel)]; kernel_rfl) | (rw [if_neg (by decide +kernel)]; exact ⟨rfl, rfl⟩))
    (fun os started H enc _ => either_lifted os started H enc)

theorem either_card : Rows.GraphEitherCardSaid :=
  Claim7.holds_tied_plain_at .later [] _ _ _ _ (either_holds) (fun _ h => by cases h) (by kernel_rfl) (fun _ h => by cases h) graphEither_row_tie rfl ⟨rfl, rfl⟩ (by kernel_rfl) rfl
    (fun f fn hf hfn => by
      obtain rfl : f = 3 := Option.some.inj ((show Tryz.prog.funcNamed Rows.graphEitherRow.func = some 3 by kernel_rfl).symm.trans hf) |>.symm
      obtain rfl : fn = Tryz.f3 := (Option.some.inj (Tryz.func3.symm.trans hfn)).symm
      refine ⟨by kernel_rfl, fun j t ht => ?_⟩
      rw [Tryz.params3] at ht
      obtain rfl : t = 22 := by simpa using Array.mem_of_getElem? ht
      exact (show Tryz.prog.wantsStandIn 22 = false by kernel_rfl))
    (by kernel_rfl)
#print axioms either_card
end Go.Proofs.YtmeplgihnlpjcaaGreatDoor
