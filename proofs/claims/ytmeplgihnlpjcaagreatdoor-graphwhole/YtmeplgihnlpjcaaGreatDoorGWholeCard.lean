/- GraphWhole, for every list of rules and number: all Outs need all rules; what a rule needs is needed; leaves are made by none, and rise. Conditions: the listed package variables start as the program's own text lays them (tied). -/
import Derived.Test.YtmeplgihnlpjcaaGreatDoorMG15
import Derived.Test.YtmeplgihnlpjcaaGreatDoorGWhole
import Derived.Test.YtmeplgihnlpjcaaGreatDoorMG17
import Derived.Test.YtmeplgihnlpjcaaGreatDoorCards
import Derived.Test.YtmeplgihnlpjcaaGreatDoorTie
namespace Go.Proofs.YtmeplgihnlpjcaaGreatDoor
open Go.ChangeShapes Go.WideShapes Go.ChangeAt Go.WideMaps Go.WideElems Go.RowKit
open Go.ChangeMaps (setBlock shut_map_nil open_string shut_string keptBut_setBlock frozen?_setBlock heap_setBlock_same)

theorem whole_laid {W : World} (h : laidMetH Tryz.prog Rows.graphWholeRow.laid W) (hsh : W.ShapedOpen Tryz.prog) : ∃ es, GraphW W es ∧ W.cell? ⟨0, 0, none⟩ = some (erOf es 6) := by
  have e1 : (Rows.graphWholeRow.laid.filter fun x => x.2.handleName?.isNone) = [("math/bits.deBruijn32tab", Rows.laid_math_bits_deBruijn32tab), ("math/bits.deBruijn64tab", Rows.laid_math_bits_deBruijn64tab), ("internal/strconv.uint64pow10", Rows.laid_internal_strconv_uint64pow10), ("unicode/utf8.acceptRanges", Rows.laid_unicode_utf8_acceptRanges), ("kilnfield/api.ErrBound", Rows.laid_kilnfield_api_ErrBound), ("kilnfield/api.ErrShape", Rows.laid_kilnfield_api_ErrShape), ("kilnfield/api.ErrName", Rows.laid_kilnfield_api_ErrName), ("kilnfield/api.ErrKind", Rows.laid_kilnfield_api_ErrKind), ("kilnfield/api.ErrNone", Rows.laid_kilnfield_api_ErrNone), ("kilnfield/api.ErrExist", Rows.laid_kilnfield_api_ErrExist), ("kilnfield/api.ErrCycle", Rows.laid_kilnfield_api_ErrCycle), ("kilnfield/api.ErrLong", Rows.laid_kilnfield_api_ErrLong), ("strconv.ErrRange", Rows.laid_strconv_ErrRange), ("strconv.ErrSyntax", Rows.laid_strconv_ErrSyntax), ("unicode/utf8.first", Rows.laid_unicode_utf8_first)] := by kernel_rfl
  have h1 : laidMet Tryz.prog (Rows.graphWholeRow.laid.filter fun x => x.2.handleName?.isNone) W := h.1
  rw [e1] at h1
  have h2 : handlesMet Tryz.prog (Rows.graphWholeRow.laid.filter fun x => x.2.handleName?.isSome) W := h.2
  have e2 : (Rows.graphWholeRow.laid.filter fun x => x.2.handleName?.isSome) = [("errors.errorType", Rows.laid_errors_errorType)] := by kernel_rfl
  rw [e2] at h2
  have h3 := h1.tail.tail
  have hP := TL.pow_laid h3
  have h4 := h3.tail.tail
  obtain ⟨a1, c1⟩ := TL.sentinel1 3 h4 (by kernel_rfl) (by kernel_rfl)
  have h5 := h4.tail
  obtain ⟨a2, c2⟩ := TL.sentinel1 4 h5 (by kernel_rfl) (by kernel_rfl)
  have h6 := h5.tail
  obtain ⟨a3, c3⟩ := TL.sentinel1 5 h6 (by kernel_rfl) (by kernel_rfl)
  have h7 := h6.tail
  obtain ⟨a4, c4⟩ := TL.sentinel1 6 h7 (by kernel_rfl) (by kernel_rfl)
  have h7' := h7.tail
  obtain ⟨a5, c5⟩ := TL.sentinel1 0 h7' (by kernel_rfl) (by kernel_rfl)
  have h8 := h7'.tail
  obtain ⟨a6, c6⟩ := TL.sentinel1 7 h8 (by kernel_rfl) (by kernel_rfl)
  have h9 := h8.tail
  obtain ⟨a8, c8⟩ := TL.sentinel1 1 h9 (by kernel_rfl) (by kernel_rfl)
  have h10 := h9.tail
  obtain ⟨a9, c9⟩ := TL.sentinel1 9 h10 (by kernel_rfl) (by kernel_rfl)
  have h11 := h10.tail.tail
  obtain ⟨aS, cS⟩ := TL.sentinel1 17 h11 (by kernel_rfl) (by kernel_rfl)
  have hT := EL.handle_of h2 (List.mem_singleton.2 rfl)
  exact ⟨fun k => match k with | 1 => a1 | 2 => a2 | 3 => a3 | 4 => a4 | 5 => a5 | 6 => a6 | 8 => a8 | _ => a9,
    ⟨⟨⟨c1, c3, c6, hT⟩, ⟨⟨TL.maxLen_cell hsh, hP, c2, c9, big_of hsh⟩, ⟨_, cS, .inr ⟨_, _, rfl⟩⟩, c4, fun _ => ⟨_, _, rfl⟩, rfl⟩⟩, c8⟩, c5⟩

theorem whole_met (os : Os) (args : Array Value) : laidMetH Tryz.prog Rows.graphWholeRow.laid (((World.doorLaid Tryz.prog 394 os).layVars Tryz.prog (Rows.graphWholeRow.laid.filter fun x => x.2.handleName?.isNone)).forCall (fun _ _ => 0) ⟨#[], args, []⟩).memory :=
  laidMetH_of_parts3 (fuel := 8) (EL.laidMet_layAll args (by kernel_rfl) (by kernel_rfl)) (by kernel_rfl) (by kernel_rfl)

/-- GraphWhole at whatever came in. -/
theorem whole_any {H : Type} {enc : TypeId × Value → H} {W : World} {v0 : Value} {d0 : DataW H} {p : List MemPlace} (h0 : DataW.Trod enc Tryz.prog W 0 (fun _ => true) true 22 v0 d0 p) (hsl : ∃ a len cap, v0 = .slice a len cap) (one : Int) (hL : laidMetH Tryz.prog Rows.graphWholeRow.laid W) (hsh : W.ShapedOpen Tryz.prog) :
    Calls Tryz.prog 5 #[v0, .int .i64 one] W fun e w' => e = .returned (.bool true) ∧ Below W.heap.size W w' := by
  obtain ⟨es, hW, hNo⟩ := whole_laid hL hsh
  obtain ⟨sa, sl, sc, rfl⟩ := hsl
  obtain ⟨fuel, hf⟩ := h0
  have hcs : (Value.slice sa sl sc).cells.toList = [.slice sa sl sc] := rfl
  obtain ⟨v, l, hc, hr⟩ := GL.open_rules hf
  rw [hcs] at hc
  obtain rfl : Value.slice sa sl sc = v := by simpa using hc
  exact GraphWhole_calls hW hNo (graphs es) _ l hr one

set_option maxRecDepth 100000 in
theorem whole_lifted (os : Os) (started : os.Started) (H : Type) (enc : TypeId × Value → H) :
    ReturnsInHanded {} Tryz.checked os 5 .any (fun w args => (Rows.graphWholeSpec.pre enc Tryz.prog Tryz.f5 [] false w args ∧ laidMetH Tryz.prog Rows.graphWholeRow.laid w) ∧ sizedMet enc Tryz.prog Tryz.f5 (OpenSpec.ofChange Rows.graphWholeSpec) false w args)
      (Rows.graphWholeSpec.post enc Tryz.prog Tryz.f5 false true false false) := by
  refine TL.returns_laid_shaped (C := Tryz.checked) (X := fun w _ => laidMetH Tryz.prog Rows.graphWholeRow.laid w) (fun _ _ _ hh h => h.of_heap hh) TL.own started (by kernel_rfl) Tryz.func5
    (ChangeSpec.witness_shaped (enc := enc) (C := Tryz.checked) (os := os) (X := fun w _ => laidMetH Tryz.prog Rows.graphWholeRow.laid w) false ((World.doorLaid Tryz.prog 394 os).layVars Tryz.prog (Rows.graphWholeRow.laid.filter fun x => x.2.handleName?.isNone)) #[.slice none 0 0, .int .i64 0] 8 (World.layVars_os _ _ _) (World.shaped_of_ZipB (by kernel_rfl) (by kernel_rfl)) (by kernel_rfl) (by kernel_rfl) (by kernel_rfl) (whole_met os _)) ?_
  intro W base args ds gs before hval0 hW hsh hL _
  have hval : ∀ (j : Nat) t v, Tryz.f5.params[j]? = some t → args[j]? = some v → Value.okWide Tryz.prog W .any base t v := hval0
  have hW' := hW
  obtain ⟨p, q, hA0, hV, rfl, hfz, hnd⟩ := hW
  have hA : DataW.TrodAll enc Tryz.prog W 0 (fun _ => true) true Tryz.f5.params.toList args.toList ds p := hA0
  rw [Tryz.params5] at hA hval
  obtain ⟨v0, v1, d0, d1, p0, p1, rfl, rfl, rfl, h0, h1⟩ := trodAll_two hA
  obtain ⟨rfl, rfl⟩ := trodVars_none hV
  obtain ⟨n, rfl, rfl, rfl, hn⟩ := open_int Tryz.underlying3 (hval 1 3 v1 rfl rfl) h1
  have hsl := okWide_slice Tryz.underlying22 (hval 0 22 v0 rfl rfl)
  clear hA0 hval0
  simp only [List.append_nil] at hW'
  have hlt : ∀ x ∈ p0, x.block < W.heap.size := fun x hx => by simpa using hW'.lt x hx
  refine (whole_any h0 hsl n hL hsh).mono fun e W' ⟨he, hb⟩ => ?_
  subst he
  have harg := Below.trod TL.laidOut (by kernel_rfl) (of_decide_eq_true (by kernel_rfl)) h0 hb hlt
  have e1 : Rows.graphWholeSpec.fn H ([d0, .lit (.int .i64 n)] ++ []) = { results := [.lit (.bool true)], args := [d0, .lit (.int .i64 n)] } := by simp [Rows.graphWholeSpec]
  refine ⟨_, rfl, _, _, _, [], p0, [], hW', ?_, ?_, ?_, hb.frame _, fun h => by cases h⟩
  · rw [e1]; exact trodAll_mk1 (shut_bool Tryz.underlying4 true)
  · rw [e1]
    have h2 := trodAll_mk2 harg (shut_int Tryz.underlying3 hn)
    rw [List.append_nil] at h2
    exact h2
  · rw [e1]; rfl

theorem whole_holds : Rows.GraphWholeSaid :=
  OpenClaim.holds_of_wide 5 Tryz.f5 rfl rfl rfl rfl rfl rfl rfl ⟨rfl, rfl, rfl, rfl, rfl⟩ rfl rfl rfl rfl rfl (by kernel_rfl) Tryz.func5 (by kernel_rfl)
    (of_decide_eq_true (by kernel_rfl)) (by unfold Func.isWrapper; first | (rw [if_pos (by decide +kernel)]; kernel_rfl) | (rw [if_neg (by decide +kernel)]; exact ⟨rfl, rfl⟩))
    (fun os started H enc _ => whole_lifted os started H enc)

theorem whole_card : Rows.GraphWholeCardSaid :=
  Claim7.holds_tied_plain_at .later [] _ _ _ _ (whole_holds) (fun _ h => by cases h) (by kernel_rfl) (fun _ h => by cases h) graphWhole_row_tie rfl ⟨rfl, rfl⟩ (by kernel_rfl) rfl
    (fun f fn hf hfn => by
      obtain rfl : f = 5 := Option.some.inj ((show Tryz.prog.funcNamed Rows.graphWholeRow.func = some 5 by kernel_rfl).symm.trans hf) |>.symm
      obtain rfl : fn = Tryz.f5 := (Option.some.inj (Tryz.func5.symm.trans hfn)).symm
      refine ⟨by kernel_rfl, fun j t ht => ?_⟩
      rw [Tryz.params5] at ht
      have hm := Array.mem_of_getElem? ht
      have hm' : t = 22 ∨ t = 3 := by simpa using hm
      rcases hm' with rfl | rfl
      · exact (show Tryz.prog.wantsStandIn 22 = false by kernel_rfl)
      · exact (show Tryz.prog.wantsStandIn 3 = false by kernel_rfl))
    (by kernel_rfl)
#print axioms whole_card
end Go.Proofs.YtmeplgihnlpjcaaGreatDoor
