import Derived.Test.YtflbofdpfgkmcaaGreatDoorOP41
import Derived.Test.YtflbofdpfgkmcaaGreatDoorOP49
import Derived.Test.YtflbofdpfgkmcaaGreatDoorOP50
import Derived.Test.YtflbofdpfgkmcaaGreatDoorOP51
namespace Go.Proofs.YtflbofdpfgkmcaaGreatDoor
open Go.ChangeShapes Go.WideShapes Go.ChangeAt Go.WideMaps Go.WideElems Go.RowKit
open Go.ChangeMaps (setBlock shut_map_nil open_string shut_string keptBut_setBlock frozen?_setBlock heap_setBlock_same)
theorem once_powdata : (Rows.laid_internal_strconv_uint64pow10 : DataW Unit) = Lib.tabData .u64 Lib.pow10Tab := by rfl
theorem once_laid {W : World} (h : laidMetH Tryz.prog Rows.buildOnceRow.laid W) (hsh : W.ShapedOpen Tryz.prog) : ∃ es, BuildW W es ∧ TErr W (erOf es) := by
  have e1 : (Rows.buildOnceRow.laid.filter fun x => x.2.handleName?.isNone) = [("math/bits.deBruijn32tab", Rows.laid_math_bits_deBruijn32tab), ("math/bits.deBruijn64tab", Rows.laid_math_bits_deBruijn64tab), ("internal/strconv.uint64pow10", Rows.laid_internal_strconv_uint64pow10), ("unicode/utf8.acceptRanges", Rows.laid_unicode_utf8_acceptRanges), ("kilnfield/api.ErrBound", Rows.laid_kilnfield_api_ErrBound), ("kilnfield/api.ErrShape", Rows.laid_kilnfield_api_ErrShape), ("kilnfield/api.ErrName", Rows.laid_kilnfield_api_ErrName), ("kilnfield/api.ErrKind", Rows.laid_kilnfield_api_ErrKind), ("kilnfield/api.ErrNone", Rows.laid_kilnfield_api_ErrNone), ("kilnfield/api.ErrExist", Rows.laid_kilnfield_api_ErrExist), ("kilnfield/api.ErrFull", Rows.laid_kilnfield_api_ErrFull), ("kilnfield/api.ErrCycle", Rows.laid_kilnfield_api_ErrCycle), ("kilnfield/api.ErrLong", Rows.laid_kilnfield_api_ErrLong), ("kilnfield/api.ErrTurn", Rows.laid_kilnfield_api_ErrTurn), ("kilnfield/api.ErrDone", Rows.laid_kilnfield_api_ErrDone), ("strconv.ErrRange", Rows.laid_strconv_ErrRange), ("strconv.ErrSyntax", Rows.laid_strconv_ErrSyntax), ("unicode/utf8.first", Rows.laid_unicode_utf8_first)] := by kernel_rfl
  have h1 : laidMet Tryz.prog (Rows.buildOnceRow.laid.filter fun x => x.2.handleName?.isNone) W := h.1
  rw [e1] at h1
  have h2 : handlesMet Tryz.prog (Rows.buildOnceRow.laid.filter fun x => x.2.handleName?.isSome) W := h.2
  have e2 : (Rows.buildOnceRow.laid.filter fun x => x.2.handleName?.isSome) = [("errors.errorType", Rows.laid_errors_errorType)] := by kernel_rfl
  rw [e2] at h2
  have h3 := h1.tail.tail
  have hP := TL.pow_laid h3
  have hK : KPow W := by
    have h3' := h3
    rw [once_powdata] at h3'
    exact Lib.tabIs_of_head (g := 13) (t := 347) (e := 293) (n := 20) (by kernel_rfl) (by kernel_rfl) Tryz.underlying347 Tryz.underlying293 (by kernel_rfl) (by kernel_rfl) h3'
  have h4 := h3.tail.tail
  obtain ⟨a1, c1⟩ := TL.sentinel1 6 h4 (by kernel_rfl) (by kernel_rfl)
  have h5 := h4.tail
  obtain ⟨a2, c2⟩ := TL.sentinel1 1 h5 (by kernel_rfl) (by kernel_rfl)
  have h6 := h5.tail
  obtain ⟨a3, c3⟩ := TL.sentinel1 7 h6 (by kernel_rfl) (by kernel_rfl)
  have h7 := h6.tail
  obtain ⟨a4, c4⟩ := TL.sentinel1 8 h7 (by kernel_rfl) (by kernel_rfl)
  have h8 := h7.tail
  obtain ⟨a5, c5⟩ := TL.sentinel1 2 h8 (by kernel_rfl) (by kernel_rfl)
  have h9 := h8.tail
  obtain ⟨a6, c6⟩ := TL.sentinel1 9 h9 (by kernel_rfl) (by kernel_rfl)
  have h10 := h9.tail
  obtain ⟨a7, c7⟩ := TL.sentinel1 10 h10 (by kernel_rfl) (by kernel_rfl)
  have h11 := h10.tail
  obtain ⟨a8, c8⟩ := TL.sentinel1 11 h11 (by kernel_rfl) (by kernel_rfl)
  have h12 := h11.tail
  obtain ⟨a9, c9⟩ := TL.sentinel1 3 h12 (by kernel_rfl) (by kernel_rfl)
  have h13 := h12.tail
  obtain ⟨a10, c10⟩ := TL.sentinel1 5 h13 (by kernel_rfl) (by kernel_rfl)
  have h14 := h13.tail
  obtain ⟨a11, c11⟩ := TL.sentinel1 4 h14 (by kernel_rfl) (by kernel_rfl)
  have h15 := h14.tail
  have hs := h15.tail
  obtain ⟨aS, cS⟩ := TL.sentinel1 15 hs (by kernel_rfl) (by kernel_rfl)
  have hT := EL.handle_of h2 (List.mem_singleton.2 rfl)
  exact ⟨fun k => match k with | 1 => a1 | 2 => a2 | 3 => a3 | 4 => a4 | 5 => a5 | 6 => a6 | 7 => a7 | 8 => a8 | 9 => a9 | 10 => a10 | _ => a11,
    ⟨⟨⟨⟨c1, c3, c6, hT⟩, ⟨⟨TL.maxLen_cell hsh, hP, c2, c9, big_of hsh⟩, ⟨_, cS, .inr ⟨_, _, rfl⟩⟩, c4, fun _ => ⟨_, _, rfl⟩, rfl⟩⟩, c8⟩, c2, c5, c10, c11, keyTells hK⟩,
    ⟨c1, c2, c3, c5, c6, c7, fun _ => ⟨_, _, rfl⟩, rfl⟩⟩
theorem once_met (os : Os) (args : Array Value) : laidMetH Tryz.prog Rows.buildOnceRow.laid (((World.doorLaid Tryz.prog 514 os).layVars Tryz.prog (Rows.buildOnceRow.laid.filter fun x => x.2.handleName?.isNone)).forCall (fun _ _ => 0) ⟨#[], args, []⟩).memory :=
  laidMetH_of_parts3 (fuel := 8) (EL.laidMet_layAll args (by kernel_rfl) (by kernel_rfl)) (by kernel_rfl) (by kernel_rfl)
theorem once_any {H : Type} {enc : TypeId × Value → H} {W : World} {v0 v1 v2 : Value} {d0 d1 d2 : DataW H} {p0 p1 p2 : List MemPlace} (h0 : DataW.Trod enc Tryz.prog W 0 (fun _ => true) true 36 v0 d0 p0) (hsl : ∃ a len cap, v0 = .slice a len cap) (h1 : DataW.Trod enc Tryz.prog W 0 (fun _ => true) true 66 v1 d1 p1) (hsl1 : ∃ a len cap, v1 = .slice a len cap) (h2 : DataW.Trod enc Tryz.prog W 0 (fun _ => true) true 68 v2 d2 p2) (hsl2 : ∃ a len cap, v2 = .slice a len cap) (hL : laidMetH Tryz.prog Rows.buildOnceRow.laid W) (hsh : W.ShapedOpen Tryz.prog) :
    Calls Tryz.prog 8 #[v0, v1, v2] W fun e w' => e = .returned (.bool true) ∧ Below W.heap.size W w' := by
  obtain ⟨es, hW, hE⟩ := once_laid hL hsh
  obtain ⟨sa, sl, sc, rfl⟩ := hsl
  obtain ⟨ta, tl, tc, rfl⟩ := hsl1
  obtain ⟨ra, rl, rc, rfl⟩ := hsl2
  obtain ⟨fuel, hf⟩ := h0
  obtain ⟨fuel1, hf1⟩ := h1
  obtain ⟨fuel2, hf2⟩ := h2
  have hcs : (Value.slice sa sl sc).cells.toList = [.slice sa sl sc] := rfl
  have hct : (Value.slice ta tl tc).cells.toList = [.slice ta tl tc] := rfl
  have hcr : (Value.slice ra rl rc).cells.toList = [.slice ra rl rc] := rfl
  obtain ⟨v, fl, hc, hr⟩ := OL.open_files hf
  rw [hcs] at hc
  obtain rfl : Value.slice sa sl sc = v := by simpa using hc
  obtain ⟨u, l, hc1, hr1⟩ := GL.open_rules hf1
  rw [hct] at hc1
  obtain rfl : Value.slice ta tl tc = u := by simpa using hc1
  obtain ⟨z, rs, hc2, hr2, hb2⟩ := OL.open_nums hf2
  rw [hcr] at hc2
  obtain rfl : Value.slice ra rl rc = z := by simpa using hc2
  exact BuildOnce_calls (builds es) (caches0 es) hW hE _ fl hr _ l hr1 _ rs hr2 hb2
set_option maxRecDepth 100000 in
theorem once_lifted (os : Os) (started : os.Started) (H : Type) (enc : TypeId × Value → H) :
    ReturnsInHanded {} Tryz.checked os 8 .any (fun w args => (Rows.buildOnceSpec.pre enc Tryz.prog Tryz.f8 [] false w args ∧ laidMetH Tryz.prog Rows.buildOnceRow.laid w) ∧ sizedMet enc Tryz.prog Tryz.f8 (OpenSpec.ofChange Rows.buildOnceSpec) false w args)
      (Rows.buildOnceSpec.post enc Tryz.prog Tryz.f8 false true false false) := by
  refine TL.returns_laid_shaped (C := Tryz.checked) (X := fun w _ => laidMetH Tryz.prog Rows.buildOnceRow.laid w) (fun _ _ _ hh h => h.of_heap hh) TL.own started (by kernel_rfl) Tryz.func8
    (ChangeSpec.witness_shaped (enc := enc) (C := Tryz.checked) (os := os) (X := fun w _ => laidMetH Tryz.prog Rows.buildOnceRow.laid w) false ((World.doorLaid Tryz.prog 514 os).layVars Tryz.prog (Rows.buildOnceRow.laid.filter fun x => x.2.handleName?.isNone)) #[.slice none 0 0, .slice none 0 0, .slice none 0 0] 8 (World.layVars_os _ _ _) (World.shaped_of_ZipB (by kernel_rfl) (by kernel_rfl)) (by kernel_rfl) (by kernel_rfl) (by kernel_rfl) (once_met os _)) ?_
  intro W base args ds gs before hval0 hW hsh hL _
  have hval : ∀ (j : Nat) t v, Tryz.f8.params[j]? = some t → args[j]? = some v → Value.okWide Tryz.prog W .any base t v := hval0
  have hW' := hW
  obtain ⟨p, q, hA0, hV, rfl, hfz, hnd⟩ := hW
  have hA : DataW.TrodAll enc Tryz.prog W 0 (fun _ => true) true Tryz.f8.params.toList args.toList ds p := hA0
  rw [Tryz.params8] at hA hval
  obtain ⟨v0, v1, v2, d0, d1, d2, p0, p1, p2, rfl, rfl, rfl, h0, h1, h2⟩ := trodAll_three hA
  obtain ⟨rfl, rfl⟩ := trodVars_none hV
  have hsl := okWide_slice Tryz.underlying36 (hval 0 36 v0 rfl rfl)
  have hsl1 := okWide_slice Tryz.underlying66 (hval 1 66 v1 rfl rfl)
  have hsl2 := okWide_slice Tryz.underlying68 (hval 2 68 v2 rfl rfl)
  clear hA0 hval0
  simp only [List.append_nil] at hW'
  have hlt : ∀ x ∈ p0 ++ p1 ++ p2, x.block < W.heap.size := fun x hx => by simpa using hW'.lt x hx
  refine (once_any h0 hsl h1 hsl1 h2 hsl2 hL hsh).mono fun e W' ⟨he, hb⟩ => ?_
  subst he
  have harg := Below.trod TL.laidOut (by kernel_rfl) (of_decide_eq_true (by kernel_rfl)) h0 hb (fun x hx => hlt x (List.mem_append_left _ (List.mem_append_left _ hx)))
  have harg1 := Below.trod TL.laidOut (by kernel_rfl) (of_decide_eq_true (by kernel_rfl)) h1 hb (fun x hx => hlt x (List.mem_append_left _ (List.mem_append_right _ hx)))
  have harg2 := Below.trod TL.laidOut (by kernel_rfl) (of_decide_eq_true (by kernel_rfl)) h2 hb (fun x hx => hlt x (List.mem_append_right _ hx))
  have e1 : Rows.buildOnceSpec.fn H ([d0, d1, d2] ++ []) = { results := [.lit (.bool true)], args := [d0, d1, d2] } := by simp [Rows.buildOnceSpec]
  refine ⟨_, rfl, _, _, _, [], p0 ++ p1 ++ p2, [], hW', ?_, ?_, ?_, hb.frame _, fun h => by cases h⟩
  · rw [e1]; exact trodAll_mk1 (shut_bool Tryz.underlying4 true)
  · rw [e1]
    have hm := trodAll_mk3 harg harg1 harg2
    rw [← List.append_assoc] at hm
    exact hm
  · rw [e1]; rfl
end Go.Proofs.YtflbofdpfgkmcaaGreatDoor
