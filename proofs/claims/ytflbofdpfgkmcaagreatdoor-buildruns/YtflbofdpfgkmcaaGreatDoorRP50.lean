import Derived.Test.YtflbofdpfgkmcaaGreatDoorRP48
import Derived.Test.YtflbofdpfgkmcaaGreatDoorRP49
set_option maxRecDepth 100000
namespace Go.Proofs.YtflbofdpfgkmcaaGreatDoor
open Go.ChangeShapes Go.WideShapes Go.ChangeAt Go.WideMaps Go.WideElems Go.RowKit
open Go.ChangeMaps (setBlock shut_map_nil open_string shut_string keptBut_setBlock frozen?_setBlock heap_setBlock_same)
theorem bruns_powdata : (Rows.laid_internal_strconv_uint64pow10 : DataW Unit) = Lib.tabData .u64 Lib.pow10Tab := by rfl
theorem bruns_laid {W : World} (h : laidMetH Tryz.prog Rows.buildRunsRow.laid W) (hsh : W.ShapedOpen Tryz.prog) : ∃ es,BuildW W es ∧ E12 W es := by
 have e1 : (Rows.buildRunsRow.laid.filter fun x => x.2.handleName?.isNone) = ("math/bits.deBruijn32tab", Rows.laid_math_bits_deBruijn32tab) :: ("math/bits.deBruijn64tab", Rows.laid_math_bits_deBruijn64tab) :: ("internal/strconv.uint64pow10", Rows.laid_internal_strconv_uint64pow10) :: ("unicode/utf8.acceptRanges", Rows.laid_unicode_utf8_acceptRanges) :: (EL.twelve.map (fun x => (x.1, EL.sd x.2.1)) ++ [("strconv.ErrRange", Rows.laid_strconv_ErrRange), ("strconv.ErrSyntax", Rows.laid_strconv_ErrSyntax), ("unicode/utf8.first", Rows.laid_unicode_utf8_first)]) := by kernel_rfl
 have h1 : laidMet Tryz.prog (Rows.buildRunsRow.laid.filter fun x => x.2.handleName?.isNone) W := h.1
 rw [e1] at h1
 have h2 : handlesMet Tryz.prog (Rows.buildRunsRow.laid.filter fun x => x.2.handleName?.isSome) W := h.2
 have e2 : (Rows.buildRunsRow.laid.filter fun x => x.2.handleName?.isSome) = [("errors.errorType", Rows.laid_errors_errorType)] := by kernel_rfl
 rw [e2] at h2
 have h3 := h1.tail.tail
 have hK : KPow W := by
  have h3' := h3
  rw [bruns_powdata] at h3'
  exact Lib.tabIs_of_head (g := 13) (t := 347) (e := 293) (n := 20) (by kernel_rfl) (by kernel_rfl) Tryz.underlying347 Tryz.underlying293 (by kernel_rfl) (by kernel_rfl) h3'
 have h4 := (EL.laidMet_drop _ h3.tail.tail).tail
 obtain ⟨a,ha⟩ := TL.sentinel1 15 h4 (by kernel_rfl) (by kernel_rfl)
 obtain ⟨es,hE⟩ := EL.e12_of h3.tail.tail (EL.handle_of h2 (List.mem_singleton.2 rfl))
 have hA := hE.ae (TL.maxLen_cell hsh) (TL.pow_laid h3) ⟨_,ha,.inr ⟨_,_,rfl⟩⟩ (big_of hsh)
 exact ⟨es,⟨⟨⟨hE.es,hA⟩,hE.c8⟩,hE.c2,hE.c5,hE.c10,hE.c11,keyTells hK⟩,hE⟩
theorem bruns_met (os : Os) (args : Array Value) : laidMetH Tryz.prog Rows.buildRunsRow.laid (((World.doorLaid Tryz.prog 514 os).layVars Tryz.prog (Rows.buildRunsRow.laid.filter fun x => x.2.handleName?.isNone)).forCall (fun _ _ => 0) ⟨#[],args,[]⟩).memory :=
 laidMetH_of_parts3 (fuel := 8) (EL.laidMet_layAll args (by kernel_rfl) (by kernel_rfl)) (by kernel_rfl) (by kernel_rfl)
theorem bruns_five {H : Type} {enc : TypeId × Value → H} {P : Program} {w : World} {b : Nat} {spare : Nat → Bool} {held : Bool} {t0 t1 t2 t3 t4 : TypeId} {args : Array Value} {ds : List (DataW H)} {ps : List MemPlace} (h : DataW.TrodAll enc P w b spare held [t0,t1,t2,t3,t4] args.toList ds ps) :
  ∃ v0 v1 v2 v3 v4 d0 d1 d2 d3 d4 p0 p1 p2 p3 p4,args = #[v0,v1,v2,v3,v4] ∧ ds = [d0,d1,d2,d3,d4] ∧ ps = p0 ++ (p1 ++ (p2 ++ (p3 ++ p4))) ∧ DataW.Trod enc P w b spare held t0 v0 d0 p0 ∧ DataW.Trod enc P w b spare held t1 v1 d1 p1 ∧ DataW.Trod enc P w b spare held t2 v2 d2 p2 ∧ DataW.Trod enc P w b spare held t3 v3 d3 p3 ∧ DataW.Trod enc P w b spare held t4 v4 d4 p4 := by
 obtain ⟨v0,vs1,d0,ds1,p0,q1,e0,rfl,rfl,h0,hA1⟩ := trodAll_cons h
 obtain ⟨v1,vs2,d1,ds2,p1,q2,rfl,rfl,rfl,h1,hA2⟩ := trodAll_cons hA1
 obtain ⟨v2,vs3,d2,ds3,p2,q3,rfl,rfl,rfl,h2,hA3⟩ := trodAll_cons hA2
 obtain ⟨v3,vs4,d3,ds4,p3,q4,rfl,rfl,rfl,h3,hA4⟩ := trodAll_cons hA3
 obtain ⟨v4,vs5,d4,ds5,p4,q5,rfl,rfl,rfl,h4,hA5⟩ := trodAll_cons hA4
 obtain ⟨rfl,rfl,rfl⟩ := trodAll_nil hA5
 exact ⟨v0,v1,v2,v3,v4,d0,d1,d2,d3,d4,p0,p1,p2,p3,p4,by cases args;simp_all,rfl,by simp,h0,h1,h2,h3,h4⟩
theorem bruns_any {H : Type} {enc : TypeId × Value → H} {W : World} {v0 v1 v2 v4 : Value} {d0 d1 d2 d4 : DataW H} {p0 p1 p2 p4 : List MemPlace} (h0 : DataW.Trod enc Tryz.prog W 0 (fun _ => true) true 36 v0 d0 p0) (hsl : ∃ a len cap,v0 = .slice a len cap) (h1 : DataW.Trod enc Tryz.prog W 0 (fun _ => true) true 66 v1 d1 p1) (hsl1 : ∃ a len cap,v1 = .slice a len cap) (h2 : DataW.Trod enc Tryz.prog W 0 (fun _ => true) true 45 v2 d2 p2) (hsl2 : ∃ a len cap,v2 = .slice a len cap) (many : Int) (hm0 : -9223372036854775808 ≤ many) (hm1 : many ≤ 9223372036854775807) (h4 : DataW.Trod enc Tryz.prog W 0 (fun _ => true) true 68 v4 d4 p4) (hsl4 : ∃ a len cap,v4 = .slice a len cap) (hL : laidMetH Tryz.prog Rows.buildRunsRow.laid W) (hsh : W.ShapedOpen Tryz.prog) :
  Calls Tryz.prog 9 #[v0,v1,v2,.int .i64 many,v4] W fun e w' => e = .returned (.bool true) ∧ Below W.heap.size W w' := by
 obtain ⟨es,hW,hE⟩ := bruns_laid hL hsh
 obtain ⟨sa,sl,sc,rfl⟩ := hsl
 obtain ⟨ta,tl,tc,rfl⟩ := hsl1
 obtain ⟨ua,ul,uc,rfl⟩ := hsl2
 obtain ⟨ra,rl,rc,rfl⟩ := hsl4
 obtain ⟨fuel,hf⟩ := h0
 obtain ⟨fuel1,hf1⟩ := h1
 obtain ⟨fuel2,hf2⟩ := h2
 obtain ⟨fuel4,hf4⟩ := h4
 have hcs : (Value.slice sa sl sc).cells.toList = [.slice sa sl sc] := rfl
 have hct : (Value.slice ta tl tc).cells.toList = [.slice ta tl tc] := rfl
 have hcu : (Value.slice ua ul uc).cells.toList = [.slice ua ul uc] := rfl
 have hcr : (Value.slice ra rl rc).cells.toList = [.slice ra rl rc] := rfl
 obtain ⟨v,fl,hc,hr⟩ := OL.open_files hf
 rw [hcs] at hc
 obtain rfl : Value.slice sa sl sc = v := by simpa using hc
 obtain ⟨u,l,hc1,hr1⟩ := GL.open_rules hf1
 rw [hct] at hc1
 obtain rfl : Value.slice ta tl tc = u := by simpa using hc1
 obtain ⟨y,outs,hc2,hr2⟩ := GL.open_texts hf2
 rw [hcu] at hc2
 obtain rfl : Value.slice ua ul uc = y := by simpa using hc2
 obtain ⟨z,rs,hc4,hr4,hb4⟩ := OL.open_nums hf4
 rw [hcr] at hc4
 obtain rfl : Value.slice ra rl rc = z := by simpa using hc4
 exact BuildRuns_calls (builds es) (caches0 es) hW hE _ fl hr _ l hr1 _ outs hr2 many hm0 hm1 _ rs hr4 hb4
theorem bruns_lifted (os : Os) (started : os.Started) (H : Type) (enc : TypeId × Value → H) :
  ReturnsInHanded {} Tryz.checked os 9 .any (fun w args => (Rows.buildRunsSpec.pre enc Tryz.prog Tryz.f9 [] false w args ∧ laidMetH Tryz.prog Rows.buildRunsRow.laid w) ∧ sizedMet enc Tryz.prog Tryz.f9 (OpenSpec.ofChange Rows.buildRunsSpec) false w args)
   (Rows.buildRunsSpec.post enc Tryz.prog Tryz.f9 false true false false) := by
 refine TL.returns_laid_shaped (C := Tryz.checked) (X := fun w _ => laidMetH Tryz.prog Rows.buildRunsRow.laid w) (fun _ _ _ hh h => h.of_heap hh) TL.own started (by kernel_rfl) Tryz.func9
  (ChangeSpec.witness_shaped (enc := enc) (C := Tryz.checked) (os := os) (X := fun w _ => laidMetH Tryz.prog Rows.buildRunsRow.laid w) false ((World.doorLaid Tryz.prog 514 os).layVars Tryz.prog (Rows.buildRunsRow.laid.filter fun x => x.2.handleName?.isNone)) #[.slice none 0 0,.slice none 0 0,.slice none 0 0,.int .i64 0,.slice none 0 0] 8 (World.layVars_os _ _ _) (World.shaped_of_ZipB (by kernel_rfl) (by kernel_rfl)) (by kernel_rfl) (by kernel_rfl) (by kernel_rfl) (bruns_met os _)) ?_
 intro W base args ds gs before hval0 hW hsh hL _
 have hval : ∀ (j : Nat) t v,Tryz.f9.params[j]? = some t → args[j]? = some v → Value.okWide Tryz.prog W .any base t v := hval0
 have hW' := hW
 obtain ⟨p,q,hA0,hV,rfl,hfz,hnd⟩ := hW
 have hA : DataW.TrodAll enc Tryz.prog W 0 (fun _ => true) true Tryz.f9.params.toList args.toList ds p := hA0
 rw [Tryz.params9] at hA hval
 obtain ⟨v0,v1,v2,v3,v4,d0,d1,d2,d3,d4,p0,p1,p2,p3,p4,rfl,rfl,rfl,h0,h1,h2,h3,h4⟩ := bruns_five hA
 obtain ⟨rfl,rfl⟩ := trodVars_none hV
 have hsl := okWide_slice Tryz.underlying36 (hval 0 36 v0 rfl rfl)
 have hsl1 := okWide_slice Tryz.underlying66 (hval 1 66 v1 rfl rfl)
 have hsl2 := okWide_slice Tryz.underlying45 (hval 2 45 v2 rfl rfl)
 obtain ⟨n,rfl,rfl,rfl,hn⟩ := open_int Tryz.underlying3 (hval 3 3 v3 rfl rfl) h3
 have hsl4 := okWide_slice Tryz.underlying68 (hval 4 68 v4 rfl rfl)
 have hn' : -9223372036854775808 ≤ n ∧ n ≤ 9223372036854775807 := by
  have e1 : IntKind.i64.min = -9223372036854775808 := by decide
  have e2 : IntKind.i64.max = 9223372036854775807 := by decide
  have hw := hn
  simp [Lit.wf,e1,e2] at hw
  exact hw
 clear hA0 hval0
 simp only [List.append_nil,List.nil_append] at hW'
 have hlt : ∀ x ∈ p0 ++ (p1 ++ (p2 ++ p4)),x.block < W.heap.size := fun x hx => by simpa using hW'.lt x hx
 refine (bruns_any h0 hsl h1 hsl1 h2 hsl2 n hn'.1 hn'.2 h4 hsl4 hL hsh).mono fun e W' ⟨he,hb⟩ => ?_
 subst he
 have harg0 := Below.trod TL.laidOut (by kernel_rfl) (of_decide_eq_true (by kernel_rfl)) h0 hb (fun x hx => hlt x (List.mem_append_left _ hx))
 have harg1 := Below.trod TL.laidOut (by kernel_rfl) (of_decide_eq_true (by kernel_rfl)) h1 hb (fun x hx => hlt x (List.mem_append_right _ (List.mem_append_left _ hx)))
 have harg2 := Below.trod TL.laidOut (by kernel_rfl) (of_decide_eq_true (by kernel_rfl)) h2 hb (fun x hx => hlt x (List.mem_append_right _ (List.mem_append_right _ (List.mem_append_left _ hx))))
 have harg4 := Below.trod TL.laidOut (by kernel_rfl) (of_decide_eq_true (by kernel_rfl)) h4 hb (fun x hx => hlt x (List.mem_append_right _ (List.mem_append_right _ (List.mem_append_right _ hx))))
 have e1 : Rows.buildRunsSpec.fn H ([d0,d1,d2,.lit (.int .i64 n),d4] ++ []) = { results := [.lit (.bool true)],args := [d0,d1,d2,.lit (.int .i64 n),d4] } := by simp [Rows.buildRunsSpec]
 refine ⟨_,rfl,_,_,_,[],p0 ++ (p1 ++ (p2 ++ p4)),[],hW',?_,?_,?_,hb.frame _,fun h => by cases h⟩
 ·rw [e1];exact trodAll_mk1 (shut_bool Tryz.underlying4 true)
 ·rw [e1]
  have hm := trodAll_cons_mk harg0 (trodAll_cons_mk harg1 (trodAll_cons_mk harg2 (trodAll_cons_mk (shut_int Tryz.underlying3 hn) (trodAll_mk1 harg4))))
  simp only [List.nil_append] at hm
  exact hm
 ·rw [e1];rfl
end Go.Proofs.YtflbofdpfgkmcaaGreatDoor
