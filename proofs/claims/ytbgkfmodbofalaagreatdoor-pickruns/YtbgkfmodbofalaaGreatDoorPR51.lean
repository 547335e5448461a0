import Derived.Test.YtbgkfmodbofalaaGreatDoorPR47
import Derived.Test.YtbgkfmodbofalaaGreatDoorPR50
set_option maxRecDepth 100000
namespace Go.Proofs.YtbgkfmodbofalaaGreatDoor
open Go.ChangeShapes Go.WideShapes Go.ChangeAt Go.WideMaps Go.WideElems Go.RowKit
open Go.ChangeMaps (setBlock shut_map_nil open_string shut_string keptBut_setBlock frozen?_setBlock heap_setBlock_same)
theorem Zkp : (Rows.laid_internal_strconv_uint64pow10 : DataW Unit) = Lib.tabData .u64 Lib.pow10Tab := by rfl
theorem Zso {W : World} (h : laidMetH Tryz.prog Rows.pickRunsRow.laid W) (hsh : W.ShapedOpen Tryz.prog) : ∃ es,BuildW W es /\ E12 W es := by
 have e1 : (Rows.pickRunsRow.laid.filter fun x => x.2.handleName?.isNone) = ("math/bits.deBruijn32tab", Rows.laid_math_bits_deBruijn32tab) :: ("math/bits.deBruijn64tab", Rows.laid_math_bits_deBruijn64tab) :: ("internal/strconv.uint64pow10", Rows.laid_internal_strconv_uint64pow10) :: ("unicode/utf8.acceptRanges", Rows.laid_unicode_utf8_acceptRanges) :: (EL.twelve.map (fun x => (x.1, EL.sd x.2.1)) ++ [("strconv.ErrRange", Rows.laid_strconv_ErrRange), ("strconv.ErrSyntax", Rows.laid_strconv_ErrSyntax), ("unicode/utf8.first", Rows.laid_unicode_utf8_first)]) := by kernel_rfl
 have h1 : laidMet Tryz.prog (Rows.pickRunsRow.laid.filter fun x => x.2.handleName?.isNone) W := h.1
 rw [e1] at h1;have h2 : handlesMet Tryz.prog (Rows.pickRunsRow.laid.filter fun x => x.2.handleName?.isSome) W := h.2
 have e2 : (Rows.pickRunsRow.laid.filter fun x => x.2.handleName?.isSome) = [("errors.errorType", Rows.laid_errors_errorType)] := by kernel_rfl
 rw [e2] at h2;have h3 := h1.tail.tail;have hK : KPow W := by
  have h3' := h3;rw [Zkp] at h3';exact Lib.tabIs_of_head (g := 13) (t := 374) (e := 321) (n := 20) (by kernel_rfl) (by kernel_rfl) Tryz.underlying374 Tryz.underlying321 (by kernel_rfl) (by kernel_rfl) h3'
 have h4 := (EL.laidMet_drop _ h3.tail.tail).tail;obtain ⟨a,ha⟩ := TL.sentinel1 15 h4 (by kernel_rfl) (by kernel_rfl)
 obtain ⟨es,hE⟩ := EL.e12_of h3.tail.tail (EL.handle_of h2 (List.mem_singleton.2 rfl));have hA := hE.ae (TL.maxLen_cell hsh) (TL.pow_laid h3) ⟨_,ha,.inr ⟨_,_,rfl⟩⟩ (big_of hsh);exact ⟨es,⟨⟨⟨hE.es,hA⟩,hE.c8⟩,hE.c2,hE.c5,hE.c10,hE.c11,Zyd hK⟩,hE⟩
theorem Zuw (os : Os) (args : Array Value) : laidMetH Tryz.prog Rows.pickRunsRow.laid (((World.doorLaid Tryz.prog 541 os).layVars Tryz.prog (Rows.pickRunsRow.laid.filter fun x => x.2.handleName?.isNone)).forCall (fun _ _ => 0) ⟨#[],args,[]⟩).memory :=
 laidMetH_of_parts3 (fuel := 8) (EL.laidMet_layAll args (by kernel_rfl) (by kernel_rfl)) (by kernel_rfl) (by kernel_rfl)
theorem Zsm {H : Type} {enc : TypeId × Value -> H} {P : Program} {w : World} {b : Nat} {spare : Nat -> Bool} {held : Bool} {t0 t1 t2 t3 : TypeId} {args : Array Value} {ds : List (DataW H)} {ps : List MemPlace} (h : DataW.TrodAll enc P w b spare held [t0,t1,t2,t3] args.toList ds ps) :
  ∃ v0 v1 v2 v3 d0 d1 d2 d3 p0 p1 p2 p3,args = #[v0,v1,v2,v3] /\ ds = [d0,d1,d2,d3] /\ ps = p0 ++ (p1 ++ (p2 ++ p3)) /\ DataW.Trod enc P w b spare held t0 v0 d0 p0 /\ DataW.Trod enc P w b spare held t1 v1 d1 p1 /\ DataW.Trod enc P w b spare held t2 v2 d2 p2 /\ DataW.Trod enc P w b spare held t3 v3 d3 p3 := by
 obtain ⟨v0,vs1,d0,ds1,p0,q1,e0,rfl,rfl,h0,hA1⟩ := trodAll_cons h;obtain ⟨v1,vs2,d1,ds2,p1,q2,rfl,rfl,rfl,h1,hA2⟩ := trodAll_cons hA1;obtain ⟨v2,vs3,d2,ds3,p2,q3,rfl,rfl,rfl,h2,hA3⟩ := trodAll_cons hA2;obtain ⟨v3,vs4,d3,ds4,p3,q4,rfl,rfl,rfl,h3,hA4⟩ := trodAll_cons hA3;obtain ⟨rfl,rfl,rfl⟩ := trodAll_nil hA4;exact ⟨v0,v1,v2,v3,d0,d1,d2,d3,p0,p1,p2,p3,by cases args;simp_all,rfl,by simp,h0,h1,h2,h3⟩
theorem Zvf {H : Type} {enc : TypeId × Value -> H} {W : World} {v0 : Value} {d0 : DataW H} {p0 : List MemPlace} (h0 : DataW.Trod enc Tryz.prog W 0 (fun _ => true) true 36 v0 d0 p0) (hsl0 : ∃ a len cap,v0 = .slice a len cap) {v1 : Value} {d1 : DataW H} {p1 : List MemPlace} (h1 : DataW.Trod enc Tryz.prog W 0 (fun _ => true) true 66 v1 d1 p1) (hsl1 : ∃ a len cap,v1 = .slice a len cap) {v2 : Value} {d2 : DataW H} {p2 : List MemPlace} (h2 : DataW.Trod enc Tryz.prog W 0 (fun _ => true) true 45 v2 d2 p2) (hsl2 : ∃ a len cap,v2 = .slice a len cap) {v3 : Value} {d3 : DataW H} {p3 : List MemPlace} (h3 : DataW.Trod enc Tryz.prog W 0 (fun _ => true) true 68 v3 d3 p3) (hsl3 : ∃ a len cap,v3 = .slice a len cap) (hL : laidMetH Tryz.prog Rows.pickRunsRow.laid W) (hsh : W.ShapedOpen Tryz.prog) :
  Calls Tryz.prog 14 #[v0,v1,v2,v3] W fun e w' => e = .returned (.bool true) /\ Below W.heap.size W w' := by
 obtain ⟨es,hX⟩ := Zso hL hsh;obtain ⟨sa0,sl0,sc0,rfl⟩ := hsl0;obtain ⟨fuel0,hf0⟩ := h0;have hcs0 : (Value.slice sa0 sl0 sc0).cells.toList = [.slice sa0 sl0 sc0] := rfl;obtain ⟨u0,l0,hc0,hr0⟩ := OL.open_files hf0;rw [hcs0] at hc0;obtain rfl : Value.slice sa0 sl0 sc0 = u0 := by simpa using hc0
 obtain ⟨sa1,sl1,sc1,rfl⟩ := hsl1;obtain ⟨fuel1,hf1⟩ := h1;have hcs1 : (Value.slice sa1 sl1 sc1).cells.toList = [.slice sa1 sl1 sc1] := rfl;obtain ⟨u1,l1,hc1,hr1⟩ := GL.open_rules hf1;rw [hcs1] at hc1;obtain rfl : Value.slice sa1 sl1 sc1 = u1 := by simpa using hc1
 obtain ⟨sa2,sl2,sc2,rfl⟩ := hsl2;obtain ⟨fuel2,hf2⟩ := h2;have hcs2 : (Value.slice sa2 sl2 sc2).cells.toList = [.slice sa2 sl2 sc2] := rfl;obtain ⟨u2,l2,hc2,hr2⟩ := GL.open_texts hf2;rw [hcs2] at hc2;obtain rfl : Value.slice sa2 sl2 sc2 = u2 := by simpa using hc2
 obtain ⟨sa3,sl3,sc3,rfl⟩ := hsl3;obtain ⟨fuel3,hf3⟩ := h3;have hcs3 : (Value.slice sa3 sl3 sc3).cells.toList = [.slice sa3 sl3 sc3] := rfl;obtain ⟨u3,l3,hc3,hr3,hb3⟩ := OL.open_picks hf3;rw [hcs3] at hc3;obtain rfl : Value.slice sa3 sl3 sc3 = u3 := by simpa using hc3
 exact Zjb (builds es) hX.1 hX.2 _ l0 hr0 _ l1 hr1 _ l2 hr2 _ l3 hr3 hb3.1 hb3.2
theorem Zmk (os : Os) (started : os.Started) (H : Type) (enc : TypeId × Value -> H) :
  ReturnsInHanded {} Tryz.checked os 14 .any (fun w args => (Rows.pickRunsSpec.pre enc Tryz.prog Tryz.f14 [] false w args /\ laidMetH Tryz.prog Rows.pickRunsRow.laid w) /\ sizedMet enc Tryz.prog Tryz.f14 (OpenSpec.ofChange Rows.pickRunsSpec) false w args)
   (Rows.pickRunsSpec.post enc Tryz.prog Tryz.f14 false true false false) := by
 refine TL.returns_laid_shaped (C := Tryz.checked) (X := fun w _ => laidMetH Tryz.prog Rows.pickRunsRow.laid w) (fun _ _ _ hh h => h.of_heap hh) TL.own started (by kernel_rfl) Tryz.func14
  (ChangeSpec.witness_shaped (enc := enc) (C := Tryz.checked) (os := os) (X := fun w _ => laidMetH Tryz.prog Rows.pickRunsRow.laid w) false ((World.doorLaid Tryz.prog 541 os).layVars Tryz.prog (Rows.pickRunsRow.laid.filter fun x => x.2.handleName?.isNone)) #[.slice none 0 0,.slice none 0 0,.slice none 0 0,.slice none 0 0] 8 (World.layVars_os _ _ _) (World.shaped_of_ZipB (by kernel_rfl) (by kernel_rfl)) (by kernel_rfl) (by kernel_rfl) (by kernel_rfl) (Zuw os _)) ?_
 intro W base args ds gs before hval0 hW hsh hL _
 have hval : ∀ (j : Nat) t v,Tryz.f14.params[j]? = some t -> args[j]? = some v -> Value.okWide Tryz.prog W .any base t v := hval0
 have hW' := hW;obtain ⟨p,q,hA0,hV,rfl,hfz,hnd⟩ := hW;have hA : DataW.TrodAll enc Tryz.prog W 0 (fun _ => true) true Tryz.f14.params.toList args.toList ds p := hA0
 rw [Tryz.params14] at hA hval;obtain ⟨v0,v1,v2,v3,d0,d1,d2,d3,p0,p1,p2,p3,rfl,rfl,rfl,h0,h1,h2,h3⟩ := Zsm hA;obtain ⟨rfl,rfl⟩ := trodVars_none hV;have hsl0 := okWide_slice Tryz.underlying36 (hval 0 36 v0 rfl rfl);have hsl1 := okWide_slice Tryz.underlying66 (hval 1 66 v1 rfl rfl);have hsl2 := okWide_slice Tryz.underlying45 (hval 2 45 v2 rfl rfl)
 have hsl3 := okWide_slice Tryz.underlying68 (hval 3 68 v3 rfl rfl);clear hA0 hval0;simp only [List.append_nil] at hW';have hlt : ∀ x ∈ p0 ++ (p1 ++ (p2 ++ p3)),x.block < W.heap.size := fun x hx => by simpa using hW'.lt x hx
 have key := Zvf h0 hsl0 h1 hsl1 h2 hsl2 h3 hsl3 hL hsh;refine key.mono fun e W' ⟨he,hb⟩ => ?_
 subst he;have harg0 := Below.trod TL.laidOut (by kernel_rfl) (of_decide_eq_true (by kernel_rfl)) h0 hb (fun x hx => hlt x (List.mem_append_left _ hx))
 have harg1 := Below.trod TL.laidOut (by kernel_rfl) (of_decide_eq_true (by kernel_rfl)) h1 hb (fun x hx => hlt x (List.mem_append_right _ (List.mem_append_left _ hx)))
 have harg2 := Below.trod TL.laidOut (by kernel_rfl) (of_decide_eq_true (by kernel_rfl)) h2 hb (fun x hx => hlt x (List.mem_append_right _ (List.mem_append_right _ (List.mem_append_left _ hx))))
 have harg3 := Below.trod TL.laidOut (by kernel_rfl) (of_decide_eq_true (by kernel_rfl)) h3 hb (fun x hx => hlt x (List.mem_append_right _ (List.mem_append_right _ (List.mem_append_right _ hx))))
 have e1 : Rows.pickRunsSpec.fn H ([d0,d1,d2,d3] ++ []) = { results := [.lit (.bool true)],args := [d0,d1,d2,d3] } := by simp [Rows.pickRunsSpec]
 refine ⟨_,rfl,_,_,_,[],p0 ++ (p1 ++ (p2 ++ p3)),[],hW',?_,?_,?_,hb.frame _,fun h => by cases h⟩
 ·rw [e1];exact trodAll_mk1 (shut_bool Tryz.underlying4 true)
 ·rw [e1];have hm := trodAll_cons_mk harg0 (trodAll_cons_mk harg1 (trodAll_cons_mk harg2 (trodAll_mk1 harg3)));exact hm
 ·rw [e1];rfl
end Go.Proofs.YtbgkfmodbofalaaGreatDoor
