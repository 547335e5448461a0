import Derived.Test.YtdljhggillgpfaaGreatDoorSA48
import Derived.Test.YtdljhggillgpfaaGreatDoorSA49
set_option maxRecDepth 100000
namespace Go.Proofs.YtdljhggillgpfaaGreatDoor
open Go.ChangeShapes Go.WideShapes Go.ChangeAt Go.WideMaps Go.WideElems Go.RowKit
open Go.ChangeMaps (setBlock shut_map_nil open_string shut_string keptBut_setBlock frozen?_setBlock heap_setBlock_same)
theorem scagain_powdata : (Rows.laid_internal_strconv_uint64pow10 : DataW Unit) = Lib.tabData .u64 Lib.pow10Tab := by rfl
theorem scagain_laid {W : World} (h : laidMetH Tryz.prog Rows.scriptAgainRow.laid W) (hsh : W.ShapedOpen Tryz.prog) : ∃ es,∃ m,ScB W.heap.size W es m := by
 have e1 : (Rows.scriptAgainRow.laid.filter fun x => x.2.handleName?.isNone) = ("math/bits.deBruijn32tab", Rows.laid_math_bits_deBruijn32tab) :: ("math/bits.deBruijn64tab", Rows.laid_math_bits_deBruijn64tab) :: ("internal/strconv.uint64pow10", Rows.laid_internal_strconv_uint64pow10) :: ("unicode/utf8.acceptRanges", Rows.laid_unicode_utf8_acceptRanges) :: (EL.twelve.map (fun x => (x.1, EL.sd x.2.1)) ++ [("strconv.ErrRange", Rows.laid_strconv_ErrRange), ("strconv.ErrSyntax", Rows.laid_strconv_ErrSyntax), ("unicode/utf8.first", Rows.laid_unicode_utf8_first)]) := by kernel_rfl
 have h1 : laidMet Tryz.prog (Rows.scriptAgainRow.laid.filter fun x => x.2.handleName?.isNone) W := h.1
 rw [e1] at h1
 have h2 : handlesMet Tryz.prog (Rows.scriptAgainRow.laid.filter fun x => x.2.handleName?.isSome) W := h.2
 have e2 : (Rows.scriptAgainRow.laid.filter fun x => x.2.handleName?.isSome) = [("errors.errorType", Rows.laid_errors_errorType)] := by kernel_rfl
 rw [e2] at h2
 have h3 := h1.tail.tail
 have hK : KPow W := by
  have h3' := h3
  rw [scagain_powdata] at h3'
  exact Lib.tabIs_of_head (g := 16) (t := 331) (e := 254) (n := 20) (by kernel_rfl) (by kernel_rfl) Tryz.underlying331 Tryz.underlying254 (by kernel_rfl) (by kernel_rfl) h3'
 have h4 := (EL.laidMet_drop _ h3.tail.tail).tail
 obtain ⟨a,ha⟩ := TL.sentinel1 19 h4 (by kernel_rfl) (by kernel_rfl)
 obtain ⟨es,hE,hX⟩ := EL.e12x_of h3.tail.tail (EL.handle_of h2 (List.mem_singleton.2 rfl))
 obtain ⟨mm,hm⟩ := TL.maxLen_cell hsh
 have hA := hE.ae (TL.maxLen_cell hsh) (TL.pow_laid h3) ⟨_,ha,.inr ⟨_,_,rfl⟩⟩ (big_of hsh)
 exact ⟨es,mm,W,rfl,⟨⟨⟨hE.es,hA⟩,hE.c8⟩,hE.c2,hE.c5,hE.c10,hE.c11,keyTells hK⟩,hE.terr,hE,erTx_of hX,hK,hm,Below.refl _ _⟩
theorem scagain_met (os : Os) (args : Array Value) : laidMetH Tryz.prog Rows.scriptAgainRow.laid (((World.doorLaid Tryz.prog 496 os).layVars Tryz.prog (Rows.scriptAgainRow.laid.filter fun x => x.2.handleName?.isNone)).forCall (fun _ _ => 0) ⟨#[],args,[]⟩).memory :=
 laidMetH_of_parts3 (fuel := 8) (EL.laidMet_layAll args (by kernel_rfl) (by kernel_rfl)) (by kernel_rfl) (by kernel_rfl)
theorem scagain_open {H : Type} {enc : TypeId × Value → H} {P : Program} {w : World} {b : Nat} {spare : Nat → Bool} {held : Bool} {t0 t1 : TypeId} {args : Array Value} {ds : List (DataW H)} {ps : List MemPlace} (h : DataW.TrodAll enc P w b spare held [t0,t1] args.toList ds ps) :
  ∃ v0 v1 d0 d1 p0 p1,args = #[v0,v1] ∧ ds = [d0,d1] ∧ ps = p0 ++ p1 ∧ DataW.Trod enc P w b spare held t0 v0 d0 p0 ∧ DataW.Trod enc P w b spare held t1 v1 d1 p1 := by
 obtain ⟨v0,vs1,d0,ds1,p0,q1,e0,rfl,rfl,h0,hA1⟩ := trodAll_cons h
 obtain ⟨v1,vs2,d1,ds2,p1,q2,rfl,rfl,rfl,h1,hA2⟩ := trodAll_cons hA1
 obtain ⟨rfl,rfl,rfl⟩ := trodAll_nil hA2
 exact ⟨v0,v1,d0,d1,p0,p1,by cases args;simp_all,rfl,by simp,h0,h1⟩
theorem scagain_any {H : Type} {enc : TypeId × Value → H} {W : World} {v0 : Value} {d0 : DataW H} {p0 : List MemPlace} (h0 : DataW.Trod enc Tryz.prog W 0 (fun _ => true) true 33 v0 d0 p0) (hsl0 : ∃ a len cap,v0 = .slice a len cap) (n1 : Int) (hn1 : -9223372036854775808 ≤ n1 ∧ n1 ≤ 9223372036854775807) (hL : laidMetH Tryz.prog Rows.scriptAgainRow.laid W) (hsh : W.ShapedOpen Tryz.prog) :
  Calls Tryz.prog 4 #[v0,.int .i64 n1] W fun e w' => e = .returned (.bool true) ∧ Below W.heap.size W w' := by
 obtain ⟨es,hX⟩ := scagain_laid hL hsh
 obtain ⟨sa0,sl0,sc0,rfl⟩ := hsl0
 obtain ⟨fuel0,hf0⟩ := h0
 have hcs0 : (Value.slice sa0 sl0 sc0).cells.toList = [.slice sa0 sl0 sc0] := rfl
 obtain ⟨u0,l0,hc0,hr0⟩ := OL.open_lines hf0
 rw [hcs0] at hc0
 obtain rfl : Value.slice sa0 sl0 sc0 = u0 := by simpa using hc0
 exact ScriptAgain_calls (caches0 es) (builds es) hX.choose_spec _ l0 hr0 n1 hn1.1 hn1.2
theorem scagain_lifted (os : Os) (started : os.Started) (H : Type) (enc : TypeId × Value → H) :
  ReturnsInHanded {} Tryz.checked os 4 .any (fun w args => (Rows.scriptAgainSpec.pre enc Tryz.prog Tryz.f4 [] false w args ∧ laidMetH Tryz.prog Rows.scriptAgainRow.laid w) ∧ sizedMet enc Tryz.prog Tryz.f4 (OpenSpec.ofChange Rows.scriptAgainSpec) false w args)
   (Rows.scriptAgainSpec.post enc Tryz.prog Tryz.f4 false true false false) := by
 refine TL.returns_laid_shaped (C := Tryz.checked) (X := fun w _ => laidMetH Tryz.prog Rows.scriptAgainRow.laid w) (fun _ _ _ hh h => h.of_heap hh) TL.own started (by kernel_rfl) Tryz.func4
  (ChangeSpec.witness_shaped (enc := enc) (C := Tryz.checked) (os := os) (X := fun w _ => laidMetH Tryz.prog Rows.scriptAgainRow.laid w) false ((World.doorLaid Tryz.prog 496 os).layVars Tryz.prog (Rows.scriptAgainRow.laid.filter fun x => x.2.handleName?.isNone)) #[.slice none 0 0,.int .i64 0] 8 (World.layVars_os _ _ _) (World.shaped_of_ZipB (by kernel_rfl) (by kernel_rfl)) (by kernel_rfl) (by kernel_rfl) (by kernel_rfl) (scagain_met os _)) ?_
 intro W base args ds gs before hval0 hW hsh hL _
 have hval : ∀ (j : Nat) t v,Tryz.f4.params[j]? = some t → args[j]? = some v → Value.okWide Tryz.prog W .any base t v := hval0
 have hW' := hW
 obtain ⟨p,q,hA0,hV,rfl,hfz,hnd⟩ := hW
 have hA : DataW.TrodAll enc Tryz.prog W 0 (fun _ => true) true Tryz.f4.params.toList args.toList ds p := hA0
 rw [Tryz.params4] at hA hval
 obtain ⟨v0,v1,d0,d1,p0,p1,rfl,rfl,rfl,h0,h1⟩ := scagain_open hA
 obtain ⟨rfl,rfl⟩ := trodVars_none hV
 have hsl0 := okWide_slice Tryz.underlying33 (hval 0 33 v0 rfl rfl)
 obtain ⟨n1,rfl,rfl,rfl,hw1⟩ := open_int Tryz.underlying3 (hval 1 3 v1 rfl rfl) h1
 have hn1 : -9223372036854775808 ≤ n1 ∧ n1 ≤ 9223372036854775807 := by
  have e1 : IntKind.i64.min = -9223372036854775808 := by decide
  have e2 : IntKind.i64.max = 9223372036854775807 := by decide
  have hw := hw1
  simp [Lit.wf,e1,e2] at hw
  exact hw
 clear hA0 hval0
 simp only [List.append_nil] at hW'
 have hlt : ∀ x ∈ p0,x.block < W.heap.size := fun x hx => by simpa using hW'.lt x hx
 have key := scagain_any h0 hsl0 n1 hn1 hL hsh
 refine key.mono fun e W' ⟨he,hb⟩ => ?_
 subst he
 have harg0 := Below.trod TL.laidOut (by kernel_rfl) (of_decide_eq_true (by kernel_rfl)) h0 hb (fun x hx => hlt x hx)
 have e1 : Rows.scriptAgainSpec.fn H ([d0,.lit (.int .i64 n1)] ++ []) = { results := [.lit (.bool true)],args := [d0,.lit (.int .i64 n1)] } := by simp [Rows.scriptAgainSpec]
 refine ⟨_,rfl,_,_,_,[],p0,[],hW',?_,?_,?_,hb.frame _,fun h => by cases h⟩
 ·rw [e1];exact trodAll_mk1 (shut_bool Tryz.underlying4 true)
 ·rw [e1]
  have hm := trodAll_cons_mk harg0 (trodAll_mk1 (shut_int Tryz.underlying3 hw1))
  simp only [List.append_nil] at hm
  exact hm
 ·rw [e1];rfl
end Go.Proofs.YtdljhggillgpfaaGreatDoor
