/- CacheKeys, for all texts and lists of texts: the key is the document's answer's, and two commands have one only if they are one. Conditions: the listed package variables start as the program's own text lays them (tied). -/
import Derived.Test.YthokjegephlpmaaDoorCacheKL
import Derived.Test.YthokjegephlpmaaDoorCPut
import Derived.Test.YthokjegephlpmaaDoorCKey
import Derived.Test.YthokjegephlpmaaDoorCLaid
import Derived.Test.YthokjegephlpmaaDoorELaidA
import Derived.Test.YthokjegephlpmaaDoorCards
import Derived.Test.YthokjegephlpmaaDoorTie
namespace Go.Proofs.YthokjegephlpmaaDoor
open Go.ChangeShapes Go.WideShapes Go.ChangeAt Go.WideMaps Go.WideElems Go.RowKit
open Go.ChangeMaps (setBlock shut_map_nil open_string shut_string keptBut_setBlock frozen?_setBlock heap_setBlock_same)

theorem ckeys_met (os : Os) (args : Array Value) : laidMetH Tryd.prog Rows.cacheKeysRow.laid (((World.doorLaid Tryd.prog 260 os).layVars Tryd.prog (Rows.cacheKeysRow.laid.filter fun x => x.2.handleName?.isNone)).forCall (fun _ _ => 0) ⟨#[], args, []⟩).memory :=
  laidMetH_of_parts3 (fuel := 8) (EL.laidMet_layAll args (by kernel_rfl) (by kernel_rfl)) (by kernel_rfl) (by kernel_rfl)

theorem ckeys_powdata : (Rows.laid_internal_strconv_uint64pow10 : DataW Unit) = Lib.tabData .u64 Lib.pow10Tab := by rfl
/-- The table of powers lies there. -/
theorem ckeys_pow {W : World} (h : laidMetH Tryd.prog Rows.cacheKeysRow.laid W) : KPow W := by
  have h1 : laidMet Tryd.prog (("math/bits.deBruijn32tab", Rows.laid_math_bits_deBruijn32tab) :: ("math/bits.deBruijn64tab", Rows.laid_math_bits_deBruijn64tab) :: ("internal/strconv.uint64pow10", Rows.laid_internal_strconv_uint64pow10) :: [("kilnfield/api.ErrBound", Rows.laid_kilnfield_api_ErrBound)]) W := h
  have h3 := h1.tail.tail
  rw [ckeys_powdata] at h3
  exact Lib.tabIs_of_head (g := 13) (t := 121) (e := 99) (n := 20) (by kernel_rfl) (by kernel_rfl) Tryd.underlying121 Tryd.underlying99 (by kernel_rfl) (by kernel_rfl) h3

theorem ckeys_texts {H : Type} {enc : TypeId × Value → H} {W : World} {v : Value} {d : DataW H} {p : List MemPlace} (h : DataW.Trod enc Tryd.prog W 0 (fun _ => true) true 22 v d p) (hsl : ∃ a len cap, v = .slice a len cap) : ∃ l, XRow W v l := by
  obtain ⟨sa, sl, sc, rfl⟩ := hsl
  obtain ⟨fuel, hf⟩ := h
  have hcs : (Value.slice sa sl sc).cells.toList = [.slice sa sl sc] := rfl
  obtain ⟨u, l, hc, hr⟩ := CL.open_texts hf
  rw [hcs] at hc
  obtain rfl : Value.slice sa sl sc = u := by simpa using hc
  exact ⟨l, hr⟩

theorem ckeys_six {H : Type} {enc : TypeId × Value → H} {P : Program} {w : World} {b : Nat} {spare : Nat → Bool} {held : Bool} {t0 t1 t2 t3 t4 t5 : TypeId} {args : Array Value} {ds : List (DataW H)} {ps : List MemPlace} (h : DataW.TrodAll enc P w b spare held [t0, t1, t2, t3, t4, t5] args.toList ds ps) :
    ∃ v0 v1 v2 v3 v4 v5 d0 d1 d2 d3 d4 d5 p0 p1 p2 p3 p4 p5, args = #[v0, v1, v2, v3, v4, v5] ∧ ds = [d0, d1, d2, d3, d4, d5] ∧ ps = p0 ++ (p1 ++ (p2 ++ (p3 ++ (p4 ++ p5)))) ∧ DataW.Trod enc P w b spare held t0 v0 d0 p0 ∧ DataW.Trod enc P w b spare held t1 v1 d1 p1 ∧ DataW.Trod enc P w b spare held t2 v2 d2 p2 ∧ DataW.Trod enc P w b spare held t3 v3 d3 p3 ∧ DataW.Trod enc P w b spare held t4 v4 d4 p4 ∧ DataW.Trod enc P w b spare held t5 v5 d5 p5 := by
  obtain ⟨v0, vs1, d0, ds1, p0, q1, e0, rfl, rfl, h0, hA1⟩ := trodAll_cons h
  obtain ⟨v1, vs2, d1, ds2, p1, q2, rfl, rfl, rfl, h1, hA2⟩ := trodAll_cons hA1
  obtain ⟨v2, vs3, d2, ds3, p2, q3, rfl, rfl, rfl, h2, hA3⟩ := trodAll_cons hA2
  obtain ⟨v3, vs4, d3, ds4, p3, q4, rfl, rfl, rfl, h3, hA4⟩ := trodAll_cons hA3
  obtain ⟨v4, vs5, d4, ds5, p4, q5, rfl, rfl, rfl, h4, hA5⟩ := trodAll_cons hA4
  obtain ⟨v5, vs6, d5, ds6, p5, q6, rfl, rfl, rfl, h5, hA6⟩ := trodAll_cons hA5
  obtain ⟨rfl, rfl, rfl⟩ := trodAll_nil hA6
  exact ⟨v0, v1, v2, v3, v4, v5, d0, d1, d2, d3, d4, d5, p0, p1, p2, p3, p4, p5, by cases args; simp_all, rfl, by simp, h0, h1, h2, h3, h4, h5⟩

set_option maxRecDepth 100000 in
theorem ckeys_lifted (os : Os) (started : os.Started) (H : Type) (enc : TypeId × Value → H) :
    ReturnsInHanded {} Tryd.checked os 3 .any (fun w args => (Rows.cacheKeysSpec.pre enc Tryd.prog Tryd.f3 [] false w args ∧ laidMetH Tryd.prog Rows.cacheKeysRow.laid w) ∧ sizedMet enc Tryd.prog Tryd.f3 (OpenSpec.ofChange Rows.cacheKeysSpec) false w args)
      (Rows.cacheKeysSpec.post enc Tryd.prog Tryd.f3 false true false false) := by
  refine TL.returns_laid_shaped (C := Tryd.checked) (X := fun w _ => laidMetH Tryd.prog Rows.cacheKeysRow.laid w) (fun _ _ _ hh h => h.of_heap hh) TL.own started (by kernel_rfl) Tryd.func3
    (ChangeSpec.witness_shaped (enc := enc) (C := Tryd.checked) (os := os) (X := fun w _ => laidMetH Tryd.prog Rows.cacheKeysRow.laid w) false ((World.doorLaid Tryd.prog 260 os).layVars Tryd.prog (Rows.cacheKeysRow.laid.filter fun x => x.2.handleName?.isNone)) #[.string ⟨#[]⟩, .string ⟨#[]⟩, .slice none 0 0, .string ⟨#[]⟩, .string ⟨#[]⟩, .slice none 0 0] 8 (World.layVars_os _ _ _) (World.shaped_of_ZipB (by kernel_rfl) (by kernel_rfl)) (by kernel_rfl) (by kernel_rfl) (by kernel_rfl) (ckeys_met os _)) ?_
  intro W base args ds gs before hval0 hW _ hL _
  have hval : ∀ (j : Nat) t v, Tryd.f3.params[j]? = some t → args[j]? = some v → Value.okWide Tryd.prog W .any base t v := hval0
  have hW' := hW
  obtain ⟨p, q, hA0, hV, rfl, hfz, hnd⟩ := hW
  have hA : DataW.TrodAll enc Tryd.prog W 0 (fun _ => true) true Tryd.f3.params.toList args.toList ds p := hA0
  rw [Tryd.params3] at hA hval
  obtain ⟨v0, v1, v2, v3, v4, v5, d0, d1, d2, d3, d4, d5, p0, p1, p2, p3, p4, p5, rfl, rfl, rfl, h0, h1, h2, h3, h4, h5⟩ := ckeys_six hA
  obtain ⟨rfl, rfl⟩ := trodVars_none hV
  obtain ⟨s0, rfl, rfl, rfl, hs0⟩ := open_string Tryd.underlying9 (hval 0 9 v0 rfl rfl) h0
  obtain ⟨s1, rfl, rfl, rfl, hs1⟩ := open_string Tryd.underlying9 (hval 1 9 v1 rfl rfl) h1
  obtain ⟨s3, rfl, rfl, rfl, hs3⟩ := open_string Tryd.underlying9 (hval 3 9 v3 rfl rfl) h3
  obtain ⟨s4, rfl, rfl, rfl, hs4⟩ := open_string Tryd.underlying9 (hval 4 9 v4 rfl rfl) h4
  have hsl2 := okWide_slice Tryd.underlying22 (hval 2 22 v2 rfl rfl)
  have hsl5 := okWide_slice Tryd.underlying22 (hval 5 22 v5 rfl rfl)
  obtain ⟨in1, hx1⟩ := ckeys_texts h2 hsl2
  obtain ⟨in2, hx2⟩ := ckeys_texts h5 hsl5
  clear hA0 hval0
  simp only [List.append_nil, List.nil_append] at hW'
  have hlt : ∀ x ∈ p2 ++ p5, x.block < W.heap.size := fun x hx => by simpa using hW'.lt x hx
  have HC := caches (fun _ => ⟨0, 0, none⟩)
  have key := CacheKeys_calls HC (keyTells (ckeys_pow hL)) s0.data.toList s1.data.toList s3.data.toList s4.data.toList v2 v5 in1 in2 hx1 hx2
  rw [← CL.ba_self, ← CL.ba_self, ← CL.ba_self, ← CL.ba_self] at key
  refine key.mono fun e W' ⟨he, hb⟩ => ?_
  subst he
  have harg2 := Below.trod TL.laidOut (by kernel_rfl) (of_decide_eq_true (by kernel_rfl)) h2 hb (fun x hx => hlt x (List.mem_append_left _ hx))
  have harg5 := Below.trod TL.laidOut (by kernel_rfl) (of_decide_eq_true (by kernel_rfl)) h5 hb (fun x hx => hlt x (List.mem_append_right _ hx))
  have e1 : Rows.cacheKeysSpec.fn H ([.lit (.string s0.data.toList), .lit (.string s1.data.toList), d2, .lit (.string s3.data.toList), .lit (.string s4.data.toList), d5] ++ []) = { results := [.lit (.bool true)], args := [.lit (.string s0.data.toList), .lit (.string s1.data.toList), d2, .lit (.string s3.data.toList), .lit (.string s4.data.toList), d5] } := by simp [Rows.cacheKeysSpec]
  refine ⟨_, rfl, _, _, _, [], p2 ++ p5, [], hW', ?_, ?_, ?_, hb.frame _, fun h => by cases h⟩
  · rw [e1]; exact trodAll_mk1 (shut_bool Tryd.underlying4 true)
  · rw [e1]
    have hm := trodAll_cons_mk (shut_string Tryd.underlying9 hs0) (trodAll_cons_mk (shut_string Tryd.underlying9 hs1) (trodAll_cons_mk harg2 (trodAll_cons_mk (shut_string Tryd.underlying9 hs3) (trodAll_cons_mk (shut_string Tryd.underlying9 hs4) (trodAll_mk1 harg5)))))
    simp only [List.nil_append] at hm
    exact hm
  · rw [e1]; rfl

theorem ckeys_holds : Rows.CacheKeysSaid :=
  OpenClaim.holds_of_wide 3 Tryd.f3 rfl rfl rfl rfl rfl rfl rfl ⟨rfl, rfl, rfl, rfl, rfl⟩ rfl rfl rfl rfl rfl (by kernel_rfl) Tryd.func3 (by kernel_rfl)
    (of_decide_eq_true (by kernel_rfl)) (by unfold Func.isWrapper; first | (rw [if_pos (by decide +kernel)]; kernel_rfl) | (rw [if_neg (by decide +kernel)]; exact ⟨rfl, rfl⟩))
    (fun os started H enc _ => ckeys_lifted os started H enc)

theorem ckeys_card : Rows.CacheKeysCardSaid :=
  Claim7.holds_tied_plain_at .later [] _ _ _ _ ckeys_holds (fun _ h => by cases h) (by kernel_rfl) (fun _ h => by cases h) cacheKeys_row_tie rfl ⟨rfl, rfl⟩ (by kernel_rfl) rfl
    (fun f fn hf hfn => by
      obtain rfl : f = 3 := Option.some.inj ((show Tryd.prog.funcNamed Rows.cacheKeysRow.func = some 3 by kernel_rfl).symm.trans hf) |>.symm
      obtain rfl : fn = Tryd.f3 := (Option.some.inj (Tryd.func3.symm.trans hfn)).symm
      refine ⟨by kernel_rfl, fun j t ht => ?_⟩
      rw [Tryd.params3] at ht
      have hm := Array.mem_of_getElem? ht
      have h6 : ∀ x ∈ [9, 9, 22, 9, 9, 22], x = 9 ∨ x = 22 := by decide
      have hm' : t = 9 ∨ t = 22 := h6 t (by simpa using hm)
      rcases hm' with rfl | rfl
      · exact (show Tryd.prog.wantsStandIn 9 = false by kernel_rfl)
      · exact (show Tryd.prog.wantsStandIn 22 = false by kernel_rfl))
    (by kernel_rfl)
#print axioms ckeys_card
end Go.Proofs.YthokjegephlpmaaDoor
