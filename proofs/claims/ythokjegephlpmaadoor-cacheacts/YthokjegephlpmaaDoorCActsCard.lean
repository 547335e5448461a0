/- CacheActs, for every number and every list of asks: the cache does what the document's answer does. Conditions: the listed package variables start as the program's own text lays them (tied). -/
import Derived.Test.YthokjegephlpmaaDoorCacheA
import Derived.Test.YthokjegephlpmaaDoorCPut
import Derived.Test.YthokjegephlpmaaDoorCLaid
import Derived.Test.YthokjegephlpmaaDoorELaidA
import Derived.Test.YthokjegephlpmaaDoorCards
import Derived.Test.YthokjegephlpmaaDoorTie
namespace Go.Proofs.YthokjegephlpmaaDoor
open Go.ChangeShapes Go.WideShapes Go.ChangeAt Go.WideMaps Go.WideElems Go.RowKit
open Go.ChangeMaps (setBlock shut_map_nil open_string shut_string keptBut_setBlock frozen?_setBlock heap_setBlock_same)

theorem cacts_laid {W : World} (h : laidMetH Tryd.prog Rows.cacheActsRow.laid W) : ∃ es, E12 W es := by
  have e1 : (Rows.cacheActsRow.laid.filter fun x => x.2.handleName?.isNone) = EL.twelve.map (fun x => (x.1, EL.sd x.2.1)) ++ [] := by kernel_rfl
  have h1 : laidMet Tryd.prog (Rows.cacheActsRow.laid.filter fun x => x.2.handleName?.isNone) W := h.1
  rw [e1] at h1
  have h2 : handlesMet Tryd.prog (Rows.cacheActsRow.laid.filter fun x => x.2.handleName?.isSome) W := h.2
  have e2 : (Rows.cacheActsRow.laid.filter fun x => x.2.handleName?.isSome) = [("errors.errorType", Rows.laid_errors_errorType)] := by kernel_rfl
  rw [e2] at h2
  exact EL.e12_of h1 (EL.handle_of h2 (List.mem_singleton.2 rfl))

theorem cacts_met (os : Os) (args : Array Value) : laidMetH Tryd.prog Rows.cacheActsRow.laid (((World.doorLaid Tryd.prog 260 os).layVars Tryd.prog (Rows.cacheActsRow.laid.filter fun x => x.2.handleName?.isNone)).forCall (fun _ _ => 0) ⟨#[], args, []⟩).memory :=
  laidMetH_of_parts3 (fuel := 8) (EL.laidMet_layAll args (by kernel_rfl) (by kernel_rfl)) (by kernel_rfl) (by kernel_rfl)

/-- CacheActs at whatever came in. -/
theorem cacts_any {H : Type} {enc : TypeId × Value → H} {W : World} (n : Int) (hn : (Lit.int .i64 n).wf = true) {v1 : Value} {d1 : DataW H} {p : List MemPlace} (h1 : DataW.Trod enc Tryd.prog W 0 (fun _ => true) true 29 v1 d1 p) (hsl : ∃ a len cap, v1 = .slice a len cap) (hL : laidMetH Tryd.prog Rows.cacheActsRow.laid W) :
    Calls Tryd.prog 5 #[.int .i64 n, v1] W fun e w' => e = .returned (.bool true) ∧ Below W.heap.size W w' := by
  obtain ⟨sa, sl, sc, rfl⟩ := hsl
  obtain ⟨fuel, hf⟩ := h1
  have hcs : (Value.slice sa sl sc).cells.toList = [.slice sa sl sc] := rfl
  obtain ⟨v, l, hc, hr⟩ := CL.open_asks hf
  rw [hcs] at hc
  obtain rfl : Value.slice sa sl sc = v := by simpa using hc
  obtain ⟨es, hE⟩ := cacts_laid hL
  have HC := caches es
  have hb : -9223372036854775808 ≤ n ∧ n ≤ 9223372036854775807 := by
    simp [Lit.wf, show IntKind.i64.min = -9223372036854775808 from rfl, show IntKind.i64.max = 9223372036854775807 from rfl] at hn
    omega
  exact CacheActs_calls hE HC n hb.1 hb.2 _ l hr

set_option maxRecDepth 100000 in
theorem cacts_lifted (os : Os) (started : os.Started) (H : Type) (enc : TypeId × Value → H) :
    ReturnsInHanded {} Tryd.checked os 5 .any (fun w args => (Rows.cacheActsSpec.pre enc Tryd.prog Tryd.f5 [] false w args ∧ laidMetH Tryd.prog Rows.cacheActsRow.laid w) ∧ sizedMet enc Tryd.prog Tryd.f5 (OpenSpec.ofChange Rows.cacheActsSpec) false w args)
      (Rows.cacheActsSpec.post enc Tryd.prog Tryd.f5 false true false false) := by
  refine TL.returns_laid_shaped (C := Tryd.checked) (X := fun w _ => laidMetH Tryd.prog Rows.cacheActsRow.laid w) (fun _ _ _ hh h => h.of_heap hh) TL.own started (by kernel_rfl) Tryd.func5
    (ChangeSpec.witness_shaped (enc := enc) (C := Tryd.checked) (os := os) (X := fun w _ => laidMetH Tryd.prog Rows.cacheActsRow.laid w) false ((World.doorLaid Tryd.prog 260 os).layVars Tryd.prog (Rows.cacheActsRow.laid.filter fun x => x.2.handleName?.isNone)) #[.int .i64 0, .slice none 0 0] 8 (World.layVars_os _ _ _) (World.shaped_of_ZipB (by kernel_rfl) (by kernel_rfl)) (by kernel_rfl) (by kernel_rfl) (by kernel_rfl) (cacts_met os _)) ?_
  intro W base args ds gs before hval0 hW _ hL _
  have hval : ∀ (j : Nat) t v, Tryd.f5.params[j]? = some t → args[j]? = some v → Value.okWide Tryd.prog W .any base t v := hval0
  have hW' := hW
  obtain ⟨p, q, hA0, hV, rfl, hfz, hnd⟩ := hW
  have hA : DataW.TrodAll enc Tryd.prog W 0 (fun _ => true) true Tryd.f5.params.toList args.toList ds p := hA0
  rw [Tryd.params5] at hA hval
  obtain ⟨v0, v1, d0, d1, p0, p1, rfl, rfl, rfl, h0, h1⟩ := trodAll_two hA
  obtain ⟨rfl, rfl⟩ := trodVars_none hV
  obtain ⟨n, rfl, rfl, rfl, hn⟩ := open_int Tryd.underlying3 (hval 0 3 v0 rfl rfl) h0
  have hsl := okWide_slice Tryd.underlying29 (hval 1 29 v1 rfl rfl)
  clear hA0 hval0
  simp only [List.append_nil, List.nil_append] at hW'
  have hlt : ∀ x ∈ p1, x.block < W.heap.size := fun x hx => by simpa using hW'.lt x hx
  refine (cacts_any n hn h1 hsl hL).mono fun e W' ⟨he, hb⟩ => ?_
  subst he
  have harg := Below.trod TL.laidOut (by kernel_rfl) (of_decide_eq_true (by kernel_rfl)) h1 hb hlt
  have e1 : Rows.cacheActsSpec.fn H ([.lit (.int .i64 n), d1] ++ []) = { results := [.lit (.bool true)], args := [.lit (.int .i64 n), d1] } := by simp [Rows.cacheActsSpec]
  refine ⟨_, rfl, _, _, _, [], p1, [], hW', ?_, ?_, ?_, hb.frame _, fun h => by cases h⟩
  · rw [e1]; exact trodAll_mk1 (shut_bool Tryd.underlying4 true)
  · rw [e1]
    have h2 := trodAll_mk2 (shut_int Tryd.underlying3 hn) harg
    rw [List.nil_append] at h2
    exact h2
  · rw [e1]; rfl

theorem cacts_holds : Rows.CacheActsSaid :=
  OpenClaim.holds_of_wide 5 Tryd.f5 rfl rfl rfl rfl rfl rfl rfl ⟨rfl, rfl, rfl, rfl, rfl⟩ rfl rfl rfl rfl rfl (by kernel_rfl) Tryd.func5 (by kernel_rfl)
    (of_decide_eq_true (by kernel_rfl)) (by unfold Func.isWrapper; first | (rw [if_pos (by decide +kernel)]; kernel_rfl) | (rw [if_neg (by decide +kernel)]; exact ⟨rfl, rfl⟩))
    (fun os started H enc _ => cacts_lifted os started H enc)

theorem cacts_card : Rows.CacheActsCardSaid :=
  Claim7.holds_tied_plain_at .later [] _ _ _ _ cacts_holds (fun _ h => by cases h) (by kernel_rfl) (fun _ h => by cases h) cacheActs_row_tie rfl ⟨rfl, rfl⟩ (by kernel_rfl) rfl
    (fun f fn hf hfn => by
      obtain rfl : f = 5 := Option.some.inj ((show Tryd.prog.funcNamed Rows.cacheActsRow.func = some 5 by kernel_rfl).symm.trans hf) |>.symm
      obtain rfl : fn = Tryd.f5 := (Option.some.inj (Tryd.func5.symm.trans hfn)).symm
      refine ⟨by kernel_rfl, fun j t ht => ?_⟩
      rw [Tryd.params5] at ht
      have hm := Array.mem_of_getElem? ht
      have hm' : t = 3 ∨ t = 29 := by simpa using hm
      rcases hm' with rfl | rfl
      · exact (show Tryd.prog.wantsStandIn 3 = false by kernel_rfl)
      · exact (show Tryd.prog.wantsStandIn 29 = false by kernel_rfl))
    (by kernel_rfl)
#print axioms cacts_card
end Go.Proofs.YthokjegephlpmaaDoor
