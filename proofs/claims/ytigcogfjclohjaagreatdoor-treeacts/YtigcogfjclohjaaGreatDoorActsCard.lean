/- TreeActs, for every list of acts: after each act package tree's tree holds what the document's answer holds, with the same error's number, and in the end the same text and paths. Conditions: the listed package variables start as the program's own text lays them (tied). -/
import Derived.Test.YtigcogfjclohjaaGreatDoorTreeActs
import Derived.Test.YtigcogfjclohjaaGreatDoorELaid
import Derived.Test.YtigcogfjclohjaaGreatDoorCards
import Derived.Test.YtigcogfjclohjaaGreatDoorTie
namespace Go.Proofs.YtigcogfjclohjaaGreatDoor
open Go.ChangeShapes Go.WideShapes Go.ChangeAt Go.WideMaps Go.WideElems Go.RowKit
open Go.ChangeMaps (setBlock shut_map_nil open_string shut_string keptBut_setBlock frozen?_setBlock heap_setBlock_same)

theorem acts_laid {W : World} (h : laidMetH Tryz.prog Rows.treeActsRow.laid W) : (∃ es, E12 W es) ∧ Pow W := by
  have e1 : (Rows.treeActsRow.laid.filter fun x => x.2.handleName?.isNone) = ("math/bits.deBruijn32tab", Rows.laid_math_bits_deBruijn32tab) :: ("math/bits.deBruijn64tab", Rows.laid_math_bits_deBruijn64tab) :: ("internal/strconv.uint64pow10", Rows.laid_internal_strconv_uint64pow10) :: ("unicode/utf8.acceptRanges", Rows.laid_unicode_utf8_acceptRanges) :: (EL.twelve.map (fun x => (x.1, EL.sd x.2.1)) ++ [("unicode/utf8.first", Rows.laid_unicode_utf8_first)]) := by kernel_rfl
  have h1 : laidMet Tryz.prog (Rows.treeActsRow.laid.filter fun x => x.2.handleName?.isNone) W := h.1
  rw [e1] at h1
  have h2 : handlesMet Tryz.prog (Rows.treeActsRow.laid.filter fun x => x.2.handleName?.isSome) W := h.2
  have e2 : (Rows.treeActsRow.laid.filter fun x => x.2.handleName?.isSome) = [("errors.errorType", Rows.laid_errors_errorType)] := by kernel_rfl
  rw [e2] at h2
  have h3 := h1.tail.tail
  exact ⟨EL.e12_of h3.tail.tail (EL.handle_of h2 (List.mem_singleton.2 rfl)), TL.pow_laid h3⟩

theorem acts_met (os : Os) (args : Array Value) : laidMetH Tryz.prog Rows.treeActsRow.laid (((World.doorLaid Tryz.prog 370 os).layVars Tryz.prog (Rows.treeActsRow.laid.filter fun x => x.2.handleName?.isNone)).forCall (fun _ _ => 0) ⟨#[], args, []⟩).memory :=
  laidMetH_of_parts3 (fuel := 8) (EL.laidMet_layAll args (by kernel_rfl) (by kernel_rfl)) (by kernel_rfl) (by kernel_rfl)

/-- TreeActs at whatever came in. -/
theorem acts_any {H : Type} {enc : TypeId × Value → H} {W : World} {v0 : Value} {d0 : DataW H} {p : List MemPlace} {ts : List TypeId} (h0 : DataW.Trod enc Tryz.prog W 0 (fun _ => true) true 34 v0 d0 p) (hsl : ∃ a len cap, v0 = .slice a len cap) (hz : (DataW.weightsEach Tryz.prog (34 :: ts) [d0]).all (· ≤ reachBytes) = true) (hL : laidMetH Tryz.prog Rows.treeActsRow.laid W) (hsh : W.ShapedOpen Tryz.prog) :
    Calls Tryz.prog 5 #[v0] W fun e w' => e = .returned (.bool true) ∧ Below W.heap.size W w' := by
  obtain ⟨⟨es, hE⟩, hP⟩ := acts_laid hL
  obtain ⟨m, hm⟩ := TL.maxLen_cell hsh
  obtain ⟨sa, sl, sc, rfl⟩ := hsl
  obtain ⟨fuel, hf⟩ := h0
  rcases TL.open_acts hf with hc | ⟨a, len, cap, I, spare, hc, hx, hin⟩
  · have : (Value.slice sa sl sc).cells.toList = [.slice sa sl sc] := rfl
    rw [this] at hc
    obtain ⟨rfl, rfl, rfl⟩ : sa = none ∧ sl = 0 ∧ sc = 0 := by simpa using hc
    exact TreeActs_few W es hE hP m hm none 0 [] (by simp) (by simp) (by simp)
  · have : (Value.slice sa sl sc).cells.toList = [.slice sa sl sc] := rfl
    rw [this] at hc
    obtain ⟨rfl, rfl, rfl⟩ : sa = some a ∧ sl = len ∧ sc = cap := by simpa using hc
    simp only at hx
    subst hx
    rcases Nat.lt_or_ge 80 sl with hn | hn
    · exact TreeActs_many W _ hE.terr hP (some a) sl sc hn
    · have hll : ((List.range sl).map fun i => ((I i).1.data.toList, (I i).2.1.data.toList, (I i).2.2.data.toList)).length = sl := by simp
      have := TreeActs_few W es hE hP m hm (some a) sc ((List.range sl).map fun i => ((I i).1.data.toList, (I i).2.1.data.toList, (I i).2.2.data.toList)) (by simpa using hn) (fun x hx => by
        obtain ⟨i, hi, rfl⟩ := List.mem_map.1 hx
        obtain ⟨z1, z2⟩ := TL.act_sizes (q := I i) hz (List.mem_map.2 ⟨i, hi, rfl⟩)
        exact ⟨Nat.le_trans z1 (by decide), Nat.le_trans z2 (by decide)⟩) (fun hne => by
        have h0 : 0 < sl := by
          rcases Nat.eq_zero_or_pos sl with e | e
          · subst e; simp at hne
          · exact e
        have hs : a.spot = none := World.cell?_spot (a := a.add (0 * 3)) (hin 0 h0).1
        obtain ⟨ab, ao, sp⟩ := a
        cases hs
        refine ⟨ab, ao, rfl, lt_of_cell (hin 0 h0).1, fun j hj => ?_⟩
        rw [hll] at hj
        obtain ⟨c0, c1, c2⟩ := hin j hj
        rw [add_plain] at c0 c1 c2
        rw [← Nat.add_assoc] at c1 c2
        simp only [List.getElem_map, List.getElem_range]
        exact ⟨c0.trans (congrArg (fun s => some (Value.string s)) (TL.ba_self _)), c1.trans (congrArg (fun s => some (Value.string s)) (TL.ba_self _)), c2.trans (congrArg (fun s => some (Value.string s)) (TL.ba_self _))⟩)
      rw [hll] at this
      exact this
set_option maxRecDepth 100000 in
theorem acts_lifted (os : Os) (started : os.Started) (H : Type) (enc : TypeId × Value → H) :
    ReturnsInHanded {} Tryz.checked os 5 .any (fun w args => (Rows.treeActsSpec.pre enc Tryz.prog Tryz.f5 [] false w args ∧ laidMetH Tryz.prog Rows.treeActsRow.laid w) ∧ sizedMet enc Tryz.prog Tryz.f5 (OpenSpec.ofChange Rows.treeActsSpec) false w args)
      (Rows.treeActsSpec.post enc Tryz.prog Tryz.f5 false true false false) := by
  refine TL.returns_laid_shaped (C := Tryz.checked) (X := fun w _ => laidMetH Tryz.prog Rows.treeActsRow.laid w) (fun _ _ _ hh h => h.of_heap hh) TL.own started (by kernel_rfl) Tryz.func5
    (ChangeSpec.witness_shaped (enc := enc) (C := Tryz.checked) (os := os) (X := fun w _ => laidMetH Tryz.prog Rows.treeActsRow.laid w) false ((World.doorLaid Tryz.prog 370 os).layVars Tryz.prog (Rows.treeActsRow.laid.filter fun x => x.2.handleName?.isNone)) #[.slice none 0 0] 8 (World.layVars_os _ _ _) (World.shaped_of_ZipB (by kernel_rfl) (by kernel_rfl)) (by kernel_rfl) (by kernel_rfl) (by kernel_rfl) (acts_met os _)) ?_
  intro W base args ds gs before hval0 hW hsh hL hz0
  have hz : (DataW.weightsEach Tryz.prog (Tryz.f5.params.toList ++ Rows.treeActsSpec.plain.varTypes Tryz.prog) (ds ++ gs)).all (· ≤ reachBytes) = true := hz0
  clear hz0
  have hval : ∀ (j : Nat) t v, Tryz.f5.params[j]? = some t → args[j]? = some v → Value.okWide Tryz.prog W .any base t v := hval0
  have hW' := hW
  obtain ⟨p, q, hA0, hV, rfl, hfz, hnd⟩ := hW
  have hA : DataW.TrodAll enc Tryz.prog W 0 (fun _ => true) true Tryz.f5.params.toList args.toList ds p := hA0
  rw [Tryz.params5] at hA hval hz
  obtain ⟨v0, d0, rfl, rfl, h0⟩ := trodAll_one hA
  obtain ⟨rfl, rfl⟩ := trodVars_none hV
  have hsl := okWide_slice Tryz.underlying34 (hval 0 34 v0 rfl rfl)
  clear hA0 hval0
  simp only [List.append_nil] at hW'
  have hlt : ∀ x ∈ p, x.block < W.heap.size := fun x hx => by simpa using hW'.lt x hx
  refine (acts_any h0 hsl hz hL hsh).mono fun e W' ⟨he, hb⟩ => ?_
  subst he
  have harg := Below.trod TL.laidOut (by kernel_rfl) (of_decide_eq_true (by kernel_rfl)) h0 hb hlt
  have e1 : Rows.treeActsSpec.fn H ([d0] ++ []) = { results := [.lit (.bool true)], args := [d0] } := by simp [Rows.treeActsSpec]
  refine ⟨_, rfl, _, _, _, [], p, [], hW', ?_, ?_, ?_, hb.frame _, fun h => by cases h⟩
  · rw [e1]; exact trodAll_mk1 (shut_bool Tryz.underlying4 true)
  · rw [e1]; exact trodAll_mk1 harg
  · rw [e1]; rfl

theorem acts_holds : Rows.TreeActsSaid :=
  OpenClaim.holds_of_wide 5 Tryz.f5 rfl rfl rfl rfl rfl rfl rfl ⟨rfl, rfl, rfl, rfl, rfl⟩ rfl rfl rfl rfl rfl (by kernel_rfl) Tryz.func5 (by kernel_rfl)
    (of_decide_eq_true (by kernel_rfl)) (by unfold Func.isWrapper; first | (rw [if_pos (by decide +kernel)]; kernel_rfl) | (rw [if_neg (by decide +kernel)]; exact ⟨rfl, rfl⟩))
    (fun os started H enc _ => acts_lifted os started H enc)

theorem acts_card : Rows.TreeActsCardSaid :=
  Claim7.holds_tied_plain_at .later [] _ _ _ _ acts_holds (fun _ h => by cases h) (by kernel_rfl) (fun _ h => by cases h) treeActs_row_tie rfl ⟨rfl, rfl⟩ (by kernel_rfl) rfl
    (fun f fn hf hfn => by
      obtain rfl : f = 5 := Option.some.inj ((show Tryz.prog.funcNamed Rows.treeActsRow.func = some 5 by kernel_rfl).symm.trans hf) |>.symm
      obtain rfl : fn = Tryz.f5 := (Option.some.inj (Tryz.func5.symm.trans hfn)).symm
      refine ⟨by kernel_rfl, fun j t ht => ?_⟩
      rw [Tryz.params5] at ht
      obtain rfl : t = 34 := by simpa using Array.mem_of_getElem? ht
      exact (show Tryz.prog.wantsStandIn 34 = false by kernel_rfl))
    (by kernel_rfl)
#print axioms acts_card
end Go.Proofs.YtigcogfjclohjaaGreatDoor
