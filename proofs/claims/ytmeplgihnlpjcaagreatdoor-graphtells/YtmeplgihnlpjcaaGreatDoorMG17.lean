/- What the listed variables and the world's shape give a walk. -/
import Derived.Test.YtmeplgihnlpjcaaGreatDoorMG2
import Derived.Test.YtmeplgihnlpjcaaGreatDoorRows
import Derived.ProofKit
import Derived.LaidMore
import Derived.OpenShut
import Derived.Stop.Joined
import Derived.Stop.LaidErr
import Derived.Lay
import Derived.HandedShaped
import Derived.Shelf.Vars
import Derived.Lib.LaidTab
import Derived.Deep.Slices
import Derived.Deep.Strs
import Derived.Carry
import Derived.SizedLaws
import Derived.SliceStrings
import Derived.Lib.SmallJoins
import Derived.Test.YtmeplgihnlpjcaaGreatDoorCode
import Derived.LaidHandle
namespace Go.Proofs.YtmeplgihnlpjcaaGreatDoor.TL
open Go.ChangeShapes Go.WideShapes Go.ChangeAt Go.WideMaps Go.WideElems Go.RowKit Go.Deep

theorem own : ownKnob Tryz.prog.godebug = none := by kernel_rfl
theorem laidOut : laidOutB Tryz.prog = true := by kernel_rfl
theorem starES : "*" ++ "errors.errorString" = "*errors.errorString" := by decide
theorem rowES (u : TypeId) (h : Tryz.prog.typeName? 3 u = some "*errors.errorString") : u = 262 :=
  typeName_ptr_named (nm := "errors.errorString") (by rw [starES]; kernel_rfl) (by kernel_rfl) (by decide) u (by rw [starES]; exact h)
theorem cellsES : Tryz.prog.cellsOf 264 = 1 := by kernel_rfl
theorem cellsStr : Tryz.prog.cellsOf 9 = 1 := by kernel_rfl
section
variable {H : Type} {enc : TypeId × Value → H}
/-- The wrap of a row that lists variables, and whose walk wants the world's shape too. -/
theorem returns_laid_shaped {a : Assume} {C : Checked} {os : Os} {f : FuncId} {fn : Func} {s : ChangeSpec} {conds : List PathCond} {apart fresh handsOn again : Bool} {X : World → Array Value → Prop}
    (hX : ∀ (w w' : World) (args : Array Value), w.heap = w'.heap → X w args → X w' args)
    (own : ownKnob C.prog.godebug = none) (started : os.Started) (noInit : C.prog.inits.idxOf? f = none) (hfn : C.prog.funcs[f]? = some fn)
    (witness : ∃ (w : World) (tape : Tape) (i : Input), w.os = os ∧ (w.forCall tape i).Shaped C.prog ∧ i.vars = [] ∧ Input.okWide C.prog (w.forCall tape i) .any w.heap.size f i ∧
      ((s.pre enc C.prog fn conds apart (w.forCall tape i).memory i.args ∧ X (w.forCall tape i).memory i.args) ∧ sizedMet enc C.prog fn (OpenSpec.ofChange s) apart (w.forCall tape i).memory i.args) ∧ a.holds C.prog (lone (Frame.enter C.prog f i.args .normal) [] (w.forCall tape i)))
    (contract : ∀ (W : World) (base : Nat) (args : Array Value) (ds gs : List (DataW H)) (before : List MemPlace),
      (∀ (j : Nat) t v, fn.params[j]? = some t → args[j]? = some v → Value.okWide C.prog W .any base t v) →
      DataW.Whole enc C.prog fn.params.toList s.vars apart W args.toList ds gs before →
      W.ShapedOpen C.prog → X W args → (DataW.weightsEach C.prog (fn.params.toList ++ s.plain.varTypes C.prog) (ds ++ gs)).all (· ≤ reachBytes) = true →
      Calls C.prog f args W fun e W' => ∃ v, e = .returned v ∧ s.post enc C.prog fn apart fresh handsOn again W args v W') :
    ReturnsInHanded a C os f .any (fun w args => (s.pre enc C.prog fn conds apart w args ∧ X w args) ∧ sizedMet enc C.prog fn (OpenSpec.ofChange s) apart w args) (s.post enc C.prog fn apart fresh handsOn again) := by
  refine returnsInHanded_of_calls own started noInit witness ?_
  intro w tape i _ hsh _ hok hpre _
  obtain ⟨_, _, _, fn', hfn', _, _, _, _, hval⟩ := hok
  have e : fn' = fn := Option.some.inj (hfn'.symm.trans hfn)
  subst e
  obtain ⟨⟨⟨ds, gs, before, hw, _⟩, hx⟩, hz⟩ := hpre
  have hw' := DataW.Whole.of_heap (w' := w.forCall tape i) (by rfl) hw
  refine (contract (w.forCall tape i) w.heap.size i.args ds gs before hval hw' hsh (hX _ _ _ (by rfl) hx) (hz.weights hw)).mono fun e W' ⟨v, he, hp⟩ => ?_
  subst he
  exact ChangeSpec.post_blind hp

end

theorem sentinel1 {n : String} {text : List UInt8} {r : List (String × DataW Unit)} {W : World} (g : Nat)
    (h : laidMet Tryz.prog ((n, .iface "*errors.errorString" (.ptr (.agg [.lit (.string text)]))) :: r) W)
    (hg : Tryz.prog.globalNamed n = some g) (ht : (Tryz.prog.globals[g]?).map (·.type) = some 27) :
    ∃ a : Addr, W.cell? ⟨g, 0, none⟩ = some (.iface 262 (.pointer (some a))) := by
  obtain ⟨a, s, hv, _⟩ := laid_sentinel h hg ht Tryz.underlying27 rowES Tryz.underlying262 Tryz.underlying264 rfl rfl Tryz.underlying9 cellsES cellsStr
  exact ⟨a, by simpa using World.var?_cell hg hv 0⟩

theorem maxLen_cell {W : World} (h : W.ShapedOpen Tryz.prog) : ∃ m, W.cell? ⟨13, 0, none⟩ = some (.int .i64 m) :=
  cell_of_shapedOpen_int (P := Tryz.prog) (t := 3) (zero := #[.int .i64 0]) h (of_decide_eq_true (by kernel_rfl)) (by kernel_rfl) rfl (by kernel_rfl) (by kernel_rfl) Tryz.underlying3

theorem pow_data : (Rows.laid_internal_strconv_uint64pow10 : DataW Unit) = Lib.tabData .u64 Lib.pow10Tab := by rfl
theorem pow_laid {W : World} {r : List (String × DataW Unit)} (h : laidMet Tryz.prog (("internal/strconv.uint64pow10", Rows.laid_internal_strconv_uint64pow10) :: r) W) : Pow W := by
  rw [pow_data] at h
  exact Lib.tabIs_of_head (g := 14) (t := 251) (e := 121) (n := 20) (by kernel_rfl) (by kernel_rfl) Tryz.underlying251 Tryz.underlying121 (by kernel_rfl) (by kernel_rfl) h

theorem ba_self (s : ByteArray) : s = ba s.data.toList := rfl

theorem len_size (s : ByteArray) : s.data.toList.length = s.size := by rw [Array.length_toList]; rfl

end Go.Proofs.YtmeplgihnlpjcaaGreatDoor.TL
/- Rules that came in, opened. -/
namespace Go.Proofs.YtmeplgihnlpjcaaGreatDoor.GL
open Go.ChangeShapes Go.WideShapes Go.ChangeAt Go.WideMaps Go.WideElems Go.RowKit Go.Deep

theorem cellsRule : Tryz.prog.cellsOf 57 = 4 := by kernel_rfl
theorem cellsStrs : Tryz.prog.cellsOf 34 = 1 := by kernel_rfl
theorem ba_self (s : ByteArray) : s = ba s.data.toList := by
  apply ByteArray.ext
  simp

instance : Inhabited Ru := ⟨⟨[], [], [], []⟩⟩

section
variable {H : Type} {enc : TypeId × Value → H}
/-- Texts that came in. -/
theorem open_texts {W : World} {sp : Nat → Bool} {fuel : Nat} {cs : List Value} {x : DataW H × List MemPlace} (h : DataW.trod enc Tryz.prog W 0 sp true fuel 34 cs = some x) : ∃ v ls, cs = [v] ∧ XRow W v ls := by
  rcases open_strings Tryz.underlying34 Tryz.underlying9 TL.cellsStr h with ⟨hc, _⟩ | ⟨a, len, cap, ss, hc, _, hlc, _, hsl, _, hin, _⟩
  · exact ⟨_, [], hc, XRow.nil W⟩
  · have hle : len ≤ ss.length := by rw [hsl]; split <;> omega
    have hlen : ((ss.take len).map fun s => s.data.toList).length = len := by simp; omega
    refine ⟨_, (ss.take len).map fun s => s.data.toList, hc, some a, cap, by rw [hlen], by omega, fun h => (by cases h), fun hne => ?_⟩
    have h0 : 0 < len := by
      rcases Nat.eq_zero_or_pos len with e | e
      · subst e; simp at hne
      · exact e
    have hs : a.spot = none := World.cell?_spot (a := a.add 0) (hin 0 (by omega))
    obtain ⟨ab, ao, spt⟩ := a
    cases hs
    refine ⟨ab, ao, rfl, lt_of_cell (hin 0 (by omega)), fun j hj => ?_⟩
    rw [hlen] at hj
    have hc := hin j (by omega)
    rw [add_at2] at hc
    rw [hc, List.getElem_map, List.getElem_take, ← ba_self]
    have hjl : j < ss.length := by omega
    rw [List.getD_eq_getElem?_getD, List.getElem?_eq_getElem hjl]
    rfl

set_option maxRecDepth 100000 in
/-- Rules that came in. -/
theorem open_rules {W : World} {sp : Nat → Bool} {fuel : Nat} {cs : List Value} {x : DataW H × List MemPlace} (h : DataW.trod enc Tryz.prog W 0 sp true fuel 22 cs = some x) : ∃ v l, cs = [v] ∧ RRow W v l := by
  rcases open_slice Tryz.underlying22 h with h0 | ⟨a, len, cap, m, n, D, Pl, rfl, hb, hl, hm, hmm, rfl, hx⟩
  · exact ⟨_, [], h0.1, RRow.nil W⟩
  have hlm : len ≤ m := by rw [hmm]; split <;> omega
  have each : ∀ i, i < m → ∃ r : Ru, W.cell? (a.add (i * 4)) = some (.string (ba r.out)) ∧ W.cell? (a.add (i * 4 + 1)) = some (.string (ba r.kind)) ∧ W.cell? (a.add (i * 4 + 2)) = some (.string (ba r.word)) ∧ ∃ u, W.cell? (a.add (i * 4 + 3)) = some u ∧ XRow W u r.ins := by
    intro i hi
    obtain ⟨cs', h1, h2⟩ := hx i hi
    rw [cellsRule] at h1
    obtain ⟨_, hlen, hcell⟩ := World.cells?_some h1
    obtain ⟨y0, y1, y2, y3, k, hxy, _, u0, u1, u2, u3⟩ := Go.Joins.trod_struct4 Tryz.underlying57 h2
    match cs', hlen with
    | [v0, v1, v2, v3], _ =>
      simp only [TL.cellsStr, cellsStrs, List.drop, List.take] at u0 u1 u2 u3
      obtain ⟨s0, e0, d0, _⟩ := DataW.trod_string Tryz.underlying9 u0
      obtain ⟨s1, e1, d1, _⟩ := DataW.trod_string Tryz.underlying9 u1
      obtain ⟨s2, e2, d2, _⟩ := DataW.trod_string Tryz.underlying9 u2
      obtain ⟨u, ls, e3, hX⟩ := open_texts u3
      simp only [List.cons.injEq, and_true] at e0 e1 e2 e3
      subst e0; subst e1; subst e2; subst e3
      have c0 := hcell 0 (by omega)
      have c1 := hcell 1 (by omega)
      have c2 := hcell 2 (by omega)
      have c3 := hcell 3 (by omega)
      rw [add_add] at c0 c1 c2 c3
      exact ⟨⟨s0.data.toList, s1.data.toList, s2.data.toList, ls⟩, by rw [← ba_self]; simpa using c0, by rw [← ba_self]; simpa using c1, by rw [← ba_self]; simpa using c2, _, by simpa using c3, hX⟩
  obtain ⟨q, hq⟩ := choose_lt (α := Ru) each
  refine ⟨_, (List.range len).map q, rfl, some a, cap, by simp, by simp; omega, fun h => (by cases h), fun hne => ?_⟩
  have h0 : 0 < len := by
    rcases Nat.eq_zero_or_pos len with e | e
    · subst e; simp at hne
    · exact e
  have hs : a.spot = none := World.cell?_spot (a := a.add (0 * 4)) (hq 0 (by omega)).1
  obtain ⟨ab, ao, spt⟩ := a
  cases hs
  refine ⟨ab, ao, rfl, lt_of_cell (hq 0 (by omega)).1, fun j hj => ?_⟩
  have hjl : j < len := by simpa using hj
  obtain ⟨c0, c1, c2, u, c3, hX⟩ := hq j (by omega)
  rw [add_at2] at c0 c1 c2 c3
  rw [← Nat.add_assoc] at c1 c2 c3
  simp only [List.getElem_map, List.getElem_range]
  exact ⟨c0, c1, c2, u, c3, hX⟩
end
end Go.Proofs.YtmeplgihnlpjcaaGreatDoor.GL
/- What the world's shape gives: how great memory is at least. -/
namespace Go.Proofs.YtmeplgihnlpjcaaGreatDoor
open Go.ChangeShapes Go.WideShapes Go.ChangeAt Go.WideMaps Go.WideElems Go.RowKit

theorem big_of {W : World} (h : W.ShapedOpen Tryz.prog) : 20 < W.heap.size := by
  have h0 : (((begin Tryz.prog (fun _ _ => 0) default).world.heap[20]?).bind Obj.row?).isSome = true := by kernel_rfl
  obtain ⟨⟨zero, t⟩, hz⟩ := Option.isSome_iff_exists.1 h0
  obtain ⟨cs, hh, _⟩ := h.1 20 zero t (of_decide_eq_true (by kernel_rfl)) hz
  exact (Array.getElem?_eq_some_iff.1 hh).1

end Go.Proofs.YtmeplgihnlpjcaaGreatDoor
/- What the rows' listed variables give a walk (seats of package tree): the sentinels' cells, that they are different, their rows of cells; errorType's handle. -/
namespace Go.Proofs.YtmeplgihnlpjcaaGreatDoor.EL
open Go.ChangeShapes Go.WideShapes Go.ChangeAt Go.WideMaps Go.WideElems Go.RowKit

abbrev sd (text : List UInt8) : DataW Unit := .iface "*errors.errorString" (.ptr (.agg [.lit (.string text)]))

set_option maxRecDepth 100000 in
theorem sentinels_all {W : World} (r : List (String × DataW Unit)) : ∀ (L : List (String × List UInt8 × Nat)) (ps : List MemPlace),
    DataW.LaidVars Tryz.prog W (L.map (fun x => (x.1, sd x.2.1)) ++ r) ps →
    (∀ x ∈ L, Tryz.prog.globalNamed x.1 = some x.2.2 ∧ (Tryz.prog.globals[x.2.2]?).map (·.type) = some 27) → ps.Nodup →
    (∀ b off, MemPlace.cell b off ∈ ps → (∃ c t, W.heap[b]? = some (.cells c t (0, 0))) ∧ ∀ u v, W.cell? ⟨b, off, none⟩ = some (.iface u v) → Value.okWide Tryz.prog W .any 0 u v) →
    ∃ ads : List Addr, ads.length = L.length ∧ ads.Nodup ∧ (∀ a ∈ ads, MemPlace.cell a.block a.off ∈ ps) ∧ ∀ (k : Nat) x a, L[k]? = some x → ads[k]? = some a → W.cell? ⟨x.2.2, 0, none⟩ = some (.iface 262 (.pointer (some a)))
  | [], ps, _, _, _, _ => ⟨[], rfl, List.nodup_nil, by simp, by simp⟩
  | x :: L, ps, h, hg, hnd, hrows => by
    obtain ⟨g0, t0, cs0, f0, p0, q0, hg0, ht0, hv0, hd0, hq0, e0⟩ := h
    obtain ⟨hgx, htx⟩ := hg x (by simp)
    obtain rfl := Option.some.inj (hgx.symm.trans hg0)
    obtain rfl := Option.some.inj (htx.symm.trans ht0)
    subst e0
    obtain ⟨l0⟩ := cs0
    have ok0 : ∀ u v, l0 = [.iface u v] → Value.okWide Tryz.prog W .any 0 u v := fun u v e => by
      subst e
      exact (hrows x.2.2 0 (by simp [MemPlace.row])).2 u v (by simpa using World.var?_cell hg0 hv0 0)
    obtain ⟨a0, s0, rfl, hc0, hs0, hz0, rfl⟩ := errorString_of_trod Tryz.underlying27 TL.rowES Tryz.underlying262 Tryz.underlying264 rfl rfl Tryz.underlying9 TL.cellsES TL.cellsStr hd0 ok0
    obtain ⟨ads, hl, hn, hin, hc⟩ := sentinels_all r L q0 hq0 (fun y hy => hg y (by simp [hy])) (List.Nodup.sublist (List.sublist_append_right _ _) hnd) (fun b off hm => hrows b off (List.mem_append_right _ hm))
    refine ⟨a0 :: ads, by simp [hl], List.nodup_cons.2 ⟨fun hm => ?_, hn⟩, ?_, ?_⟩
    · have h1 := hin a0 hm
      rw [List.nodup_append] at hnd
      exact hnd.2.2 _ (by simp [MemPlace.row]) _ h1 rfl
    · intro a ha
      rcases List.mem_cons.1 ha with rfl | ha
      · simp [MemPlace.row]
      · exact List.mem_append_right _ (hin a ha)
    · intro k y a hy ha
      cases k with
      | zero =>
        simp at hy ha
        subst hy ha
        simpa using World.var?_cell hg0 hv0 0
      | succ k => exact hc k y a (by simpa using hy) (by simpa using ha)

def textOf : DataW Unit → List UInt8
  | .iface _ (.ptr (.agg [.lit (.string t)])) => t
  | _ => []
def g12 : List Nat := [2, 3, 4, 5, 6, 0, 7, 8, 1, 9, 10, 11]
def sents (l : List (String × DataW Unit)) : List (String × List UInt8 × Nat) := (l.zip g12).map fun x => (x.1.1, textOf x.1.2, x.2)
/-- The twelve, as the rows list them (their names off the row of TreeReads). -/
def twelve : List (String × List UInt8 × Nat) := sents ((Rows.graphTellsRow.laid.drop 5).take 12)
theorem twelve_globals : ∀ x ∈ twelve, Tryz.prog.globalNamed x.1 = some x.2.2 ∧ (Tryz.prog.globals[x.2.2]?).map (·.type) = some 27 := by
  have h : (twelve.all fun x => Tryz.prog.globalNamed x.1 == some x.2.2 && (Tryz.prog.globals[x.2.2]?).map (·.type) == some 27) = true := by kernel_rfl
  intro x hx
  have := List.all_eq_true.1 h x hx
  simpa using this
theorem twelve_snd : twelve.map (·.2.2) = g12 := by kernel_rfl

theorem et : Tryz.prog.globalNamed "errors.errorType" = some 12 := by kernel_rfl
theorem rt : (Tryz.prog.cutTypes.find? (·.1 == "internal/reflectlite.rtype")).map (·.2) = some 164 := by kernel_rfl
theorem oneRow : ((List.range 294).filter fun t => Tryz.prog.rowNamed t [101, 114, 114, 111, 114]) = [27] := by kernel_rfl
theorem typesSize : Tryz.prog.types.size = 294 := by kernel_rfl

theorem handle_of {W : World} {l : List (String × DataW Unit)} (h : handlesMet Tryz.prog l W) (hm : ("errors.errorType", Rows.laid_errors_errorType) ∈ l) :
    W.cell? ⟨12, 0, none⟩ = some (.iface 164 (.agg #[.pointer (some ⟨21, 27, none⟩)])) := by
  obtain ⟨name, u, ty, e1, e2, e3, e4, e5⟩ := h _ hm
  have en : name = [101, 114, 114, 111, 114] := (Option.some.inj e1).symm
  subst en
  obtain rfl := Option.some.inj (rt.symm.trans e2)
  have hm : ty ∈ (List.range 294).filter fun t => Tryz.prog.rowNamed t [101, 114, 114, 111, 114] := List.mem_filter.2 ⟨List.mem_range.2 (by rw [← typesSize]; exact e3), e4⟩
  rw [oneRow] at hm
  obtain rfl := List.mem_singleton.1 hm
  have hh : typeHandle Tryz.prog 27 = .pointer (some ⟨21, 27, none⟩) := by kernel_rfl
  rw [hh] at e5
  simpa using World.var?_cell et e5 0

theorem e12_of {W : World} {r : List (String × DataW Unit)} (h : laidMet Tryz.prog (twelve.map (fun x => (x.1, sd x.2.1)) ++ r) W)
    (ht : W.cell? ⟨12, 0, none⟩ = some (.iface 164 (.agg #[.pointer (some ⟨21, 27, none⟩)]))) : ∃ es, E12 W es := by
  obtain ⟨ps, hv, hnd, hrows⟩ := h
  obtain ⟨l, hl, hn, hin, hc⟩ := sentinels_all r twelve ps hv twelve_globals hnd hrows
  have h12 : l.length = 12 := by rw [hl]; kernel_rfl
  have hcell : ∀ (k : Nat) (hk : k < 12), W.cell? ⟨g12.getD k 0, 0, none⟩ = some (.iface 262 (.pointer (some (l.getD k ⟨0, 0, none⟩)))) := by
    intro k hk
    have h1 : k < twelve.length := by rw [← hl, h12]; exact hk
    have h2 : k < l.length := by omega
    have := hc k twelve[k] l[k] (List.getElem?_eq_getElem h1) (List.getElem?_eq_getElem h2)
    have e : g12.getD k 0 = twelve[k].2.2 := by
      rw [← twelve_snd, List.getD_eq_getElem?_getD, List.getElem?_map, List.getElem?_eq_getElem h1]; rfl
    rw [e, List.getD_eq_getElem?_getD, List.getElem?_eq_getElem h2]
    exact this
  refine ⟨fun k => l.getD k ⟨0, 0, none⟩, hcell 0 (by omega), hcell 1 (by omega), hcell 2 (by omega), hcell 3 (by omega), hcell 4 (by omega), hcell 5 (by omega), hcell 6 (by omega), hcell 7 (by omega), hcell 8 (by omega), hcell 9 (by omega), hcell 10 (by omega), hcell 11 (by omega), ht, ?_, ?_⟩
  · intro k hk
    have h2 : k < l.length := by omega
    have : l.getD k ⟨0, 0, none⟩ ∈ l := by
      rw [List.getD_eq_getElem?_getD, List.getElem?_eq_getElem h2]; exact List.getElem_mem h2
    exact (hrows _ _ (hin _ this)).1
  · intro j k hj hk hne e
    have h1 : j < l.length := by omega
    have h2 : k < l.length := by omega
    simp only [List.getD_eq_getElem?_getD, List.getElem?_eq_getElem h1, List.getElem?_eq_getElem h2, Option.getD_some] at e
    exact hne ((List.getElem_inj hn).1 e)
theorem laidMet_drop {P : Program} {W : World} {r : List (String × DataW Unit)} : ∀ l : List (String × DataW Unit), laidMet P (l ++ r) W → laidMet P r W
  | [], h => h
  | _ :: l, h => laidMet_drop l h.tail

/-- All that is listed, laid over any start by the function. -/
theorem laidMet_layAll {P : Program} {w0 : World} {laid : List (String × DataW Unit)} (args : Array Value)
    (hf : w0.layFits P laid [] = true) (hi : w0.layIfaces P laid (w0.layVars P laid) = true) :
    laidMet P laid ((w0.layVars P laid).forCall (fun _ _ => 0) ⟨#[], args, []⟩).memory := by
  have e1 : (laid.filter fun x => (laid.map (·.1)).contains x.1) = laid := List.filter_eq_self.2 fun x hx => List.contains_iff_mem.2 (List.mem_map.2 ⟨x, hx, rfl⟩)
  have e2 : (laid.filter fun x => !(laid.map (·.1)).contains x.1) = [] := List.filter_eq_nil_iff.2 fun x hx => by rw [List.contains_iff_mem.2 (List.mem_map.2 ⟨x, hx, rfl⟩)]; simp
  have h : laidMet P laid (w0.layVars P laid) := laidMet_layVars (w0 := w0) (laid.map (·.1)) [] (by rw [e1]) (by rw [e1]; exact hf) (by rw [e1]; exact hi) (by rw [e2]; exact LaidIn.none)
  exact h.of_heap (by simp [World.memory, World.forCall, Input.heap])

end Go.Proofs.YtmeplgihnlpjcaaGreatDoor.EL
