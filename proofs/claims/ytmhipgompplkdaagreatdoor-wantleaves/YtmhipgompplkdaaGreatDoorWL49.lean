import Derived.Test.YtmhipgompplkdaaGreatDoorWL07
import Derived.Test.YtmhipgompplkdaaGreatDoorRows
import Derived.ProofKit
import Derived.LaidMore
import Derived.OpenShut
import Derived.Stop.Joined
import Derived.Stop.LaidErr
import Derived.Lay
import Derived.HandedShaped
import Derived.Shelf.Vars
import Derived.Lib.LaidTab
import Derived.Deep.Slices
import Derived.Deep.Strs
import Derived.Carry
import Derived.SizedLaws
import Derived.SliceStrings
import Derived.Lib.SmallJoins
import Derived.Test.YtmhipgompplkdaaGreatDoorWL09
import Derived.Test.YtmhipgompplkdaaGreatDoorWL21
import Derived.Test.YtmhipgompplkdaaGreatDoorWL19
import Derived.Test.YtmhipgompplkdaaGreatDoorWL36
import Derived.Test.YtmhipgompplkdaaGreatDoorWL20
import Derived.Test.YtmhipgompplkdaaGreatDoorWL46
namespace Go.Proofs.YtmhipgompplkdaaGreatDoor.TL
open Go.ChangeShapes Go.WideShapes Go.ChangeAt Go.WideMaps Go.WideElems Go.RowKit Go.Deep
theorem own : ownKnob Tryz.prog.godebug = none := by kernel_rfl
theorem laidOut : laidOutB Tryz.prog = true := by kernel_rfl
theorem starES : "*" ++ "errors.errorString" = "*errors.errorString" := by decide
theorem rowES (u : TypeId) (h : Tryz.prog.typeName? 3 u = some "*errors.errorString") : u = 399 :=
  typeName_ptr_named (nm := "errors.errorString") (by rw [starES]; kernel_rfl) (by kernel_rfl) (by decide) u (by rw [starES]; exact h)
theorem cellsES : Tryz.prog.cellsOf 401 = 1 := by kernel_rfl
theorem cellsStr : Tryz.prog.cellsOf 9 = 1 := by kernel_rfl
section
variable {H : Type} {enc : TypeId × Value → H}
theorem returns_laid_shaped {a : Assume} {C : Checked} {os : Os} {f : FuncId} {fn : Func} {s : ChangeSpec} {conds : List PathCond} {apart fresh handsOn again : Bool} {X : World → Array Value → Prop}
    (hX : ∀ (w w' : World) (args : Array Value), w.heap = w'.heap → X w args → X w' args)
    (own : ownKnob C.prog.godebug = none) (started : os.Started) (noInit : C.prog.inits.idxOf? f = none) (hfn : C.prog.funcs[f]? = some fn)
    (witness : ∃ (w : World) (tape : Tape) (i : Input), w.os = os ∧ (w.forCall tape i).Shaped C.prog ∧ i.vars = [] ∧ Input.okWide C.prog (w.forCall tape i) .any w.heap.size f i ∧
      ((s.pre enc C.prog fn conds apart (w.forCall tape i).memory i.args ∧ X (w.forCall tape i).memory i.args) ∧ sizedMet enc C.prog fn (OpenSpec.ofChange s) apart (w.forCall tape i).memory i.args) ∧ a.holds C.prog (lone (Frame.enter C.prog f i.args .normal) [] (w.forCall tape i)))
    (contract : ∀ (W : World) (base : Nat) (args : Array Value) (ds gs : List (DataW H)) (before : List MemPlace),
      (∀ (j : Nat) t v, fn.params[j]? = some t → args[j]? = some v → Value.okWide C.prog W .any base t v) →
      DataW.Whole enc C.prog fn.params.toList s.vars apart W args.toList ds gs before →
      W.ShapedOpen C.prog → X W args → (DataW.weightsEach C.prog (fn.params.toList ++ s.plain.varTypes C.prog) (ds ++ gs)).all (· ≤ reachBytes) = true →
      Calls C.prog f args W fun e W' => ∃ v, e = .returned v ∧ s.post enc C.prog fn apart fresh handsOn again W args v W') :
    ReturnsInHanded a C os f .any (fun w args => (s.pre enc C.prog fn conds apart w args ∧ X w args) ∧ sizedMet enc C.prog fn (OpenSpec.ofChange s) apart w args) (s.post enc C.prog fn apart fresh handsOn again) := by
  refine returnsInHanded_of_calls own started noInit witness ?_
  intro w tape i _ hsh _ hok hpre _
  obtain ⟨_, _, _, fn', hfn', _, _, _, _, hval⟩ := hok
  have e : fn' = fn := Option.some.inj (hfn'.symm.trans hfn)
  subst e
  obtain ⟨⟨⟨ds, gs, before, hw, _⟩, hx⟩, hz⟩ := hpre
  have hw' := DataW.Whole.of_heap (w' := w.forCall tape i) (by rfl) hw
  refine (contract (w.forCall tape i) w.heap.size i.args ds gs before hval hw' hsh (hX _ _ _ (by rfl) hx) (hz.weights hw)).mono fun e W' ⟨v, he, hp⟩ => ?_
  subst he
  exact ChangeSpec.post_blind hp
end
theorem sentinel1 {n : String} {text : List UInt8} {r : List (String × DataW Unit)} {W : World} (g : Nat)
    (h : laidMet Tryz.prog ((n, .iface "*errors.errorString" (.ptr (.agg [.lit (.string text)]))) :: r) W)
    (hg : Tryz.prog.globalNamed n = some g) (ht : (Tryz.prog.globals[g]?).map (·.type) = some 25) :
    ∃ a : Addr, W.cell? ⟨g, 0, none⟩ = some (.iface 399 (.pointer (some a))) := by
  obtain ⟨a, s, hv, _⟩ := laid_sentinel h hg ht Tryz.underlying25 rowES Tryz.underlying399 Tryz.underlying401 rfl rfl Tryz.underlying9 cellsES cellsStr
  exact ⟨a, by simpa using World.var?_cell hg hv 0⟩
theorem maxLen_cell {W : World} (h : W.ShapedOpen Tryz.prog) : ∃ m, W.cell? ⟨14, 0, none⟩ = some (.int .i64 m) :=
  cell_of_shapedOpen_int (P := Tryz.prog) (t := 3) (zero := #[.int .i64 0]) h (of_decide_eq_true (by kernel_rfl)) (by kernel_rfl) rfl (by kernel_rfl) (by kernel_rfl) Tryz.underlying3
theorem pow_data : (Rows.laid_internal_strconv_uint64pow10 : DataW Unit) = Lib.tabData .u64 Lib.pow10Tab := by rfl
theorem pow_laid {W : World} {r : List (String × DataW Unit)} (h : laidMet Tryz.prog (("internal/strconv.uint64pow10", Rows.laid_internal_strconv_uint64pow10) :: r) W) : Pow W := by
  rw [pow_data] at h
  exact Lib.tabIs_of_head (g := 13) (t := 366) (e := 312) (n := 20) (by kernel_rfl) (by kernel_rfl) Tryz.underlying366 Tryz.underlying312 (by kernel_rfl) (by kernel_rfl) h
theorem ba_self (s : ByteArray) : s = ba s.data.toList := rfl
end Go.Proofs.YtmhipgompplkdaaGreatDoor.TL
namespace Go.Proofs.YtmhipgompplkdaaGreatDoor.GL
open Go.ChangeShapes Go.WideShapes Go.ChangeAt Go.WideMaps Go.WideElems Go.RowKit Go.Deep
theorem cellsRule : Tryz.prog.cellsOf 90 = 4 := by kernel_rfl
theorem cellsStrs : Tryz.prog.cellsOf 45 = 1 := by kernel_rfl
theorem ba_self (s : ByteArray) : s = ba s.data.toList := by
  apply ByteArray.ext
  simp
instance : Inhabited Ru := ⟨⟨[], [], [], []⟩⟩
section
variable {H : Type} {enc : TypeId × Value → H}
theorem open_texts {W : World} {sp : Nat → Bool} {fuel : Nat} {cs : List Value} {x : DataW H × List MemPlace} (h : DataW.trod enc Tryz.prog W 0 sp true fuel 45 cs = some x) : ∃ v ls, cs = [v] ∧ XRow W v ls := by
  rcases open_strings Tryz.underlying45 Tryz.underlying9 TL.cellsStr h with ⟨hc, _⟩ | ⟨a, len, cap, ss, hc, _, hlc, _, hsl, _, hin, _⟩
  · exact ⟨_, [], hc, XRow.nil W⟩
  · have hle : len ≤ ss.length := by rw [hsl]; split <;> omega
    have hlen : ((ss.take len).map fun s => s.data.toList).length = len := by simp; omega
    refine ⟨_, (ss.take len).map fun s => s.data.toList, hc, some a, cap, by rw [hlen], by omega, fun h => (by cases h), fun hne => ?_⟩
    have h0 : 0 < len := by
      rcases Nat.eq_zero_or_pos len with e | e
      · subst e; simp at hne
      · exact e
    have hs : a.spot = none := World.cell?_spot (a := a.add 0) (hin 0 (by omega))
    obtain ⟨ab, ao, spt⟩ := a
    cases hs
    refine ⟨ab, ao, rfl, lt_of_cell (hin 0 (by omega)), fun j hj => ?_⟩
    rw [hlen] at hj
    have hc := hin j (by omega)
    rw [add_at2] at hc
    rw [hc, List.getElem_map, List.getElem_take, ← ba_self]
    have hjl : j < ss.length := by omega
    rw [List.getD_eq_getElem?_getD, List.getElem?_eq_getElem hjl]
    rfl
set_option maxRecDepth 100000 in
theorem open_rules {W : World} {sp : Nat → Bool} {fuel : Nat} {cs : List Value} {x : DataW H × List MemPlace} (h : DataW.trod enc Tryz.prog W 0 sp true fuel 66 cs = some x) : ∃ v l, cs = [v] ∧ RRow W v l := by
  rcases open_slice Tryz.underlying66 h with h0 | ⟨a, len, cap, m, n, D, Pl, rfl, hb, hl, hm, hmm, rfl, hx⟩
  · exact ⟨_, [], h0.1, RRow.nil W⟩
  have hlm : len ≤ m := by rw [hmm]; split <;> omega
  have each : ∀ i, i < m → ∃ r : Ru, W.cell? (a.add (i * 4)) = some (.string (ba r.out)) ∧ W.cell? (a.add (i * 4 + 1)) = some (.string (ba r.kind)) ∧ W.cell? (a.add (i * 4 + 2)) = some (.string (ba r.word)) ∧ ∃ u, W.cell? (a.add (i * 4 + 3)) = some u ∧ XRow W u r.ins := by
    intro i hi
    obtain ⟨cs', h1, h2⟩ := hx i hi
    rw [cellsRule] at h1
    obtain ⟨_, hlen, hcell⟩ := World.cells?_some h1
    obtain ⟨y0, y1, y2, y3, k, hxy, _, u0, u1, u2, u3⟩ := Go.Joins.trod_struct4 Tryz.underlying90 h2
    match cs', hlen with
    | [v0, v1, v2, v3], _ =>
      simp only [TL.cellsStr, cellsStrs, List.drop, List.take] at u0 u1 u2 u3
      obtain ⟨s0, e0, d0, _⟩ := DataW.trod_string Tryz.underlying9 u0
      obtain ⟨s1, e1, d1, _⟩ := DataW.trod_string Tryz.underlying9 u1
      obtain ⟨s2, e2, d2, _⟩ := DataW.trod_string Tryz.underlying9 u2
      obtain ⟨u, ls, e3, hX⟩ := open_texts u3
      simp only [List.cons.injEq, and_true] at e0 e1 e2 e3
      subst e0; subst e1; subst e2; subst e3
      have c0 := hcell 0 (by omega)
      have c1 := hcell 1 (by omega)
      have c2 := hcell 2 (by omega)
      have c3 := hcell 3 (by omega)
      rw [add_add] at c0 c1 c2 c3
      exact ⟨⟨s0.data.toList, s1.data.toList, s2.data.toList, ls⟩, by rw [← ba_self]; simpa using c0, by rw [← ba_self]; simpa using c1, by rw [← ba_self]; simpa using c2, _, by simpa using c3, hX⟩
  obtain ⟨q, hq⟩ := choose_lt (α := Ru) each
  refine ⟨_, (List.range len).map q, rfl, some a, cap, by simp, by simp; omega, fun h => (by cases h), fun hne => ?_⟩
  have h0 : 0 < len := by
    rcases Nat.eq_zero_or_pos len with e | e
    · subst e; simp at hne
    · exact e
  have hs : a.spot = none := World.cell?_spot (a := a.add (0 * 4)) (hq 0 (by omega)).1
  obtain ⟨ab, ao, spt⟩ := a
  cases hs
  refine ⟨ab, ao, rfl, lt_of_cell (hq 0 (by omega)).1, fun j hj => ?_⟩
  have hjl : j < len := by simpa using hj
  obtain ⟨c0, c1, c2, u, c3, hX⟩ := hq j (by omega)
  rw [add_at2] at c0 c1 c2 c3
  rw [← Nat.add_assoc] at c1 c2 c3
  simp only [List.getElem_map, List.getElem_range]
  exact ⟨c0, c1, c2, u, c3, hX⟩
end
end Go.Proofs.YtmhipgompplkdaaGreatDoor.GL
namespace Go.Proofs.YtmhipgompplkdaaGreatDoor
namespace Bf
structure Good (d : Bd) : Prop where
  needed : ∀ k, k < d.l.length → (d.st k).isNo = false
  done : ∀ k j, (d.st k).isDone = true → Ru.needs d.l k j = true → (d.st j).isDone = true
  failed : ∀ k j, (d.st k).isFailed = true → Ru.needs d.l k j = true → (d.st j).isDone = true
  bad : ∀ k j, Ru.needs d.l k j = true → (d.st j).isBad = true → (d.st k).isLeft = true
  left : ∀ k, (d.st k).isLeft = true → ∃ j, Ru.needs d.l k j = true ∧ (d.st j).isBad = true
theorem St.five (s : St) : s.isNo = true ∨ s.isWaits = true ∨ s.isDone = true ∨ s.isFailed = true ∨ s.isLeft = true := by cases s <;> simp [St.isNo, St.isWaits, St.isDone, St.isFailed, St.isLeft]
theorem Good.init {d : Bd} (h : ∀ k, d.st k = if k < d.l.length then .waits else .no) : Good d := by
  have hn : ∀ k, (d.st k).isDone = false ∧ (d.st k).isFailed = false ∧ (d.st k).isLeft = false ∧ (d.st k).isBad = false := fun k => by
    rw [h k]
    split <;> exact ⟨rfl, rfl, rfl, rfl⟩
  refine ⟨fun k hk => by rw [h k, if_pos hk]; rfl, fun k j hd => ?_, fun k j hd => ?_, fun k j _ hb => ?_, fun k hl => ?_⟩
  · rw [(hn k).1] at hd; cases hd
  · rw [(hn k).2.1] at hd; cases hd
  · rw [(hn j).2.2.2] at hb; cases hb
  · rw [(hn k).2.2.1] at hl; cases hl
theorem Good.ready_needs {d : Bd} {i j : Nat} (hr : d.isReady i = true) (hn : Ru.needs d.l i j = true) : (d.st j).isDone = true := ready_free hr (Ru.needs_lt hn).2 hn
theorem Good.set {d : Bd} (h : Good d) {i : Nat} (hr : d.isReady i = true) (s : List UInt8) (b : Bool) : Good (d.set i (.done s b)) := by
  have hw := ready_waits hr
  have hs : ∀ k, (d.set i (.done s b)).st k = if k = i then .done s b else d.st k := fun k => rfl
  have hbad : ∀ j, ((d.set i (.done s b)).st j).isBad = true → j ≠ i ∧ (d.st j).isBad = true := fun j hj => by
    rw [hs] at hj
    split at hj
    · cases hj
    · rename_i e; exact ⟨e, hj⟩
  refine ⟨fun k hk => ?_, fun k j hd hn => ?_, fun k j hd hn => ?_, fun k j hn hb => ?_, fun k hl => ?_⟩
  · rw [hs]
    split
    · rfl
    · exact h.needed k hk
  · rw [hs] at hd ⊢
    split
    · rfl
    · split at hd
      · rename_i e; subst e; exact Good.ready_needs hr hn
      · exact h.done k j hd hn
  · rw [hs] at hd ⊢
    split
    · rfl
    · split at hd
      · cases hd
      · exact h.failed k j hd hn
  · obtain ⟨e, hb'⟩ := hbad j hb
    have hl := h.bad k j hn hb'
    rw [hs]
    split
    · rename_i e2
      rw [e2, hw] at hl
      cases hl
    · exact hl
  · rw [hs] at hl
    split at hl
    · cases hl
    · obtain ⟨j, hn, hb⟩ := h.left k hl
      refine ⟨j, hn, ?_⟩
      rw [hs]
      split
      · rename_i e
        rw [e, hw] at hb
        cases hb
      · exact hb
theorem Good.fail {d : Bd} (h : Good d) {i : Nat} (hr : d.isReady i = true) (c : Nat) : Good (d.fail i c) := by
  have hw := ready_waits hr
  have hs0 : ∀ k, setS d.st i (.failed c) k = if k = i then .failed c else d.st k := fun k => rfl
  have hs : ∀ k, (d.fail i c).st k = spread d.l (setS d.st i (.failed c)) k := fun k => rfl
  have hl : (d.fail i c).l = d.l := rfl
  have keepN : ∀ k, (setS d.st i (.failed c) k).isWaits = false → (d.fail i c).st k = setS d.st i (.failed c) k := fun k hk => by rw [hs, spread_keeps hk]
  have done_iff : ∀ k, ((d.fail i c).st k).isDone = true ↔ (d.st k).isDone = true := fun k => by
    rw [hs]
    unfold spread
    split
    · rename_i hx
      rw [hs0] at hx
      split at hx
      · cases hx.1
      · constructor
        · intro h1; cases h1
        · intro h1; rw [St.waits_eq hx.1] at h1; cases h1
    · rw [hs0]
      split
      · rename_i e
        rw [e, hw]
        constructor
        · intro h1; cases h1
        · intro h1; cases h1
      · exact Iff.rfl
  have failed_is : ∀ k, ((d.fail i c).st k).isFailed = true → k = i ∨ (d.st k).isFailed = true := fun k hk => by
    rw [hs] at hk
    unfold spread at hk
    split at hk
    · cases hk
    · rw [hs0] at hk
      split at hk
      · rename_i e; exact .inl e
      · exact .inr hk
  have left_of : ∀ k, (setS d.st i (.failed c) k).isWaits = true → Chain d.l (setS d.st i (.failed c)) k → ((d.fail i c).st k).isLeft = true := fun k h1 h2 => by
    rw [hs]
    unfold spread
    rw [if_pos ⟨h1, h2⟩]
    rfl
  have bad_of : ∀ j, (setS d.st i (.failed c) j).isBad = true → ((d.fail i c).st j).isBad = true := fun j hj => by
    rw [keepN j (by cases hx : setS d.st i (.failed c) j <;> first | rfl | (rw [hx] at hj; cases hj))]
    exact hj
  refine ⟨fun k hk => ?_, fun k j hd hn => ?_, fun k j hd hn => ?_, fun k j hn hb => ?_, fun k hlf => ?_⟩
  · rw [hs]
    unfold spread
    split
    · rfl
    · rw [hs0]
      split
      · rfl
      · exact h.needed k hk
  · exact (done_iff j).2 (h.done k j ((done_iff k).1 hd) hn)
  · rcases failed_is k hd with e | e
    · subst e
      exact (done_iff j).2 (Good.ready_needs hr hn)
    · exact (done_iff j).2 (h.failed k j e hn)
  · have hk := (Ru.needs_lt (l := d.l) hn).1
    -- what j was
    have hj : (setS d.st i (.failed c) j).isBad = true ∨ ((setS d.st i (.failed c) j).isWaits = true ∧ Chain d.l (setS d.st i (.failed c)) j) := by
      rw [hs] at hb
      unfold spread at hb
      split at hb
      · rename_i hx; exact .inr hx
      · exact .inl hb
    have hnd : (d.st j).isDone = false := by
      rw [hs0] at hj
      split at hj
      · rename_i e; rw [e, hw]; rfl
      · rcases hj with h1 | h1
        · cases hx : d.st j <;> first | rfl | (rw [hx] at h1; cases h1)
        · rw [St.waits_eq h1.1]; rfl
    by_cases ki : k = i
    · subst ki
      have := Good.ready_needs hr hn
      rw [hnd] at this
      cases this
    · have hk0 : setS d.st i (.failed c) k = d.st k := by rw [hs0, if_neg ki]
      rcases St.five (d.st k) with h1 | h1 | h1 | h1 | h1
      · rw [h.needed k hk] at h1; cases h1
      · refine left_of k (by rw [hk0]; exact h1) ?_
        rcases hj with h2 | h2
        · exact .one hn h2
        · exact .more hn h2.1 h2.2
      · have := h.done k j h1 hn
        rw [hnd] at this
        cases this
      · have := h.failed k j h1 hn
        rw [hnd] at this
        cases this
      · rw [keepN k (by rw [hk0]; cases hx : d.st k <;> first | rfl | (rw [hx] at h1; cases h1)), hk0]
        exact h1
  · -- what is left has one that is bad
    have hx : ((setS d.st i (.failed c) k).isWaits = true ∧ Chain d.l (setS d.st i (.failed c)) k) ∨ (setS d.st i (.failed c) k).isLeft = true := by
      rw [hs] at hlf
      unfold spread at hlf
      split at hlf
      · rename_i hx; exact .inl hx
      · exact .inr hlf
    rcases hx with ⟨_, hc⟩ | h1
    · cases hc with
      | @one _ j hn hb => exact ⟨j, hn, bad_of j hb⟩
      | @more _ j hn hwj hcj =>
        refine ⟨j, hn, ?_⟩
        have := left_of j hwj hcj
        cases hy : (d.fail i c).st j <;> first | rfl | (rw [hy] at this; cases this)
    · rw [hs0] at h1
      split at h1
      · cases h1
      · obtain ⟨j, hn, hb⟩ := h.left k h1
        refine ⟨j, hn, bad_of j ?_⟩
        rw [hs0]
        split
        · rfl
        · exact hb
theorem Good.go {d : Bd} (h : Good d) (act : Act) (c : Ca) {i : Nat} (hr : d.isReady i = true) : Good (go act c d i).d := by
  unfold Bf.go
  split
  · exact h.fail hr _
  · split
    · exact h.set hr _ _
    · split
      · exact h.set hr _ _
      · exact h.fail hr _
theorem Good.ready {d : Bd} (h : Good d) {rank : Nat → Nat} (hrk : ∀ i k, Ru.needs d.l i k = true → rank k < rank i) {k : Nat} (hk : k < d.l.length) (hw : (d.st k).isWaits = true) : d.ready ≠ [] := by
  have key : ∀ n k, rank k ≤ n → k < d.l.length → (d.st k).isWaits = true → ∃ i, i < d.l.length ∧ d.isReady i = true := by
    intro n
    induction n with
    | zero =>
      intro k hr hk hw
      refine ⟨k, hk, ready_of (St.waits_eq hw) fun j _ hn => ?_⟩
      have := hrk k j hn
      omega
    | succ n ih =>
      intro k hr hk hw
      by_cases hx : ∃ j, Ru.needs d.l k j = true ∧ (d.st j).isWaits = true
      · obtain ⟨j, hn, hj⟩ := hx
        have := hrk k j hn
        exact ih j (by omega) (Ru.needs_lt hn).2 hj
      · refine ⟨k, hk, ready_of (St.waits_eq hw) fun j hj hn => ?_⟩
        rcases St.five (d.st j) with h1 | h1 | h1 | h1 | h1
        · rw [h.needed j hj] at h1; cases h1
        · exact absurd ⟨j, hn, h1⟩ hx
        · exact h1
        · have := h.bad k j hn (by rw [St.bad_eq, h1]; rfl)
          rw [St.waits_eq hw] at this
          cases this
        · have := h.bad k j hn (by rw [St.bad_eq, h1]; simp)
          rw [St.waits_eq hw] at this
          cases this
  obtain ⟨i, hi, hr⟩ := key (rank k) k (Nat.le_refl _) hk hw
  intro e
  have := mem_ready.2 ⟨hi, hr⟩
  rw [e] at this
  cases this
def St.ran (s : St) : Bool := s.isDone || s.isFailed
theorem go_ran (act : Act) (c : Ca) (d : Bd) {i : Nat} (hr : d.isReady i = true) (k : Nat) : ((go act c d i).d.st k).ran = if k = i then true else (d.st k).ran := by
  have hw := ready_waits hr
  have hset : ∀ s b, ((d.set i (.done s b)).st k).ran = if k = i then true else (d.st k).ran := fun s b => by
    show (setS d.st i (.done s b) k).ran = _
    unfold setS
    split <;> rfl
  have hfail : ∀ e, ((d.fail i e).st k).ran = if k = i then true else (d.st k).ran := fun e => by
    show (spread d.l (setS d.st i (.failed e)) k).ran = _
    unfold spread
    split
    · rename_i hx
      have hx1 := hx.1
      unfold setS at hx1
      split at hx1
      · cases hx1
      · rename_i e
        rw [if_neg e, St.waits_eq hx1]
        rfl
    · unfold setS
      split <;> rfl
  unfold Bf.go
  split
  · exact hfail _
  · split
    · exact hset _ _
    · split
      · exact hset _ _
      · exact hfail _
end Bf
end Go.Proofs.YtmhipgompplkdaaGreatDoor
namespace Go.Proofs.YtmhipgompplkdaaGreatDoor
open Go.RowKit Go.Shelf Go.Lib
namespace Bf
end Bf
structure OnW (es : Nat → Addr) (BAt : (Nat → Prop) → World → Value → Value → Bf.Bd → Prop) (W0 : World) (l : List Ru) (pb : Addr) (gr : Nat) (d : Bf.Bd) (S : Nat → Prop) (wr : World) : Prop where
  bat : BAt S wr (.pointer (some pb)) (.pointer none) d
  low : ∀ j, S j → W0.heap.size ≤ j
  far : ¬ S gr
  own : Own wr 0 gr l.length (fun k => (d.st k).ran)
  base : Below W0.heap.size W0 wr
  lgr : W0.heap.size ≤ gr
  good : Bf.Good d
  fit : Bf.Fit d
  l : d.l = l
theorem OnW.below {es : Nat → Addr} {act : Bf.Act} {At : (Nat → Prop) → World → Value → Nat → Cf.Ens → Prop} {BAt : (Nat → Prop) → World → Value → Value → Bf.Bd → Prop} (HB : Builds es act At BAt) {W0 : World} {l : List Ru} {pb : Addr} {gr : Nat} {d : Bf.Bd} {S : Nat → Prop} {wr w' : World} (h : OnW es BAt W0 l pb gr d S wr) (hb : Below wr.heap.size wr w') : OnW es BAt W0 l pb gr d S w' :=
  ⟨HB.same _ _ _ _ _ _ h.bat hb.size fun k hk => hb.block k (HB.lt _ _ _ _ _ h.bat k hk), h.low, h.far, h.own.below hb, below_then h.base hb, h.lgr, h.good, h.fit, h.l⟩
theorem OnW.ran {es : Nat → Addr} {act : Bf.Act} {At : (Nat → Prop) → World → Value → Nat → Cf.Ens → Prop} {BAt : (Nat → Prop) → World → Value → Value → Bf.Bd → Prop} (HB : Builds es act At BAt) (HA : Bf.ActFit act) {W0 : World} {l : List Ru} {pb : Addr} {gr : Nat} {d : Bf.Bd} {S S' : Nat → Prop} {wr w' : World} (h : OnW es BAt W0 l pb gr d S wr) {k : Nat} (hk : k < l.length) (hr : d.isReady k = true) (hO : Only (fun j => S j ∨ False) wr w') (hB' : BAt S' w' (.pointer (some pb)) (.pointer none) (Bf.go act none d k).d) (hS : ∀ j, S' j → S j ∨ wr.heap.size ≤ j) :
    w'.cell? ⟨gr, k, none⟩ = some (.bool false) ∧ w'.frozen? ⟨gr, k, none⟩ = false ∧ gr < w'.heap.size ∧ OnW es BAt W0 l pb gr (Bf.go act none d k).d S' (w'.setCell ⟨gr, k, none⟩ (.bool true)) := by
  have hgl := h.own.lt.1
  have hz := hO.size
  have hblk : w'.heap[gr]? = wr.heap[gr]? := hO.block gr hgl fun e => e.elim h.far id
  have hown : Own w' 0 gr l.length (fun k => (d.st k).ran) := own_same h.own fun j hj => by
    have : j = gr := by simpa [Value.ownBlock] using hj
    rw [this]
    exact hblk
  have hw := Bf.ready_waits hr
  have hc := hown.cell hk
  simp only [hw] at hc
  obtain ⟨cur, hrow⟩ := own_in (j := gr) hown rfl
  have hne : ∀ j, S' j → j ≠ gr := fun j hj e => by
    subst e
    rcases hS j hj with h1 | h1
    · exact h.far h1
    · omega
  have hkd : k < d.l.length := by rw [h.l]; exact hk
  refine ⟨hc, by simp [World.frozen?, hrow], by omega, HB.same _ _ _ _ _ _ hB' (by simp) fun j hj => Below.heap_setCell w' _ _ j (hne j hj), fun j hj => ?_, fun e => hne gr e rfl, hown.set k true fun j hj => ?_, ?_, h.lgr, h.good.go act none hr, (Bf.go_fit HA (c := none) trivial h.fit k).1, (Bf.go_less act none d k hkd hr).2.1.trans h.l⟩
  · rcases hS j hj with h1 | h1
    · exact h.low j h1
    · have := h.base.size
      omega
  · rw [Bf.go_ran act none d hr j]
  · exact (h.base.trans (hO.below (fun j hj => hj.elim (h.low j) False.elim) h.base.size)).setCell (p := ⟨gr, k, none⟩) h.lgr _
end Go.Proofs.YtmhipgompplkdaaGreatDoor
namespace Go.Proofs.YtmhipgompplkdaaGreatDoor.OL
open Go.ChangeShapes Go.WideShapes Go.ChangeAt Go.WideMaps Go.WideElems Go.RowKit Go.Deep
theorem cellsFile : Tryz.prog.cellsOf 51 = 2 := by kernel_rfl
section
variable {H : Type} {enc : TypeId × Value → H}
set_option maxRecDepth 100000 in
theorem open_files {W : World} {sp : Nat → Bool} {fuel : Nat} {cs : List Value} {x : DataW H × List MemPlace} (h : DataW.trod enc Tryz.prog W 0 sp true fuel 36 cs = some x) : ∃ v l, cs = [v] ∧ FIRow W v l := by
  rcases open_slice Tryz.underlying36 h with h0 | ⟨a, len, cap, m, n, D, Pl, rfl, hb, hl, hm, hmm, rfl, hx⟩
  · exact ⟨_, [], h0.1, none, 0, rfl, fun h => absurd rfl h⟩
  have hlm : len ≤ m := by rw [hmm]; split <;> omega
  have each : ∀ i, i < m → ∃ r : List UInt8 × List UInt8, W.cell? (a.add (i * 2)) = some (.string (ba r.1)) ∧ W.cell? (a.add (i * 2 + 1)) = some (.string (ba r.2)) := by
    intro i hi
    obtain ⟨cs', h1, h2⟩ := hx i hi
    rw [cellsFile] at h1
    obtain ⟨_, hlen, hcell⟩ := World.cells?_some h1
    obtain ⟨y0, y1, k, hxy, _, u0, u1⟩ := trod_struct2 Tryz.underlying51 h2
    match cs', hlen with
    | [v0, v1], _ =>
      simp only [TL.cellsStr, List.drop, List.take] at u0 u1
      obtain ⟨s0, e0, d0, _⟩ := DataW.trod_string Tryz.underlying9 u0
      obtain ⟨s1, e1, d1, _⟩ := DataW.trod_string Tryz.underlying9 u1
      simp only [List.cons.injEq, and_true] at e0 e1
      subst e0; subst e1
      have c0 := hcell 0 (by omega)
      have c1 := hcell 1 (by omega)
      rw [add_add] at c0 c1
      exact ⟨(s0.data.toList, s1.data.toList), by rw [← GL.ba_self]; simpa using c0, by rw [← GL.ba_self]; simpa using c1⟩
  obtain ⟨q, hq⟩ := choose_lt (α := List UInt8 × List UInt8) each
  refine ⟨_, (List.range len).map q, rfl, some a, cap, by simp, fun hne => ?_⟩
  have h0 : 0 < len := by
    rcases Nat.eq_zero_or_pos len with e | e
    · subst e; simp at hne
    · exact e
  have hs : a.spot = none := World.cell?_spot (a := a.add (0 * 2)) (hq 0 (by omega)).1
  obtain ⟨ab, ao, spt⟩ := a
  cases hs
  refine ⟨ab, ao, rfl, lt_of_cell (hq 0 (by omega)).1, fun j hj => ?_⟩
  have hjl : j < len := by simpa using hj
  obtain ⟨c0, c1⟩ := hq j (by omega)
  rw [add_at2] at c0 c1
  rw [← Nat.add_assoc] at c1
  simp only [List.getElem_map, List.getElem_range]
  exact ⟨c0, c1⟩
end
end Go.Proofs.YtmhipgompplkdaaGreatDoor.OL
namespace Go.Proofs.YtmhipgompplkdaaGreatDoor
open Go.ChangeShapes Go.WideShapes Go.ChangeAt Go.WideMaps Go.WideElems Go.RowKit
theorem big_of {W : World} (h : W.ShapedOpen Tryz.prog) : 20 < W.heap.size := by
  have h0 : (((begin Tryz.prog (fun _ _ => 0) default).world.heap[20]?).bind Obj.row?).isSome = true := by kernel_rfl
  obtain ⟨⟨zero, t⟩, hz⟩ := Option.isSome_iff_exists.1 h0
  obtain ⟨cs, hh, _⟩ := h.1 20 zero t (of_decide_eq_true (by kernel_rfl)) hz
  exact (Array.getElem?_eq_some_iff.1 hh).1
end Go.Proofs.YtmhipgompplkdaaGreatDoor
