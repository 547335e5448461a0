/- What the listed variables and the world's shape give the walks of package tree; acts that came in, opened. -/
import Derived.Test.YtpkkhabiheobnaaGreatDoorTreeBack
import Derived.Test.YtpkkhabiheobnaaGreatDoorRows
import Derived.ProofKit
import Derived.LaidMore
import Derived.OpenShut
import Derived.Stop.Joined
import Derived.Stop.LaidErr
import Derived.Lay
import Derived.HandedShaped
import Derived.Shelf.Vars
import Derived.Lib.LaidTab
import Derived.Deep.Slices
import Derived.Deep.Strs
import Derived.Carry
import Derived.SizedLaws
namespace Go.Proofs.YtpkkhabiheobnaaGreatDoor.TL
open Go.ChangeShapes Go.WideShapes Go.ChangeAt Go.WideMaps Go.WideElems Go.RowKit Go.Deep

theorem own : ownKnob Tryz.prog.godebug = none := by kernel_rfl
theorem laidOut : laidOutB Tryz.prog = true := by kernel_rfl
theorem starES : "*" ++ "errors.errorString" = "*errors.errorString" := by decide
theorem rowES (u : TypeId) (h : Tryz.prog.typeName? 3 u = some "*errors.errorString") : u = 199 :=
  typeName_ptr_named (nm := "errors.errorString") (by rw [starES]; kernel_rfl) (by kernel_rfl) (by decide) u (by rw [starES]; exact h)
theorem cellsES : Tryz.prog.cellsOf 201 = 1 := by kernel_rfl
theorem cellsStr : Tryz.prog.cellsOf 9 = 1 := by kernel_rfl
theorem cellsAct : Tryz.prog.cellsOf 37 = 3 := by kernel_rfl

section
variable {H : Type} {enc : TypeId × Value → H}
/-- The wrap of a row that lists variables, and whose walk wants the world's shape too. -/
theorem returns_laid_shaped {a : Assume} {C : Checked} {os : Os} {f : FuncId} {fn : Func} {s : ChangeSpec} {conds : List PathCond} {apart fresh handsOn again : Bool} {X : World → Array Value → Prop}
    (hX : ∀ (w w' : World) (args : Array Value), w.heap = w'.heap → X w args → X w' args)
    (own : ownKnob C.prog.godebug = none) (started : os.Started) (noInit : C.prog.inits.idxOf? f = none) (hfn : C.prog.funcs[f]? = some fn)
    (witness : ∃ (w : World) (tape : Tape) (i : Input), w.os = os ∧ (w.forCall tape i).Shaped C.prog ∧ i.vars = [] ∧ Input.okWide C.prog (w.forCall tape i) .any w.heap.size f i ∧
      ((s.pre enc C.prog fn conds apart (w.forCall tape i).memory i.args ∧ X (w.forCall tape i).memory i.args) ∧ sizedMet enc C.prog fn (OpenSpec.ofChange s) apart (w.forCall tape i).memory i.args) ∧ a.holds C.prog (lone (Frame.enter C.prog f i.args .normal) [] (w.forCall tape i)))
    (contract : ∀ (W : World) (base : Nat) (args : Array Value) (ds gs : List (DataW H)) (before : List MemPlace),
      (∀ (j : Nat) t v, fn.params[j]? = some t → args[j]? = some v → Value.okWide C.prog W .any base t v) →
      DataW.Whole enc C.prog fn.params.toList s.vars apart W args.toList ds gs before →
      W.ShapedOpen C.prog → X W args → (DataW.weightsEach C.prog (fn.params.toList ++ s.plain.varTypes C.prog) (ds ++ gs)).all (· ≤ reachBytes) = true →
      Calls C.prog f args W fun e W' => ∃ v, e = .returned v ∧ s.post enc C.prog fn apart fresh handsOn again W args v W') :
    ReturnsInHanded a C os f .any (fun w args => (s.pre enc C.prog fn conds apart w args ∧ X w args) ∧ sizedMet enc C.prog fn (OpenSpec.ofChange s) apart w args) (s.post enc C.prog fn apart fresh handsOn again) := by
  refine returnsInHanded_of_calls own started noInit witness ?_
  intro w tape i _ hsh _ hok hpre _
  obtain ⟨_, _, _, fn', hfn', _, _, _, _, hval⟩ := hok
  have e : fn' = fn := Option.some.inj (hfn'.symm.trans hfn)
  subst e
  obtain ⟨⟨⟨ds, gs, before, hw, _⟩, hx⟩, hz⟩ := hpre
  have hw' := DataW.Whole.of_heap (w' := w.forCall tape i) (by rfl) hw
  refine (contract (w.forCall tape i) w.heap.size i.args ds gs before hval hw' hsh (hX _ _ _ (by rfl) hx) (hz.weights hw)).mono fun e W' ⟨v, he, hp⟩ => ?_
  subst he
  exact ChangeSpec.post_blind hp

instance : Inhabited (ByteArray × ByteArray × ByteArray) := ⟨(ByteArray.empty, ByteArray.empty, ByteArray.empty)⟩

/-- An act, as it reads. -/
def actD (q : ByteArray × ByteArray × ByteArray) : DataW H := .agg [.lit (.string q.1.data.toList), .lit (.string q.2.1.data.toList), .lit (.string q.2.2.data.toList)]

set_option maxRecDepth 100000 in
/-- Acts that came in: nil, or a row of three cells an act. -/
theorem open_acts {W : World} {sp : Nat → Bool} {fuel : Nat} {cs : List Value} {x : DataW H × List MemPlace} (h : DataW.trod enc Tryz.prog W 0 sp true fuel 34 cs = some x) :
    (cs = [.slice none 0 0]) ∨
    ∃ (a : Addr) (len cap : Nat) (I : Nat → ByteArray × ByteArray × ByteArray) (spare : List (DataW H)), cs = [.slice (some a) len cap] ∧ x.1 = .slice ((List.range len).map fun i => actD (I i)) spare ∧
      ∀ i, i < len → W.cell? (a.add (i * 3)) = some (.string (I i).1) ∧ W.cell? (a.add (i * 3 + 1)) = some (.string (I i).2.1) ∧ W.cell? (a.add (i * 3 + 2)) = some (.string (I i).2.2) := by
  rcases open_slice Tryz.underlying34 h with h0 | ⟨a, len, cap, m, n, D, Pl, rfl, hb, hl, hm, hmm, rfl, hx⟩
  · exact Or.inl h0.1
  right
  have hlm : len ≤ m := by rw [hmm]; split <;> omega
  have each : ∀ i, i < m → ∃ q : ByteArray × ByteArray × ByteArray, W.cell? (a.add (i * 3)) = some (.string q.1) ∧ W.cell? (a.add (i * 3 + 1)) = some (.string q.2.1) ∧ W.cell? (a.add (i * 3 + 2)) = some (.string q.2.2) ∧ D i = actD q := by
    intro i hi
    obtain ⟨cs', h1, h2⟩ := hx i hi
    rw [cellsAct] at h1
    obtain ⟨_, hlen, hcell⟩ := World.cells?_some h1
    obtain ⟨y0, y1, y2, k, hxy, _, u0, u1, u2⟩ := trod_struct3 Tryz.underlying37 h2
    match cs', hlen with
    | [v0, v1, v2], _ =>
      simp only [cellsStr, List.drop, List.take] at u0 u1 u2
      obtain ⟨s0, e0, d0, _⟩ := DataW.trod_string Tryz.underlying9 u0
      obtain ⟨s1, e1, d1, _⟩ := DataW.trod_string Tryz.underlying9 u1
      obtain ⟨s2, e2, d2, _⟩ := DataW.trod_string Tryz.underlying9 u2
      simp only [List.cons.injEq, and_true] at e0 e1 e2
      subst e0; subst e1; subst e2
      have c0 := hcell 0 (by omega)
      have c1 := hcell 1 (by omega)
      have c2 := hcell 2 (by omega)
      rw [add_add] at c0 c1 c2
      simp only [Prod.mk.injEq] at hxy
      exact ⟨(s0, s1, s2), by simpa using c0, by simpa using c1, by simpa using c2, by rw [hxy.1, d0, d1, d2]; rfl⟩
  obtain ⟨q, hq⟩ := choose_lt each
  refine ⟨a, len, cap, q, (List.range (m - len)).map fun j => D (len + j), rfl, ?_, fun i hi => ⟨(hq i (by omega)).1, (hq i (by omega)).2.1, (hq i (by omega)).2.2.1⟩⟩
  rw [List.map_congr_left (fun i hi => (hq i (by have := List.mem_range.1 hi; omega)).2.2.2)]

theorem weightsAll_mem {P : Program} {e : TypeId} {n : Nat} : ∀ {l : List (DataW H)} {d : DataW H}, d ∈ l → n ∈ d.weights P e → n ∈ DataW.weightsAll P e l
  | x :: r, d, h, hn => by
    unfold DataW.weightsAll
    rcases List.mem_cons.1 h with rfl | h
    · exact List.mem_append_left _ hn
    · exact List.mem_append_right _ (weightsAll_mem h hn)

theorem act_sizes {l spare : List (DataW H)} {q : ByteArray × ByteArray × ByteArray} {ts : List TypeId} (h : (DataW.weightsEach Tryz.prog (34 :: ts) [.slice l spare]).all (· ≤ reachBytes) = true) (hq : actD q ∈ l) :
    q.2.1.data.toList.length ≤ reachBytes ∧ q.2.2.data.toList.length ≤ reachBytes := by
  have key : ∀ n, n ∈ (actD (H := H) q).weights Tryz.prog 37 → n ≤ reachBytes := fun n hn => by
    have hm : n ∈ DataW.weights Tryz.prog 34 (.slice l spare) := by
      unfold DataW.weights
      rw [Tryz.underlying34]
      exact List.mem_cons_of_mem _ (List.mem_append_left _ (weightsAll_mem hq hn))
    have := List.all_eq_true.1 h n (DataW.weights_mem_each (j := 0) rfl rfl n hm)
    simpa using this
  have hw : (actD (H := H) q).weights Tryz.prog 37 = [q.1.data.toList.length, q.2.1.data.toList.length, q.2.2.data.toList.length] := by
    unfold actD DataW.weights
    rw [Tryz.underlying37]
    rfl
  rw [hw] at key
  exact ⟨key _ (by simp), key _ (by simp)⟩
end

theorem sentinel1 {n : String} {text : List UInt8} {r : List (String × DataW Unit)} {W : World} (g : Nat)
    (h : laidMet Tryz.prog ((n, .iface "*errors.errorString" (.ptr (.agg [.lit (.string text)]))) :: r) W)
    (hg : Tryz.prog.globalNamed n = some g) (ht : (Tryz.prog.globals[g]?).map (·.type) = some 25) :
    ∃ a : Addr, W.cell? ⟨g, 0, none⟩ = some (.iface 199 (.pointer (some a))) := by
  obtain ⟨a, s, hv, _⟩ := laid_sentinel h hg ht Tryz.underlying25 rowES Tryz.underlying199 Tryz.underlying201 rfl rfl Tryz.underlying9 cellsES cellsStr
  exact ⟨a, by simpa using World.var?_cell hg hv 0⟩

theorem maxLen_cell {W : World} (h : W.ShapedOpen Tryz.prog) : ∃ m, W.cell? ⟨14, 0, none⟩ = some (.int .i64 m) :=
  cell_of_shapedOpen_int (P := Tryz.prog) (t := 3) (zero := #[.int .i64 0]) h (of_decide_eq_true (by kernel_rfl)) (by kernel_rfl) rfl (by kernel_rfl) (by kernel_rfl) Tryz.underlying3

theorem pow_data : (Rows.laid_internal_strconv_uint64pow10 : DataW Unit) = Lib.tabData .u64 Lib.pow10Tab := by rfl
theorem pow_laid {W : World} {r : List (String × DataW Unit)} (h : laidMet Tryz.prog (("internal/strconv.uint64pow10", Rows.laid_internal_strconv_uint64pow10) :: r) W) : Pow W := by
  rw [pow_data] at h
  exact Lib.tabIs_of_head (g := 13) (t := 165) (e := 147) (n := 20) (by kernel_rfl) (by kernel_rfl) Tryz.underlying165 Tryz.underlying147 (by kernel_rfl) (by kernel_rfl) h

/-- The errors, by their numbers. -/
def errOf (a1 a2 a3 a4 a6 a7 a8 : Addr) : Nat → Value
  | 0 => .nilIface
  | 1 => .iface 199 (.pointer (some a1))
  | 2 => .iface 199 (.pointer (some a2))
  | 3 => .iface 199 (.pointer (some a3))
  | 4 => .iface 199 (.pointer (some a4))
  | 5 => .iface 199 (.pointer (some a4))
  | 6 => .iface 199 (.pointer (some a6))
  | 7 => .iface 199 (.pointer (some a7))
  | 8 => .iface 199 (.pointer (some a8))
  | _ + 9 => .iface 199 (.pointer (some a8))

theorem back_laid {W : World} (h : laidMetH Tryz.prog Rows.treeBackRow.laid W) : ∃ er, TErr W er ∧ Pow W := by
  rw [MakeChecks.laidMetH_plain _ _ _ (by kernel_rfl)] at h
  have h3 := h.tail.tail
  have hP := pow_laid h3
  have h := h3.tail
  obtain ⟨a1, e1⟩ := sentinel1 0 h (by kernel_rfl) (by kernel_rfl)
  have h := h.tail
  obtain ⟨a2, e2⟩ := sentinel1 3 h (by kernel_rfl) (by kernel_rfl)
  have h := h.tail
  obtain ⟨a3, e3⟩ := sentinel1 1 h (by kernel_rfl) (by kernel_rfl)
  have h := h.tail
  obtain ⟨a4, e4⟩ := sentinel1 4 h (by kernel_rfl) (by kernel_rfl)
  have h := h.tail
  obtain ⟨a6, e6⟩ := sentinel1 2 h (by kernel_rfl) (by kernel_rfl)
  have h := h.tail
  obtain ⟨a7, e7⟩ := sentinel1 6 h (by kernel_rfl) (by kernel_rfl)
  have h := h.tail
  obtain ⟨a8, e8⟩ := sentinel1 7 h (by kernel_rfl) (by kernel_rfl)
  refine ⟨errOf a1 a2 a3 a4 a6 a7 a8, ⟨e1, e2, e3, e4, e6, e7, e8, fun k => ?_, rfl⟩, hP⟩
  match k with
  | 0 => exact ⟨_, _, rfl⟩
  | 1 => exact ⟨_, _, rfl⟩
  | 2 => exact ⟨_, _, rfl⟩
  | 3 => exact ⟨_, _, rfl⟩
  | 4 => exact ⟨_, _, rfl⟩
  | 5 => exact ⟨_, _, rfl⟩
  | 6 => exact ⟨_, _, rfl⟩
  | 7 => exact ⟨_, _, rfl⟩
  | _ + 8 => exact ⟨_, _, rfl⟩

theorem back_met (os : Os) (args : Array Value) : laidMetH Tryz.prog Rows.treeBackRow.laid ((World.laidAll Tryz.prog os Rows.treeBackRow.laid).forCall (fun _ _ => 0) ⟨#[], args, []⟩).memory := by
  rw [MakeChecks.laidMetH_plain _ _ _ (by kernel_rfl)]
  exact laidMet_laidAll _ (by kernel_rfl) (by kernel_rfl)

theorem ba_self (s : ByteArray) : s = ba s.data.toList := rfl

theorem len_size (s : ByteArray) : s.data.toList.length = s.size := by rw [Array.length_toList]; rfl

/-- TreeBack at whatever came in. -/
theorem back_any {H : Type} {enc : TypeId × Value → H} {W : World} {v0 : Value} {d0 : DataW H} {p : List MemPlace} {ts : List TypeId} (h0 : DataW.Trod enc Tryz.prog W 0 (fun _ => true) true 34 v0 d0 p) (hsl : ∃ a len cap, v0 = .slice a len cap) (hz : (DataW.weightsEach Tryz.prog (34 :: ts) [d0]).all (· ≤ reachBytes) = true) (hL : laidMetH Tryz.prog Rows.treeBackRow.laid W) (hsh : W.ShapedOpen Tryz.prog) :
    Calls Tryz.prog 4 #[v0] W fun e w' => e = .returned (.bool true) ∧ Below W.heap.size W w' := by
  obtain ⟨er, hE, hP⟩ := back_laid hL
  obtain ⟨m, hm⟩ := maxLen_cell hsh
  obtain ⟨sa, sl, sc, rfl⟩ := hsl
  obtain ⟨fuel, hf⟩ := h0
  rcases open_acts hf with hc | ⟨a, len, cap, I, spare, hc, hx, hin⟩
  · have : (Value.slice sa sl sc).cells.toList = [.slice sa sl sc] := rfl
    rw [this] at hc
    obtain ⟨rfl, rfl, rfl⟩ : sa = none ∧ sl = 0 ∧ sc = 0 := by simpa using hc
    exact TreeBack_few W er hE hP m hm none 0 [] (by simp) (by simp) (by simp)
  · have : (Value.slice sa sl sc).cells.toList = [.slice sa sl sc] := rfl
    rw [this] at hc
    obtain ⟨rfl, rfl, rfl⟩ : sa = some a ∧ sl = len ∧ sc = cap := by simpa using hc
    simp only at hx
    subst hx
    rcases Nat.lt_or_ge 80 sl with hn | hn
    · exact TreeBack_many W er hE hP (some a) sl sc hn
    · have hll : ((List.range sl).map fun i => ((I i).1.data.toList, (I i).2.1.data.toList, (I i).2.2.data.toList)).length = sl := by simp
      have := TreeBack_few W er hE hP m hm (some a) sc ((List.range sl).map fun i => ((I i).1.data.toList, (I i).2.1.data.toList, (I i).2.2.data.toList)) (by simpa using hn) (fun x hx => by
        obtain ⟨i, hi, rfl⟩ := List.mem_map.1 hx
        obtain ⟨z1, z2⟩ := act_sizes (q := I i) hz (List.mem_map.2 ⟨i, hi, rfl⟩)
        exact ⟨Nat.le_trans z1 (by decide), Nat.le_trans z2 (by decide)⟩) (fun hne => by
        have h0 : 0 < sl := by
          rcases Nat.eq_zero_or_pos sl with e | e
          · subst e; simp at hne
          · exact e
        have hs : a.spot = none := World.cell?_spot (a := a.add (0 * 3)) (hin 0 h0).1
        obtain ⟨ab, ao, sp⟩ := a
        cases hs
        refine ⟨ab, ao, rfl, lt_of_cell (hin 0 h0).1, fun j hj => ?_⟩
        rw [hll] at hj
        obtain ⟨c0, c1, c2⟩ := hin j hj
        rw [add_plain] at c0 c1 c2
        rw [← Nat.add_assoc] at c1 c2
        simp only [List.getElem_map, List.getElem_range]
        exact ⟨c0.trans (congrArg (fun s => some (Value.string s)) (ba_self _)), c1.trans (congrArg (fun s => some (Value.string s)) (ba_self _)), c2.trans (congrArg (fun s => some (Value.string s)) (ba_self _))⟩)
      rw [hll] at this
      exact this
end Go.Proofs.YtpkkhabiheobnaaGreatDoor.TL
