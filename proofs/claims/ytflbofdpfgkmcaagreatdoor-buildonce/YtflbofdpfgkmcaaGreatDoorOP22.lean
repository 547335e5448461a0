import Derived.Test.YtflbofdpfgkmcaaGreatDoorOP21
import Derived.Maps.RangeWalk
namespace Go.Proofs.YtflbofdpfgkmcaaGreatDoor
open Go.RowKit Go.Shelf Go.Lib Go.Maps
def Bf.St.num : Bf.St → Nat
  | .no => 0 | .waits => 0 | .done _ false => 1 | .done _ true => 2 | .failed _ => 3 | .left => 4
inductive Inp where
  | rule (k : Nat) | file (b : List UInt8) | gone
def Inp.vals (sp : Nat → Nat) : Inp → List Value
  | .rule k => [Ptr (sp k), .string (ba []), .bool false]
  | .file b => [.pointer none, .string (ba b), .bool true]
  | .gone => [.pointer none, .string (ba []), .bool false]
def Inp.from (sp : Nat → Nat) : Inp → Value
  | .rule k => Ptr (sp k)
  | _ => .pointer none
def Inp.text : Inp → List UInt8
  | .file b => b
  | _ => []
def Inp.there : Inp → Bool
  | .file _ => true
  | _ => false
theorem Inp.vals_eq (sp : Nat → Nat) (x : Inp) : x.vals sp = [x.from sp, .string (ba x.text), .bool x.there] := by cases x <;> rfl
def insC (sp : Nat → Nat) (l : List Inp) : List Value := l.flatMap (Inp.vals sp)
theorem insC_snoc (sp : Nat → Nat) (l : List Inp) (x : Inp) : insC sp (l ++ [x]) = insC sp l ++ x.vals sp := by simp [insC]
theorem insC_get (sp : Nat → Nat) : ∀ (l : List Inp) (j : Nat) (hj : j < l.length), (insC sp l)[j * 3]? = some (l[j].from sp) ∧ (insC sp l)[j * 3 + 1]? = some (.string (ba l[j].text)) ∧ (insC sp l)[j * 3 + 2]? = some (.bool l[j].there)
  | [], j, hj => by simp at hj
  | x :: t, 0, _ => by
    have e : insC sp (x :: t) = [x.from sp, .string (ba x.text), .bool x.there] ++ insC sp t := by
      rw [← Inp.vals_eq]; rfl
    rw [e]
    exact ⟨rfl, rfl, rfl⟩
  | x :: t, j + 1, hj => by
    have e : insC sp (x :: t) = [x.from sp, .string (ba x.text), .bool x.there] ++ insC sp t := by
      rw [← Inp.vals_eq]; rfl
    obtain ⟨h0, h1, h2⟩ := insC_get sp t j (by simpa using hj)
    rw [e]
    refine ⟨?_, ?_, ?_⟩
    · rw [List.getElem?_append_right (by simp; omega)]
      simpa [show (j + 1) * 3 - 3 = j * 3 by omega] using h0
    · rw [List.getElem?_append_right (by simp; omega)]
      simpa [show (j + 1) * 3 + 1 - 3 = j * 3 + 1 by omega] using h1
    · rw [List.getElem?_append_right (by simp; omega)]
      simpa [show (j + 1) * 3 + 2 - 3 = j * 3 + 2 by omega] using h2
theorem insC_congr {sp sp' : Nat → Nat} : ∀ {l : List Inp}, (∀ k, Inp.rule k ∈ l → sp k = sp' k) → insC sp l = insC sp' l
  | [], _ => rfl
  | x :: t, h => by
    have := insC_congr (l := t) fun k hk => h k (List.mem_cons_of_mem _ hk)
    have e : x.vals sp = x.vals sp' := by
      cases x with
      | rule k => simp [Inp.vals, h k (by simp)]
      | file b => rfl
      | gone => rfl
    show x.vals sp ++ insC sp t = x.vals sp' ++ insC sp' t
    rw [this, e]
structure Lay where
  sp : Nat → Nat
  iv : Nat → Value
  uv : Nat → Value
  us : Nat → List Nat
def usC (sp : Nat → Nat) (l : List Nat) : List Value := l.map fun j => Ptr (sp j)
theorem usC_congr {sp sp' : Nat → Nat} {l : List Nat} (h : ∀ k ∈ l, sp k = sp' k) : usC sp l = usC sp' l := by
  unfold usC
  refine List.map_congr_left fun k hk => ?_
  rw [h k hk]
def stepC (es : Nat → Addr) (r : Ru) (iv uv : Value) (s : Bf.St) : Array Value := #[.string (ba r.kind), .string (ba r.word), iv, uv, .int .i64 (s.num : Nat), .string (ba s.out), erOf es s.why]
structure Steps (W : World) (es : Nat → Addr) (dom : Nat → Prop) (L : Lay) (ru : Nat → Ru) (ins : Nat → List Inp) (st : Nat → Bf.St) : Prop where
  step : ∀ i, dom i → W.heap[L.sp i]? = some (.cells (stepC es (ru i) (L.iv i) (L.uv i) (st i)) 194)
  inj : ∀ i j, dom i → dom j → L.sp i = L.sp j → i = j
  insR : ∀ i, dom i → W.ownsRow 0 235 3 (L.iv i) (ins i).length (insC L.sp (ins i))
  usR : ∀ i, dom i → W.ownsRow 0 186 1 (L.uv i) (L.us i).length (usC L.sp (L.us i))
  insD : ∀ i, dom i → ∀ k, Inp.rule k ∈ ins i → dom k
  usD : ∀ i, dom i → ∀ j ∈ L.us i, dom j
def SBlk (dom : Nat → Prop) (L : Lay) (j : Nat) : Prop := ∃ i, dom i ∧ (j = L.sp i ∨ some j = (L.iv i).ownBlock ∨ some j = (L.uv i).ownBlock)
theorem own_same {W W' : World} {B : Nat} {e : TypeId} {s n : Nat} {v : Value} {xs : List Value} (h : W.ownsRow B e s v n xs) (hb : ∀ j, some j = v.ownBlock → W'.heap[j]? = W.heap[j]?) : W'.ownsRow B e s v n xs := by
  refine ⟨h.1, ?_⟩
  rcases h.2 with h1 | ⟨g, cap, cur, e, h0, hg, h2⟩
  · exact .inl h1
  · exact .inr ⟨g, cap, cur, e, h0, (hb g (by rw [e]; rfl)).trans hg, h2⟩
theorem own_in {W : World} {B : Nat} {e : TypeId} {s n : Nat} {v : Value} {xs : List Value} (h : W.ownsRow B e s v n xs) {j : Nat} (hj : some j = v.ownBlock) : ∃ cur, W.heap[j]? = some (.cells cur e) := by
  rcases h.2 with ⟨e, _⟩ | ⟨g, cap, cur, e, h0, hg, h2⟩
  · rw [e] at hj; cases hj
  · rw [e] at hj
    have : j = g := by simpa [Value.ownBlock] using hj
    subst this
    exact ⟨cur, hg⟩
theorem own_cell {W : World} {B : Nat} {e : TypeId} {s n : Nat} {v : Value} {xs : List Value} (h : W.ownsRow B e s v n xs) (hn : 0 < n) : ∃ g cap, v = .slice (some ⟨g, 0, none⟩) n cap ∧ ∀ j u, xs[j]? = some u → W.cell? ⟨g, j, none⟩ = some u := by
  rcases h.2 with ⟨e, h0⟩ | ⟨g, cap, cur, e, h0, hg, h2, h3, h4, h5⟩
  · omega
  · refine ⟨g, cap, e, fun j u hu => ?_⟩
    refine cell_of_row hg ?_
    have hj : j < xs.length := (List.getElem?_eq_some_iff.1 hu).1
    rw [← h5] at hu
    rw [List.getElem?_take] at hu
    split at hu
    · simpa using hu
    · cases hu
theorem own_val {W : World} {B : Nat} {e : TypeId} {s n : Nat} {v : Value} {xs : List Value} (h : W.ownsRow B e s v n xs) : ∃ p cap, v = .slice p n cap := by
  rcases h.2 with ⟨e, h0⟩ | ⟨g, cap, cur, e, _⟩
  · exact ⟨none, 0, by rw [h0]; exact e⟩
  · exact ⟨_, _, e⟩
theorem Steps.lt {W : World} {es : Nat → Addr} {dom : Nat → Prop} {L : Lay} {ru : Nat → Ru} {ins : Nat → List Inp} {st : Nat → Bf.St} (h : Steps W es dom L ru ins st) : ∀ j, SBlk dom L j → j < W.heap.size := by
  rintro j ⟨i, hi, rfl | hj | hj⟩
  · exact (Array.getElem?_eq_some_iff.1 (h.step i hi)).1
  · obtain ⟨_, e⟩ := own_in (h.insR i hi) hj
    exact (Array.getElem?_eq_some_iff.1 e).1
  · obtain ⟨_, e⟩ := own_in (h.usR i hi) hj
    exact (Array.getElem?_eq_some_iff.1 e).1
theorem Steps.same {W W' : World} {es : Nat → Addr} {dom : Nat → Prop} {L : Lay} {ru : Nat → Ru} {ins : Nat → List Inp} {st : Nat → Bf.St} (h : Steps W es dom L ru ins st) (hb : ∀ j, SBlk dom L j → W'.heap[j]? = W.heap[j]?) : Steps W' es dom L ru ins st :=
  ⟨fun i hi => (hb _ ⟨i, hi, .inl rfl⟩).trans (h.step i hi), h.inj, fun i hi => own_same (h.insR i hi) fun j hj => hb j ⟨i, hi, .inr (.inl hj)⟩, fun i hi => own_same (h.usR i hi) fun j hj => hb j ⟨i, hi, .inr (.inr hj)⟩, h.insD, h.usD⟩
theorem Steps.below {W W' : World} {es : Nat → Addr} {dom : Nat → Prop} {L : Lay} {ru : Nat → Ru} {ins : Nat → List Inp} {st : Nat → Bf.St} (h : Steps W es dom L ru ins st) (hb : Below W.heap.size W W') : Steps W' es dom L ru ins st := h.same fun j hj => hb.block j (h.lt j hj)
theorem Steps.congr {W : World} {es : Nat → Addr} {dom : Nat → Prop} {L : Lay} {ru : Nat → Ru} {ins : Nat → List Inp} {st st' : Nat → Bf.St} (h : Steps W es dom L ru ins st) (he : ∀ i, dom i → st' i = st i) : Steps W es dom L ru ins st' :=
  ⟨fun i hi => by rw [he i hi]; exact h.step i hi, h.inj, h.insR, h.usR, h.insD, h.usD⟩
structure StepAt (W : World) (es : Nat → Addr) (b : Nat) (r : Ru) (iv uv : Value) (s : Bf.St) : Prop where
  c0 : W.cell? ⟨b, 0, none⟩ = some (.string (ba r.kind))
  c1 : W.cell? ⟨b, 1, none⟩ = some (.string (ba r.word))
  c2 : W.cell? ⟨b, 2, none⟩ = some iv
  c3 : W.cell? ⟨b, 3, none⟩ = some uv
  c4 : W.cell? ⟨b, 4, none⟩ = some (.int .i64 (s.num : Nat))
  c5 : W.cell? ⟨b, 5, none⟩ = some (.string (ba s.out))
  c6 : W.cell? ⟨b, 6, none⟩ = some (erOf es s.why)
  fr : ∀ j, W.frozen? ⟨b, j, none⟩ = false
theorem Steps.at {W : World} {es : Nat → Addr} {dom : Nat → Prop} {L : Lay} {ru : Nat → Ru} {ins : Nat → List Inp} {st : Nat → Bf.St} (h : Steps W es dom L ru ins st) {i : Nat} (hi : dom i) : StepAt W es (L.sp i) (ru i) (L.iv i) (L.uv i) (st i) := by
  have r := h.step i hi
  exact ⟨cell_of_row (j := 0) r rfl, cell_of_row (j := 1) r rfl, cell_of_row (j := 2) r rfl, cell_of_row (j := 3) r rfl, cell_of_row (j := 4) r rfl, cell_of_row (j := 5) r rfl, cell_of_row (j := 6) r rfl, fun j => by simp [World.frozen?, r]⟩
theorem Steps.turn {W W' : World} {es : Nat → Addr} {dom : Nat → Prop} {L : Lay} {ru : Nat → Ru} {ins : Nat → List Inp} {st : Nat → Bf.St} (h : Steps W es dom L ru ins st) {i : Nat} (hi : dom i) (s : Bf.St) (hs : W'.heap[L.sp i]? = some (.cells (stepC es (ru i) (L.iv i) (L.uv i) s) 194)) (hb : ∀ j, j ≠ L.sp i → j < W.heap.size → W'.heap[j]? = W.heap[j]?) : Steps W' es dom L ru ins (Bf.setS st i s) := by
  have hlt := h.lt
  have nI : ∀ k, dom k → some (L.sp i) ≠ (L.iv k).ownBlock := fun k hk e => by
    obtain ⟨_, e'⟩ := own_in (h.insR k hk) e
    rw [h.step i hi] at e'
    cases e'
  have nU : ∀ k, dom k → some (L.sp i) ≠ (L.uv k).ownBlock := fun k hk e => by
    obtain ⟨_, e'⟩ := own_in (h.usR k hk) e
    rw [h.step i hi] at e'
    cases e'
  refine ⟨fun k hk => ?_, h.inj, fun k hk => own_same (h.insR k hk) fun j hj => hb j (fun e => nI k hk (e ▸ hj)) (hlt j ⟨k, hk, .inr (.inl hj)⟩), fun k hk => own_same (h.usR k hk) fun j hj => hb j (fun e => nU k hk (e ▸ hj)) (hlt j ⟨k, hk, .inr (.inr hj)⟩), h.insD, h.usD⟩
  by_cases e : k = i
  · subst e
    rw [Bf.setS_same]
    exact hs
  · rw [Bf.setS_other e]
    exact (hb _ (fun x => e (h.inj _ _ hk hi x)) (hlt _ ⟨k, hk, .inl rfl⟩)).trans (h.step k hk)
def stepElem : Value → Option (DataW Unit × List MemPlace)
  | .pointer (some ⟨b, 0, none⟩) => some (.lit (.int .i64 (b : Nat)), [])
  | .pointer none => some (.lit (.int .i64 (-1)), [])
  | _ => none
def stepP : Option Nat → Value
  | some b => Ptr b
  | none => .pointer none
def stepI : Option Nat → Int
  | some b => (b : Nat)
  | none => -1
theorem stepI_inj {a b : Option Nat} (h : stepI a = stepI b) : a = b := by
  cases a <;> cases b <;> simp [stepI] at h ⊢ <;> omega
theorem stepElem_mk (c : Option Nat) : stepElem (stepP c) = some (.lit (.int .i64 (stepI c)), []) := by cases c <;> rfl
theorem stepElem_inv (v : Value) (y : DataW Unit × List MemPlace) (h : stepElem v = some y) : ∃ c, v = stepP c := by
  unfold stepElem at h
  split at h
  · rename_i b
    exact ⟨some b, rfl⟩
  · exact ⟨none, rfl⟩
  · cases h
theorem ilaw : Keyed Tryz.prog 3 := int_keyed Tryz.underlying3
theorem ikey (i : Int) (h0 : -9223372036854775808 ≤ i) (h1 : i ≤ 9223372036854775807) : keyOf Tryz.prog 3 (.int .i64 i) = some (.int .i64 i) :=
  keyOf_int_mk Tryz.underlying3 (by
    have e1 : IntKind.i64.min = -9223372036854775808 := by decide
    have e2 : IntKind.i64.max = 9223372036854775807 := by decide
    simp [Lit.wf, e1, e2]
    omega)
def SMap (W : World) (bm n : Nat) (dom : Nat → Prop) (sp : Nat → Nat) : Prop :=
  ∃ D : DataW Unit, W.ownsMap Tryz.prog 3 stepElem bm n D ∧ (∀ i : Int, has D (.int .i64 i) = true ↔ 0 ≤ i ∧ dom i.toNat) ∧ ∀ k : Nat, dom k → ∀ z, D.atKey (.int .i64 (k : Nat)) z = .lit (.int .i64 (sp k : Nat))
theorem SMap.lt {W : World} {bm n : Nat} {dom : Nat → Prop} {sp : Nat → Nat} (h : SMap W bm n dom sp) : bm < W.heap.size := by
  obtain ⟨D, h1, _⟩ := h
  exact h1.lt
theorem SMap.same {W W' : World} {bm n : Nat} {dom : Nat → Prop} {sp : Nat → Nat} (h : SMap W bm n dom sp) (hb : W'.heap[bm]? = W.heap[bm]?) : SMap W' bm n dom sp := by
  obtain ⟨D, ⟨es, clock, h1, F⟩, h2⟩ := h
  exact ⟨D, ⟨es, clock, hb.trans h1, F⟩, h2⟩
theorem SMap.made (W : World) (sp : Nat → Nat) : SMap (W.alloc (.map #[] 0)) W.heap.size 0 (fun _ => False) sp :=
  ⟨.map [], World.ownsMap_made W _ _ _, fun i => by simp [has], fun k hk => hk.elim⟩
theorem SMap.look {W : World} {bm n : Nat} {dom : Nat → Prop} {sp : Nat → Nat} (h : SMap W bm n dom sp) (i : Int) (h0 : -9223372036854775808 ≤ i) (h1 : i ≤ 9223372036854775807) :
    ((0 ≤ i ∧ dom i.toNat) ∧ (Instr.lookup 181 (.map (some bm)) (.int .i64 i) true).run Tryz.prog W = .ok (.tuple #[Ptr (sp i.toNat), .bool true]) W) ∨
    (¬ (0 ≤ i ∧ dom i.toNat) ∧ (Instr.lookup 181 (.map (some bm)) (.int .i64 i) true).run Tryz.prog W = .ok (.tuple #[.pointer none, .bool false]) W) := by
  obtain ⟨D, h2, h3, h4⟩ := h
  obtain ⟨v, ps, hrun, hv⟩ := h2.look_ok (t := 181) (e := 186) ilaw Tryz.underlying181 (z := .pointer none) (Tryz.zeroValue186 W) (zd := .lit (.int .i64 (-1))) (zp := []) rfl (ikey i h0 h1)
  obtain ⟨c, rfl⟩ := stepElem_inv _ _ hv
  rw [stepElem_mk] at hv
  have hc : (DataW.lit (.int .i64 (stepI c)) : DataW Unit) = D.atKey (.int .i64 i) (.lit (.int .i64 (-1))) := by simpa using congrArg (fun o => o.map Prod.fst) hv
  rw [hrun]
  by_cases hd : 0 ≤ i ∧ dom i.toNat
  · have hh := (h3 i).2 hd
    have := h4 i.toNat hd.2 (.lit (.int .i64 (-1)))
    rw [show ((i.toNat : Nat) : Int) = i by omega] at this
    rw [this] at hc
    have : c = some (sp i.toNat) := stepI_inj (by simpa [stepI] using hc)
    exact .inl ⟨hd, by rw [hh, this]; rfl⟩
  · have hh : has D (.int .i64 i) = false := by
      rw [Bool.eq_false_iff]
      exact fun e => hd ((h3 i).1 e)
    have := atKey_of_not_has hh (.lit (.int .i64 (-1)))
    rw [this] at hc
    have : c = none := stepI_inj (by simpa [stepI] using hc)
    exact .inr ⟨hd, by rw [hh, this]; rfl⟩
end Go.Proofs.YtflbofdpfgkmcaaGreatDoor
