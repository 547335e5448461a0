import Derived.Test.YtbgkfmodbofalaaGreatDoorPL21
import Derived.Maps.RangeWalk
namespace Go.Proofs.YtbgkfmodbofalaaGreatDoor
open Go.RowKit Go.Shelf Go.Lib Go.Maps
def Bf.St.num : Bf.St → Nat
  | .no => 0 | .waits => 0 | .done _ false => 1 | .done _ true => 2 | .failed _ => 3 | .left => 4
inductive Inp where
  | rule (k : Nat) | file (b : List UInt8) | gone
def Inp.vals (sp : Nat → Nat) : Inp → List Value
  | .rule k => [Ptr (sp k), .string (ba []), .bool false]
  | .file b => [.pointer none, .string (ba b), .bool true]
  | .gone => [.pointer none, .string (ba []), .bool false]
def Inp.from (sp : Nat → Nat) : Inp → Value
  | .rule k => Ptr (sp k)
  | _ => .pointer none
def Inp.text : Inp → List UInt8
  | .file b => b
  | _ => []
def Inp.there : Inp → Bool
  | .file _ => true
  | _ => false
theorem Inp.vals_eq (sp : Nat → Nat) (x : Inp) : x.vals sp = [x.from sp, .string (ba x.text), .bool x.there] := by cases x <;> rfl
def insC (sp : Nat → Nat) (l : List Inp) : List Value := l.flatMap (Inp.vals sp)
theorem insC_snoc (sp : Nat → Nat) (l : List Inp) (x : Inp) : insC sp (l ++ [x]) = insC sp l ++ x.vals sp := by simp [insC]
theorem insC_get (sp : Nat → Nat) : ∀ (l : List Inp) (j : Nat) (hj : j < l.length), (insC sp l)[j * 3]? = some (l[j].from sp) ∧ (insC sp l)[j * 3 + 1]? = some (.string (ba l[j].text)) ∧ (insC sp l)[j * 3 + 2]? = some (.bool l[j].there)
  | [], j, hj => by simp at hj
  | x :: t, 0, _ => by
    have e : insC sp (x :: t) = [x.from sp, .string (ba x.text), .bool x.there] ++ insC sp t := by
      rw [← Inp.vals_eq]; rfl
    rw [e]
    exact ⟨rfl, rfl, rfl⟩
  | x :: t, j + 1, hj => by
    have e : insC sp (x :: t) = [x.from sp, .string (ba x.text), .bool x.there] ++ insC sp t := by
      rw [← Inp.vals_eq]; rfl
    obtain ⟨h0, h1, h2⟩ := insC_get sp t j (by simpa using hj)
    rw [e]
    refine ⟨?_, ?_, ?_⟩
    · rw [List.getElem?_append_right (by simp; omega)]
      simpa [show (j + 1) * 3 - 3 = j * 3 by omega] using h0
    · rw [List.getElem?_append_right (by simp; omega)]
      simpa [show (j + 1) * 3 + 1 - 3 = j * 3 + 1 by omega] using h1
    · rw [List.getElem?_append_right (by simp; omega)]
      simpa [show (j + 1) * 3 + 2 - 3 = j * 3 + 2 by omega] using h2
theorem insC_congr {sp sp' : Nat → Nat} : ∀ {l : List Inp}, (∀ k, Inp.rule k ∈ l → sp k = sp' k) → insC sp l = insC sp' l
  | [], _ => rfl
  | x :: t, h => by
    have := insC_congr (l := t) fun k hk => h k (List.mem_cons_of_mem _ hk)
    have e : x.vals sp = x.vals sp' := by
      cases x with
      | rule k => simp [Inp.vals, h k (by simp)]
      | file b => rfl
      | gone => rfl
    show x.vals sp ++ insC sp t = x.vals sp' ++ insC sp' t
    rw [this, e]
structure Lay where
  sp : Nat → Nat
  iv : Nat → Value
  uv : Nat → Value
  us : Nat → List Nat
def usC (sp : Nat → Nat) (l : List Nat) : List Value := l.map fun j => Ptr (sp j)
theorem usC_congr {sp sp' : Nat → Nat} {l : List Nat} (h : ∀ k ∈ l, sp k = sp' k) : usC sp l = usC sp' l := by
  unfold usC
  refine List.map_congr_left fun k hk => ?_
  rw [h k hk]
def stepC (es : Nat → Addr) (r : Ru) (iv uv : Value) (s : Bf.St) : Array Value := #[.string (ba r.kind), .string (ba r.word), iv, uv, .int .i64 (s.num : Nat), .string (ba s.out), erOf es s.why]
structure Steps (W : World) (es : Nat → Addr) (dom : Nat → Prop) (L : Lay) (ru : Nat → Ru) (ins : Nat → List Inp) (st : Nat → Bf.St) : Prop where
  step : ∀ i, dom i → W.heap[L.sp i]? = some (.cells (stepC es (ru i) (L.iv i) (L.uv i) (st i)) 212)
  inj : ∀ i j, dom i → dom j → L.sp i = L.sp j → i = j
  insR : ∀ i, dom i → W.ownsRow 0 252 3 (L.iv i) (ins i).length (insC L.sp (ins i))
  usR : ∀ i, dom i → W.ownsRow 0 205 1 (L.uv i) (L.us i).length (usC L.sp (L.us i))
  insD : ∀ i, dom i → ∀ k, Inp.rule k ∈ ins i → dom k
  usD : ∀ i, dom i → ∀ j ∈ L.us i, dom j
def SBlk (dom : Nat → Prop) (L : Lay) (j : Nat) : Prop := ∃ i, dom i ∧ (j = L.sp i ∨ some j = (L.iv i).ownBlock ∨ some j = (L.uv i).ownBlock)
theorem own_same {W W' : World} {B : Nat} {e : TypeId} {s n : Nat} {v : Value} {xs : List Value} (h : W.ownsRow B e s v n xs) (hb : ∀ j, some j = v.ownBlock → W'.heap[j]? = W.heap[j]?) : W'.ownsRow B e s v n xs := by
  refine ⟨h.1, ?_⟩
  rcases h.2 with h1 | ⟨g, cap, cur, e, h0, hg, h2⟩
  · exact .inl h1
  · exact .inr ⟨g, cap, cur, e, h0, (hb g (by rw [e]; rfl)).trans hg, h2⟩
theorem own_in {W : World} {B : Nat} {e : TypeId} {s n : Nat} {v : Value} {xs : List Value} (h : W.ownsRow B e s v n xs) {j : Nat} (hj : some j = v.ownBlock) : ∃ cur, W.heap[j]? = some (.cells cur e) := by
  rcases h.2 with ⟨e, _⟩ | ⟨g, cap, cur, e, h0, hg, h2⟩
  · rw [e] at hj; cases hj
  · rw [e] at hj
    have : j = g := by simpa [Value.ownBlock] using hj
    subst this
    exact ⟨cur, hg⟩
theorem own_cell {W : World} {B : Nat} {e : TypeId} {s n : Nat} {v : Value} {xs : List Value} (h : W.ownsRow B e s v n xs) (hn : 0 < n) : ∃ g cap, v = .slice (some ⟨g, 0, none⟩) n cap ∧ ∀ j u, xs[j]? = some u → W.cell? ⟨g, j, none⟩ = some u := by
  rcases h.2 with ⟨e, h0⟩ | ⟨g, cap, cur, e, h0, hg, h2, h3, h4, h5⟩
  · omega
  · refine ⟨g, cap, e, fun j u hu => ?_⟩
    refine cell_of_row hg ?_
    have hj : j < xs.length := (List.getElem?_eq_some_iff.1 hu).1
    rw [← h5] at hu
    rw [List.getElem?_take] at hu
    split at hu
    · simpa using hu
    · cases hu
theorem own_val {W : World} {B : Nat} {e : TypeId} {s n : Nat} {v : Value} {xs : List Value} (h : W.ownsRow B e s v n xs) : ∃ p cap, v = .slice p n cap := by
  rcases h.2 with ⟨e, h0⟩ | ⟨g, cap, cur, e, _⟩
  · exact ⟨none, 0, by rw [h0]; exact e⟩
  · exact ⟨_, _, e⟩
theorem Steps.lt {W : World} {es : Nat → Addr} {dom : Nat → Prop} {L : Lay} {ru : Nat → Ru} {ins : Nat → List Inp} {st : Nat → Bf.St} (h : Steps W es dom L ru ins st) : ∀ j, SBlk dom L j → j < W.heap.size := by
  rintro j ⟨i, hi, rfl | hj | hj⟩
  · exact (Array.getElem?_eq_some_iff.1 (h.step i hi)).1
  · obtain ⟨_, e⟩ := own_in (h.insR i hi) hj
    exact (Array.getElem?_eq_some_iff.1 e).1
  · obtain ⟨_, e⟩ := own_in (h.usR i hi) hj
    exact (Array.getElem?_eq_some_iff.1 e).1
theorem Steps.same {W W' : World} {es : Nat → Addr} {dom : Nat → Prop} {L : Lay} {ru : Nat → Ru} {ins : Nat → List Inp} {st : Nat → Bf.St} (h : Steps W es dom L ru ins st) (hb : ∀ j, SBlk dom L j → W'.heap[j]? = W.heap[j]?) : Steps W' es dom L ru ins st :=
  ⟨fun i hi => (hb _ ⟨i, hi, .inl rfl⟩).trans (h.step i hi), h.inj, fun i hi => own_same (h.insR i hi) fun j hj => hb j ⟨i, hi, .inr (.inl hj)⟩, fun i hi => own_same (h.usR i hi) fun j hj => hb j ⟨i, hi, .inr (.inr hj)⟩, h.insD, h.usD⟩
theorem Steps.below {W W' : World} {es : Nat → Addr} {dom : Nat → Prop} {L : Lay} {ru : Nat → Ru} {ins : Nat → List Inp} {st : Nat → Bf.St} (h : Steps W es dom L ru ins st) (hb : Below W.heap.size W W') : Steps W' es dom L ru ins st := h.same fun j hj => hb.block j (h.lt j hj)
theorem Steps.congr {W : World} {es : Nat → Addr} {dom : Nat → Prop} {L : Lay} {ru : Nat → Ru} {ins : Nat → List Inp} {st st' : Nat → Bf.St} (h : Steps W es dom L ru ins st) (he : ∀ i, dom i → st' i = st i) : Steps W es dom L ru ins st' :=
  ⟨fun i hi => by rw [he i hi]; exact h.step i hi, h.inj, h.insR, h.usR, h.insD, h.usD⟩
structure StepAt (W : World) (es : Nat → Addr) (b : Nat) (r : Ru) (iv uv : Value) (s : Bf.St) : Prop where
  c0 : W.cell? ⟨b, 0, none⟩ = some (.string (ba r.kind))
  c1 : W.cell? ⟨b, 1, none⟩ = some (.string (ba r.word))
  c2 : W.cell? ⟨b, 2, none⟩ = some iv
  c3 : W.cell? ⟨b, 3, none⟩ = some uv
  c4 : W.cell? ⟨b, 4, none⟩ = some (.int .i64 (s.num : Nat))
  c5 : W.cell? ⟨b, 5, none⟩ = some (.string (ba s.out))
  c6 : W.cell? ⟨b, 6, none⟩ = some (erOf es s.why)
  fr : ∀ j, W.frozen? ⟨b, j, none⟩ = false
theorem Steps.at {W : World} {es : Nat → Addr} {dom : Nat → Prop} {L : Lay} {ru : Nat → Ru} {ins : Nat → List Inp} {st : Nat → Bf.St} (h : Steps W es dom L ru ins st) {i : Nat} (hi : dom i) : StepAt W es (L.sp i) (ru i) (L.iv i) (L.uv i) (st i) := by
  have r := h.step i hi
  exact ⟨cell_of_row (j := 0) r rfl, cell_of_row (j := 1) r rfl, cell_of_row (j := 2) r rfl, cell_of_row (j := 3) r rfl, cell_of_row (j := 4) r rfl, cell_of_row (j := 5) r rfl, cell_of_row (j := 6) r rfl, fun j => by simp [World.frozen?, r]⟩
theorem Steps.turn {W W' : World} {es : Nat → Addr} {dom : Nat → Prop} {L : Lay} {ru : Nat → Ru} {ins : Nat → List Inp} {st : Nat → Bf.St} (h : Steps W es dom L ru ins st) {i : Nat} (hi : dom i) (s : Bf.St) (hs : W'.heap[L.sp i]? = some (.cells (stepC es (ru i) (L.iv i) (L.uv i) s) 212)) (hb : ∀ j, j ≠ L.sp i → j < W.heap.size → W'.heap[j]? = W.heap[j]?) : Steps W' es dom L ru ins (Bf.setS st i s) := by
  have hlt := h.lt
  have nI : ∀ k, dom k → some (L.sp i) ≠ (L.iv k).ownBlock := fun k hk e => by
    obtain ⟨_, e'⟩ := own_in (h.insR k hk) e
    rw [h.step i hi] at e'
    cases e'
  have nU : ∀ k, dom k → some (L.sp i) ≠ (L.uv k).ownBlock := fun k hk e => by
    obtain ⟨_, e'⟩ := own_in (h.usR k hk) e
    rw [h.step i hi] at e'
    cases e'
  refine ⟨fun k hk => ?_, h.inj, fun k hk => own_same (h.insR k hk) fun j hj => hb j (fun e => nI k hk (e ▸ hj)) (hlt j ⟨k, hk, .inr (.inl hj)⟩), fun k hk => own_same (h.usR k hk) fun j hj => hb j (fun e => nU k hk (e ▸ hj)) (hlt j ⟨k, hk, .inr (.inr hj)⟩), h.insD, h.usD⟩
  by_cases e : k = i
  · subst e
    rw [Bf.setS_same]
    exact hs
  · rw [Bf.setS_other e]
    exact (hb _ (fun x => e (h.inj _ _ hk hi x)) (hlt _ ⟨k, hk, .inl rfl⟩)).trans (h.step k hk)
def stepElem : Value → Option (DataW Unit × List MemPlace)
  | .pointer (some ⟨b, 0, none⟩) => some (.lit (.int .i64 (b : Nat)), [])
  | .pointer none => some (.lit (.int .i64 (-1)), [])
  | _ => none
def stepP : Option Nat → Value
  | some b => Ptr b
  | none => .pointer none
def stepI : Option Nat → Int
  | some b => (b : Nat)
  | none => -1
theorem stepI_inj {a b : Option Nat} (h : stepI a = stepI b) : a = b := by
  cases a <;> cases b <;> simp [stepI] at h ⊢ <;> omega
theorem stepElem_mk (c : Option Nat) : stepElem (stepP c) = some (.lit (.int .i64 (stepI c)), []) := by cases c <;> rfl
theorem stepElem_inv (v : Value) (y : DataW Unit × List MemPlace) (h : stepElem v = some y) : ∃ c, v = stepP c := by
  unfold stepElem at h
  split at h
  · rename_i b
    exact ⟨some b, rfl⟩
  · exact ⟨none, rfl⟩
  · cases h
theorem ilaw : Keyed Tryz.prog 3 := int_keyed Tryz.underlying3
theorem ikey (i : Int) (h0 : -9223372036854775808 ≤ i) (h1 : i ≤ 9223372036854775807) : keyOf Tryz.prog 3 (.int .i64 i) = some (.int .i64 i) :=
  keyOf_int_mk Tryz.underlying3 (by
    have e1 : IntKind.i64.min = -9223372036854775808 := by decide
    have e2 : IntKind.i64.max = 9223372036854775807 := by decide
    simp [Lit.wf, e1, e2]
    omega)
def SMap (W : World) (bm n : Nat) (dom : Nat → Prop) (sp : Nat → Nat) : Prop :=
  ∃ D : DataW Unit, W.ownsMap Tryz.prog 3 stepElem bm n D ∧ (∀ i : Int, has D (.int .i64 i) = true ↔ 0 ≤ i ∧ dom i.toNat) ∧ ∀ k : Nat, dom k → ∀ z, D.atKey (.int .i64 (k : Nat)) z = .lit (.int .i64 (sp k : Nat))
theorem SMap.lt {W : World} {bm n : Nat} {dom : Nat → Prop} {sp : Nat → Nat} (h : SMap W bm n dom sp) : bm < W.heap.size := by
  obtain ⟨D, h1, _⟩ := h
  exact h1.lt
theorem SMap.same {W W' : World} {bm n : Nat} {dom : Nat → Prop} {sp : Nat → Nat} (h : SMap W bm n dom sp) (hb : W'.heap[bm]? = W.heap[bm]?) : SMap W' bm n dom sp := by
  obtain ⟨D, ⟨es, clock, h1, F⟩, h2⟩ := h
  exact ⟨D, ⟨es, clock, hb.trans h1, F⟩, h2⟩
theorem SMap.made (W : World) (sp : Nat → Nat) : SMap (W.alloc (.map #[] 0)) W.heap.size 0 (fun _ => False) sp :=
  ⟨.map [], World.ownsMap_made W _ _ _, fun i => by simp [has], fun k hk => hk.elim⟩
theorem SMap.look {W : World} {bm n : Nat} {dom : Nat → Prop} {sp : Nat → Nat} (h : SMap W bm n dom sp) (i : Int) (h0 : -9223372036854775808 ≤ i) (h1 : i ≤ 9223372036854775807) :
    ((0 ≤ i ∧ dom i.toNat) ∧ (Instr.lookup 201 (.map (some bm)) (.int .i64 i) true).run Tryz.prog W = .ok (.tuple #[Ptr (sp i.toNat), .bool true]) W) ∨
    (¬ (0 ≤ i ∧ dom i.toNat) ∧ (Instr.lookup 201 (.map (some bm)) (.int .i64 i) true).run Tryz.prog W = .ok (.tuple #[.pointer none, .bool false]) W) := by
  obtain ⟨D, h2, h3, h4⟩ := h
  obtain ⟨v, ps, hrun, hv⟩ := h2.look_ok (t := 201) (e := 205) ilaw Tryz.underlying201 (z := .pointer none) (Tryz.zeroValue205 W) (zd := .lit (.int .i64 (-1))) (zp := []) rfl (ikey i h0 h1)
  obtain ⟨c, rfl⟩ := stepElem_inv _ _ hv
  rw [stepElem_mk] at hv
  have hc : (DataW.lit (.int .i64 (stepI c)) : DataW Unit) = D.atKey (.int .i64 i) (.lit (.int .i64 (-1))) := by simpa using congrArg (fun o => o.map Prod.fst) hv
  rw [hrun]
  by_cases hd : 0 ≤ i ∧ dom i.toNat
  · have hh := (h3 i).2 hd
    have := h4 i.toNat hd.2 (.lit (.int .i64 (-1)))
    rw [show ((i.toNat : Nat) : Int) = i by omega] at this
    rw [this] at hc
    have : c = some (sp i.toNat) := stepI_inj (by simpa [stepI] using hc)
    exact .inl ⟨hd, by rw [hh, this]; rfl⟩
  · have hh : has D (.int .i64 i) = false := by
      rw [Bool.eq_false_iff]
      exact fun e => hd ((h3 i).1 e)
    have := atKey_of_not_has hh (.lit (.int .i64 (-1)))
    rw [this] at hc
    have : c = none := stepI_inj (by simpa [stepI] using hc)
    exact .inr ⟨hd, by rw [hh, this]; rfl⟩
end Go.Proofs.YtbgkfmodbofalaaGreatDoor
namespace Go.Proofs.YtbgkfmodbofalaaGreatDoor
open Go.RowKit Go.Shelf Go.Lib Go.Maps
abbrev wts : Nat → Bf.St := fun _ => .waits
structure Mk (es : Nat → Addr) (W0 W : World) (dom : Nat → Prop) (L : Lay) (ru : Nat → Ru) (ins : Nat → List Inp) : Prop where
  base : Below W0.heap.size W0 W
  steps : Steps W es dom L ru ins wts
  low : ∀ j, SBlk dom L j → W0.heap.size ≤ j
  sepU : ∀ i j, dom i → dom j → i ≠ j → ∀ b, (L.uv i).ownBlock = some b → (L.uv j).ownBlock ≠ some b
  sepI : ∀ i j, dom i → dom j → i ≠ j → ∀ b, (L.iv i).ownBlock = some b → (L.iv j).ownBlock ≠ some b
theorem Mk.below {es : Nat → Addr} {W0 W W' : World} {dom : Nat → Prop} {L : Lay} {ru : Nat → Ru} {ins : Nat → List Inp} (h : Mk es W0 W dom L ru ins) (hb : Below W.heap.size W W') : Mk es W0 W' dom L ru ins :=
  ⟨below_then h.base hb, h.steps.below hb, h.low, h.sepU, h.sepI⟩
def updN {α : Type} (f : Nat → α) (i : Nat) (x : α) : Nat → α := fun j => if j = i then x else f j
theorem updN_same {α : Type} (f : Nat → α) (i : Nat) (x : α) : updN f i x i = x := if_pos rfl
theorem updN_other {α : Type} {f : Nat → α} {i j : Nat} {x : α} (h : j ≠ i) : updN f i x j = f j := if_neg h
def Lay.addU (L : Lay) (k x : Nat) (v : Value) : Lay := { L with uv := updN L.uv k v, us := updN L.us k (L.us k ++ [x]) }
def Lay.setI (L : Lay) (k : Nat) (v : Value) : Lay := { L with iv := updN L.iv k v }
theorem lie_lt {W : World} {o : Obj} {v : Value} {g8 : Nat} (hl : v.ownBlock = some g8 ∨ g8 = (W.alloc o).heap.size) : v.ownBlock = some g8 ∨ W.heap.size ≤ g8 := by
  rcases hl with h | h
  · exact .inl h
  · exact .inr (by rw [h]; simp)
theorem Mk.appU {es : Nat → Addr} {W0 W w8 : World} {dom : Nat → Prop} {L : Lay} {ru : Nat → Ru} {ins : Nat → List Inp} (h : Mk es W0 W dom L ru ins) {k x : Nat} (hk : dom k) (hx : dom x) {o : Obj} {g8 cap8 : Nat} (hown : w8.ownsRow 0 205 1 (.slice (some ⟨g8, 0, none⟩) ((L.us k).length + 1) cap8) ((L.us k).length + 1) (usC L.sp (L.us k) ++ [Ptr (L.sp x)])) (hg : (W.alloc o).grownBy w8 (L.uv k).ownBlock) (hl : (L.uv k).ownBlock = some g8 ∨ g8 = (W.alloc o).heap.size) :
    w8.cell? ⟨L.sp k, 3, none⟩ = some (L.uv k) ∧ w8.frozen? ⟨L.sp k, 3, none⟩ = false ∧ L.sp k < w8.heap.size ∧
    Mk es W0 (w8.setCell ⟨L.sp k, 3, none⟩ (.slice (some ⟨g8, 0, none⟩) ((L.us k).length + 1) cap8)) dom (L.addU k x (.slice (some ⟨g8, 0, none⟩) ((L.us k).length + 1) cap8)) ru ins ∧
    Only (SBlk dom L) W (w8.setCell ⟨L.sp k, 3, none⟩ (.slice (some ⟨g8, 0, none⟩) ((L.us k).length + 1) cap8)) ∧
    ∀ j, SBlk dom (L.addU k x (.slice (some ⟨g8, 0, none⟩) ((L.us k).length + 1) cap8)) j → SBlk dom L j ∨ W.heap.size ≤ j := by
  generalize hv8 : Value.slice (some ⟨g8, 0, none⟩) ((L.us k).length + 1) cap8 = v8 at *
  have hS := h.steps
  have hlt := hS.lt
  have hza : (W.alloc o).heap.size = W.heap.size + 1 := by simp
  have hz8 := hg.size
  have hown8 : v8.ownBlock = some g8 := by rw [← hv8]; rfl
  obtain ⟨c8, h8⟩ := own_in hown hown8.symm
  have hl' := lie_lt hl
  have key : ∀ j, j < W.heap.size → some j ≠ (L.uv k).ownBlock → w8.heap[j]? = W.heap[j]? := fun j hj hn => (hg.block j (by omega) hn).trans (((Below.refl _ W).alloc (Nat.le_refl _) o).block j hj)
  have hne1 : some (L.sp k) ≠ (L.uv k).ownBlock := fun e => by
    obtain ⟨_, e'⟩ := own_in (hS.usR k hk) e
    rw [hS.step k hk] at e'
    cases e'
  have hkl := hlt (L.sp k) ⟨k, hk, .inl rfl⟩
  have r8 := (key (L.sp k) hkl hne1).trans (hS.step k hk)
  have hcs : ∀ j, j ≠ L.sp k → (w8.setCell ⟨L.sp k, 3, none⟩ v8).heap[j]? = w8.heap[j]? := fun j hj => Below.heap_setCell w8 _ _ j hj
  have hg8 : g8 ≠ L.sp k := fun e => by rw [e, r8] at h8; cases h8
  have hto : ∀ j, j < W.heap.size → some j ≠ (L.uv k).ownBlock → j ≠ L.sp k → (w8.setCell ⟨L.sp k, 3, none⟩ v8).heap[j]? = W.heap[j]? := fun j hj hn hn2 => (hcs j hn2).trans (key j hj hn)
  have hblk : ∀ j, SBlk dom (L.addU k x v8) j → SBlk dom L j ∨ W.heap.size ≤ j := by
    rintro j ⟨i, hi, e | e | e⟩
    · exact .inl ⟨i, hi, .inl e⟩
    · exact .inl ⟨i, hi, .inr (.inl e)⟩
    · by_cases ek : i = k
      · subst ek
        have e' : some j = v8.ownBlock := by
          have : (L.addU i x v8).uv i = v8 := updN_same _ _ _
          rw [this] at e
          exact e
        rw [hown8] at e'
        obtain rfl : j = g8 := by simpa using e'
        rcases hl' with h1 | h1
        · exact .inl ⟨i, hi, .inr (.inr h1.symm)⟩
        · exact .inr h1
      · have : (L.addU k x v8).uv i = L.uv i := updN_other ek
        rw [this] at e
        exact .inl ⟨i, hi, .inr (.inr e)⟩
  refine ⟨cell_of_row (j := 3) r8 rfl, by simp [World.frozen?, r8], by omega, ⟨?_, ?_, ?_, ?_, h.sepI⟩, ?_, hblk⟩
  · refine ⟨?_, ?_, ?_, ?_, fun j hj => ?_⟩
    · exact hg.os.trans h.base.os
    · exact hg.tape.trans h.base.tape
    · exact hg.output.trans h.base.output
    · have := h.base.size
      simp
      omega
    · have hb := h.base.size
      refine (hto j (by omega) (fun e => ?_) fun e => ?_).trans (h.base.block j hj)
      · have := h.low j ⟨k, hk, .inr (.inr e)⟩
        omega
      · have := h.low j ⟨k, hk, .inl e⟩
        omega
  · refine ⟨fun i hi => ?_, hS.inj, fun i hi => ?_, fun i hi => ?_, hS.insD, fun i hi j hj => ?_⟩
    · by_cases e : i = k
      · subst e
        show (w8.setCell ⟨L.sp i, 3, none⟩ v8).heap[L.sp i]? = _
        rw [heap_setCell_same w8 _ _ _ _ _ r8, show (L.addU i x v8).uv i = v8 from updN_same _ _ _]
        rfl
      · have e1 : L.sp i ≠ L.sp k := fun e' => e (hS.inj _ _ hi hk e')
        have e2 : some (L.sp i) ≠ (L.uv k).ownBlock := fun e' => by
          obtain ⟨_, e''⟩ := own_in (hS.usR k hk) e'
          rw [hS.step i hi] at e''
          cases e''
        rw [show (L.addU k x v8).uv i = L.uv i from updN_other e]
        exact (hto _ (hlt _ ⟨i, hi, .inl rfl⟩) e2 e1).trans (hS.step i hi)
    · refine own_same (hS.insR i hi) fun j hj => hto j (hlt j ⟨i, hi, .inr (.inl hj)⟩) (fun e' => ?_) fun e' => ?_
      · obtain ⟨_, a1⟩ := own_in (hS.usR k hk) e'
        obtain ⟨_, a2⟩ := own_in (hS.insR i hi) hj
        rw [a1] at a2
        cases a2
      · obtain ⟨_, a2⟩ := own_in (hS.insR i hi) hj
        rw [e', hS.step k hk] at a2
        cases a2
    · by_cases e : i = k
      · subst e
        rw [show (L.addU i x v8).uv i = v8 from updN_same _ _ _, show (L.addU i x v8).us i = L.us i ++ [x] from updN_same _ _ _]
        have : usC L.sp (L.us i ++ [x]) = usC L.sp (L.us i) ++ [Ptr (L.sp x)] := by simp [usC]
        show (w8.setCell ⟨L.sp i, 3, none⟩ v8).ownsRow 0 205 1 v8 (L.us i ++ [x]).length (usC L.sp (L.us i ++ [x]))
        rw [this, List.length_append, List.length_singleton]
        exact own_same hown fun j hj => hcs j fun e' => by
          rw [hown8] at hj
          have : j = g8 := by simpa using hj
          exact hg8 (by omega)
      · rw [show (L.addU k x v8).uv i = L.uv i from updN_other e, show (L.addU k x v8).us i = L.us i from updN_other e]
        refine own_same (hS.usR i hi) fun j hj => hto j (hlt j ⟨i, hi, .inr (.inr hj)⟩) (fun e' => ?_) fun e' => ?_
        · exact h.sepU i k hi hk e j hj.symm e'.symm
        · obtain ⟨_, a2⟩ := own_in (hS.usR i hi) hj
          rw [e', hS.step k hk] at a2
          cases a2
    · by_cases e : i = k
      · subst e
        rw [show (L.addU i x v8).us i = L.us i ++ [x] from updN_same _ _ _] at hj
        rcases List.mem_append.1 hj with h1 | h1
        · exact hS.usD i hi j h1
        · rw [List.mem_singleton.1 h1]; exact hx
      · rw [show (L.addU k x v8).us i = L.us i from updN_other e] at hj
        exact hS.usD i hi j hj
  · intro j hj
    rcases hblk j hj with h1 | h1
    · exact h.low j h1
    · have := h.base.size
      omega
  · intro i j hi hj hne b hb
    by_cases ei : i = k
    · subst ei
      rw [show (L.addU i x v8).uv i = v8 from updN_same _ _ _, hown8] at hb
      have hbg : b = g8 := by simpa using hb.symm
      rw [show (L.addU i x v8).uv j = L.uv j from updN_other fun e => hne e.symm]
      intro e
      rcases hl' with h1 | h1
      · exact h.sepU i j hi hj hne b (by rw [hbg]; exact h1) e
      · have := hlt b ⟨j, hj, .inr (.inr e.symm)⟩
        omega
    · rw [show (L.addU k x v8).uv i = L.uv i from updN_other ei] at hb
      by_cases ej : j = k
      · subst ej
        rw [show (L.addU j x v8).uv j = v8 from updN_same _ _ _, hown8]
        intro e
        have hbg : b = g8 := by simpa using e.symm
        rcases hl' with h1 | h1
        · exact h.sepU i j hi hj hne b hb (by rw [hbg]; exact h1)
        · have := hlt b ⟨i, hi, .inr (.inr hb.symm)⟩
          omega
      · rw [show (L.addU k x v8).uv j = L.uv j from updN_other ej]
        exact h.sepU i j hi hj hne b hb
  · refine ⟨hg.os, hg.tape, hg.output, by simp; omega, fun j hj hn => hto j hj (fun e => hn ⟨k, hk, .inr (.inr e)⟩) fun e => hn ⟨k, hk, .inl e⟩⟩
theorem Mk.appI {es : Nat → Addr} {W0 W w8 : World} {dom : Nat → Prop} {L : Lay} {ru : Nat → Ru} {ins : Nat → List Inp} (h : Mk es W0 W dom L ru ins) {k : Nat} (hk : dom k) (x : Inp) (hx : ∀ j, x = .rule j → dom j) {o : Obj} {g8 cap8 : Nat} (hown : w8.ownsRow 0 252 3 (.slice (some ⟨g8, 0, none⟩) ((ins k).length + 1) cap8) ((ins k).length + 1) (insC L.sp (ins k) ++ x.vals L.sp)) (hg : (W.alloc o).grownBy w8 (L.iv k).ownBlock) (hl : (L.iv k).ownBlock = some g8 ∨ g8 = (W.alloc o).heap.size) :
    w8.cell? ⟨L.sp k, 2, none⟩ = some (L.iv k) ∧ w8.frozen? ⟨L.sp k, 2, none⟩ = false ∧ L.sp k < w8.heap.size ∧
    Mk es W0 (w8.setCell ⟨L.sp k, 2, none⟩ (.slice (some ⟨g8, 0, none⟩) ((ins k).length + 1) cap8)) dom (L.setI k (.slice (some ⟨g8, 0, none⟩) ((ins k).length + 1) cap8)) ru (updN ins k (ins k ++ [x])) ∧
    Only (SBlk dom L) W (w8.setCell ⟨L.sp k, 2, none⟩ (.slice (some ⟨g8, 0, none⟩) ((ins k).length + 1) cap8)) ∧
    ∀ j, SBlk dom (L.setI k (.slice (some ⟨g8, 0, none⟩) ((ins k).length + 1) cap8)) j → SBlk dom L j ∨ W.heap.size ≤ j := by
  generalize hv8 : Value.slice (some ⟨g8, 0, none⟩) ((ins k).length + 1) cap8 = v8 at *
  have hS := h.steps
  have hlt := hS.lt
  have hza : (W.alloc o).heap.size = W.heap.size + 1 := by simp
  have hz8 := hg.size
  have hown8 : v8.ownBlock = some g8 := by rw [← hv8]; rfl
  obtain ⟨c8, h8⟩ := own_in hown hown8.symm
  have hl' := lie_lt hl
  have key : ∀ j, j < W.heap.size → some j ≠ (L.iv k).ownBlock → w8.heap[j]? = W.heap[j]? := fun j hj hn => (hg.block j (by omega) hn).trans (((Below.refl _ W).alloc (Nat.le_refl _) o).block j hj)
  have hne1 : some (L.sp k) ≠ (L.iv k).ownBlock := fun e => by
    obtain ⟨_, e'⟩ := own_in (hS.insR k hk) e
    rw [hS.step k hk] at e'
    cases e'
  have hkl := hlt (L.sp k) ⟨k, hk, .inl rfl⟩
  have r8 := (key (L.sp k) hkl hne1).trans (hS.step k hk)
  have hcs : ∀ j, j ≠ L.sp k → (w8.setCell ⟨L.sp k, 2, none⟩ v8).heap[j]? = w8.heap[j]? := fun j hj => Below.heap_setCell w8 _ _ j hj
  have hg8 : g8 ≠ L.sp k := fun e => by rw [e, r8] at h8; cases h8
  have hto : ∀ j, j < W.heap.size → some j ≠ (L.iv k).ownBlock → j ≠ L.sp k → (w8.setCell ⟨L.sp k, 2, none⟩ v8).heap[j]? = W.heap[j]? := fun j hj hn hn2 => (hcs j hn2).trans (key j hj hn)
  have hblk : ∀ j, SBlk dom (L.setI k v8) j → SBlk dom L j ∨ W.heap.size ≤ j := by
    rintro j ⟨i, hi, e | e | e⟩
    · exact .inl ⟨i, hi, .inl e⟩
    · by_cases ek : i = k
      · subst ek
        have e' : some j = v8.ownBlock := by
          have : (L.setI i v8).iv i = v8 := updN_same _ _ _
          rw [this] at e
          exact e
        rw [hown8] at e'
        obtain rfl : j = g8 := by simpa using e'
        rcases hl' with h1 | h1
        · exact .inl ⟨i, hi, .inr (.inl h1.symm)⟩
        · exact .inr h1
      · have : (L.setI k v8).iv i = L.iv i := updN_other ek
        rw [this] at e
        exact .inl ⟨i, hi, .inr (.inl e)⟩
    · exact .inl ⟨i, hi, .inr (.inr e)⟩
  refine ⟨cell_of_row (j := 2) r8 rfl, by simp [World.frozen?, r8], by omega, ⟨?_, ?_, ?_, h.sepU, ?_⟩, ?_, hblk⟩
  · refine ⟨?_, ?_, ?_, ?_, fun j hj => ?_⟩
    · exact hg.os.trans h.base.os
    · exact hg.tape.trans h.base.tape
    · exact hg.output.trans h.base.output
    · have := h.base.size
      simp
      omega
    · have hb := h.base.size
      refine (hto j (by omega) (fun e => ?_) fun e => ?_).trans (h.base.block j hj)
      · have := h.low j ⟨k, hk, .inr (.inl e)⟩
        omega
      · have := h.low j ⟨k, hk, .inl e⟩
        omega
  · refine ⟨fun i hi => ?_, hS.inj, fun i hi => ?_, fun i hi => ?_, fun i hi j hj => ?_, hS.usD⟩
    · by_cases e : i = k
      · subst e
        show (w8.setCell ⟨L.sp i, 2, none⟩ v8).heap[L.sp i]? = _
        rw [heap_setCell_same w8 _ _ _ _ _ r8, show (L.setI i v8).iv i = v8 from updN_same _ _ _]
        rfl
      · have e1 : L.sp i ≠ L.sp k := fun e' => e (hS.inj _ _ hi hk e')
        have e2 : some (L.sp i) ≠ (L.iv k).ownBlock := fun e' => by
          obtain ⟨_, e''⟩ := own_in (hS.insR k hk) e'
          rw [hS.step i hi] at e''
          cases e''
        rw [show (L.setI k v8).iv i = L.iv i from updN_other e]
        exact (hto _ (hlt _ ⟨i, hi, .inl rfl⟩) e2 e1).trans (hS.step i hi)
    · by_cases e : i = k
      · subst e
        rw [show (L.setI i v8).iv i = v8 from updN_same _ _ _, updN_same]
        show (w8.setCell ⟨L.sp i, 2, none⟩ v8).ownsRow 0 252 3 v8 (ins i ++ [x]).length (insC L.sp (ins i ++ [x]))
        rw [insC_snoc, List.length_append, List.length_singleton]
        exact own_same hown fun j hj => hcs j fun e' => by
          rw [hown8] at hj
          have : j = g8 := by simpa using hj
          exact hg8 (by omega)
      · rw [show (L.setI k v8).iv i = L.iv i from updN_other e, updN_other e]
        refine own_same (hS.insR i hi) fun j hj => hto j (hlt j ⟨i, hi, .inr (.inl hj)⟩) (fun e' => ?_) fun e' => ?_
        · exact h.sepI i k hi hk e j hj.symm e'.symm
        · obtain ⟨_, a2⟩ := own_in (hS.insR i hi) hj
          rw [e', hS.step k hk] at a2
          cases a2
    · refine own_same (hS.usR i hi) fun j hj => hto j (hlt j ⟨i, hi, .inr (.inr hj)⟩) (fun e' => ?_) fun e' => ?_
      · obtain ⟨_, a1⟩ := own_in (hS.insR k hk) e'
        obtain ⟨_, a2⟩ := own_in (hS.usR i hi) hj
        rw [a1] at a2
        cases a2
      · obtain ⟨_, a2⟩ := own_in (hS.usR i hi) hj
        rw [e', hS.step k hk] at a2
        cases a2
    · by_cases e : i = k
      · subst e
        rw [updN_same] at hj
        rcases List.mem_append.1 hj with h1 | h1
        · exact hS.insD i hi j h1
        · exact hx j (List.mem_singleton.1 h1).symm
      · rw [updN_other e] at hj
        exact hS.insD i hi j hj
  · intro j hj
    rcases hblk j hj with h1 | h1
    · exact h.low j h1
    · have := h.base.size
      omega
  · intro i j hi hj hne b hb
    by_cases ei : i = k
    · subst ei
      rw [show (L.setI i v8).iv i = v8 from updN_same _ _ _, hown8] at hb
      have hbg : b = g8 := by simpa using hb.symm
      rw [show (L.setI i v8).iv j = L.iv j from updN_other fun e => hne e.symm]
      intro e
      rcases hl' with h1 | h1
      · exact h.sepI i j hi hj hne b (by rw [hbg]; exact h1) e
      · have := hlt b ⟨j, hj, .inr (.inl e.symm)⟩
        omega
    · rw [show (L.setI k v8).iv i = L.iv i from updN_other ei] at hb
      by_cases ej : j = k
      · subst ej
        rw [show (L.setI j v8).iv j = v8 from updN_same _ _ _, hown8]
        intro e
        have hbg : b = g8 := by simpa using e.symm
        rcases hl' with h1 | h1
        · exact h.sepI i j hi hj hne b hb (by rw [hbg]; exact h1)
        · have := hlt b ⟨i, hi, .inr (.inl hb.symm)⟩
          omega
      · rw [show (L.setI k v8).iv j = L.iv j from updN_other ej]
        exact h.sepI i j hi hj hne b hb
  · refine ⟨hg.os, hg.tape, hg.output, by simp; omega, fun j hj hn => hto j hj (fun e => hn ⟨k, hk, .inr (.inl e)⟩) fun e => hn ⟨k, hk, .inl e⟩⟩
end Go.Proofs.YtbgkfmodbofalaaGreatDoor
