import Derived.Test.YtmhipgompplkdaaGreatDoorWT21
import Derived.Maps.RangeWalk
import Derived.Deep.RegionHeld3
import Derived.Test.YtmhipgompplkdaaGreatDoorWT19
namespace Go.Proofs.YtmhipgompplkdaaGreatDoor
open Go.RowKit Go.Shelf Go.Lib Go.Maps
def Bf.St.num : Bf.St → Nat
  | .no => 0 | .waits => 0 | .done _ false => 1 | .done _ true => 2 | .failed _ => 3 | .left => 4
inductive Inp where
  | rule (k : Nat) | file (b : List UInt8) | gone
def Inp.vals (sp : Nat → Nat) : Inp → List Value
  | .rule k => [Ptr (sp k), .string (ba []), .bool false]
  | .file b => [.pointer none, .string (ba b), .bool true]
  | .gone => [.pointer none, .string (ba []), .bool false]
def Inp.from (sp : Nat → Nat) : Inp → Value
  | .rule k => Ptr (sp k)
  | _ => .pointer none
def Inp.text : Inp → List UInt8
  | .file b => b
  | _ => []
def Inp.there : Inp → Bool
  | .file _ => true
  | _ => false
theorem Inp.vals_eq (sp : Nat → Nat) (x : Inp) : x.vals sp = [x.from sp, .string (ba x.text), .bool x.there] := by cases x <;> rfl
def insC (sp : Nat → Nat) (l : List Inp) : List Value := l.flatMap (Inp.vals sp)
theorem insC_snoc (sp : Nat → Nat) (l : List Inp) (x : Inp) : insC sp (l ++ [x]) = insC sp l ++ x.vals sp := by simp [insC]
theorem insC_get (sp : Nat → Nat) : ∀ (l : List Inp) (j : Nat) (hj : j < l.length), (insC sp l)[j * 3]? = some (l[j].from sp) ∧ (insC sp l)[j * 3 + 1]? = some (.string (ba l[j].text)) ∧ (insC sp l)[j * 3 + 2]? = some (.bool l[j].there)
  | [], j, hj => by simp at hj
  | x :: t, 0, _ => by
    have e : insC sp (x :: t) = [x.from sp, .string (ba x.text), .bool x.there] ++ insC sp t := by
      rw [← Inp.vals_eq]; rfl
    rw [e]
    exact ⟨rfl, rfl, rfl⟩
  | x :: t, j + 1, hj => by
    have e : insC sp (x :: t) = [x.from sp, .string (ba x.text), .bool x.there] ++ insC sp t := by
      rw [← Inp.vals_eq]; rfl
    obtain ⟨h0, h1, h2⟩ := insC_get sp t j (by simpa using hj)
    rw [e]
    refine ⟨?_, ?_, ?_⟩
    · rw [List.getElem?_append_right (by simp; omega)]
      simpa [show (j + 1) * 3 - 3 = j * 3 by omega] using h0
    · rw [List.getElem?_append_right (by simp; omega)]
      simpa [show (j + 1) * 3 + 1 - 3 = j * 3 + 1 by omega] using h1
    · rw [List.getElem?_append_right (by simp; omega)]
      simpa [show (j + 1) * 3 + 2 - 3 = j * 3 + 2 by omega] using h2
theorem insC_congr {sp sp' : Nat → Nat} : ∀ {l : List Inp}, (∀ k, Inp.rule k ∈ l → sp k = sp' k) → insC sp l = insC sp' l
  | [], _ => rfl
  | x :: t, h => by
    have := insC_congr (l := t) fun k hk => h k (List.mem_cons_of_mem _ hk)
    have e : x.vals sp = x.vals sp' := by
      cases x with
      | rule k => simp [Inp.vals, h k (by simp)]
      | file b => rfl
      | gone => rfl
    show x.vals sp ++ insC sp t = x.vals sp' ++ insC sp' t
    rw [this, e]
structure Lay where
  sp : Nat → Nat
  iv : Nat → Value
  uv : Nat → Value
  us : Nat → List Nat
def usC (sp : Nat → Nat) (l : List Nat) : List Value := l.map fun j => Ptr (sp j)
theorem usC_congr {sp sp' : Nat → Nat} {l : List Nat} (h : ∀ k ∈ l, sp k = sp' k) : usC sp l = usC sp' l := by
  unfold usC
  refine List.map_congr_left fun k hk => ?_
  rw [h k hk]
def stepC (es : Nat → Addr) (r : Ru) (iv uv : Value) (s : Bf.St) : Array Value := #[.string (ba r.kind), .string (ba r.word), iv, uv, .int .i64 (s.num : Nat), .string (ba s.out), erOf es s.why]
structure Steps (W : World) (es : Nat → Addr) (dom : Nat → Prop) (L : Lay) (ru : Nat → Ru) (ins : Nat → List Inp) (st : Nat → Bf.St) : Prop where
  step : ∀ i, dom i → W.heap[L.sp i]? = some (.cells (stepC es (ru i) (L.iv i) (L.uv i) (st i)) 203)
  inj : ∀ i j, dom i → dom j → L.sp i = L.sp j → i = j
  insR : ∀ i, dom i → W.ownsRow 0 246 3 (L.iv i) (ins i).length (insC L.sp (ins i))
  usR : ∀ i, dom i → W.ownsRow 0 196 1 (L.uv i) (L.us i).length (usC L.sp (L.us i))
  insD : ∀ i, dom i → ∀ k, Inp.rule k ∈ ins i → dom k
  usD : ∀ i, dom i → ∀ j ∈ L.us i, dom j
def SBlk (dom : Nat → Prop) (L : Lay) (j : Nat) : Prop := ∃ i, dom i ∧ (j = L.sp i ∨ some j = (L.iv i).ownBlock ∨ some j = (L.uv i).ownBlock)
theorem own_same {W W' : World} {B : Nat} {e : TypeId} {s n : Nat} {v : Value} {xs : List Value} (h : W.ownsRow B e s v n xs) (hb : ∀ j, some j = v.ownBlock → W'.heap[j]? = W.heap[j]?) : W'.ownsRow B e s v n xs := by
  refine ⟨h.1, ?_⟩
  rcases h.2 with h1 | ⟨g, cap, cur, e, h0, hg, h2⟩
  · exact .inl h1
  · exact .inr ⟨g, cap, cur, e, h0, (hb g (by rw [e]; rfl)).trans hg, h2⟩
theorem own_in {W : World} {B : Nat} {e : TypeId} {s n : Nat} {v : Value} {xs : List Value} (h : W.ownsRow B e s v n xs) {j : Nat} (hj : some j = v.ownBlock) : ∃ cur, W.heap[j]? = some (.cells cur e) := by
  rcases h.2 with ⟨e, _⟩ | ⟨g, cap, cur, e, h0, hg, h2⟩
  · rw [e] at hj; cases hj
  · rw [e] at hj
    have : j = g := by simpa [Value.ownBlock] using hj
    subst this
    exact ⟨cur, hg⟩
theorem own_cell {W : World} {B : Nat} {e : TypeId} {s n : Nat} {v : Value} {xs : List Value} (h : W.ownsRow B e s v n xs) (hn : 0 < n) : ∃ g cap, v = .slice (some ⟨g, 0, none⟩) n cap ∧ ∀ j u, xs[j]? = some u → W.cell? ⟨g, j, none⟩ = some u := by
  rcases h.2 with ⟨e, h0⟩ | ⟨g, cap, cur, e, h0, hg, h2, h3, h4, h5⟩
  · omega
  · refine ⟨g, cap, e, fun j u hu => ?_⟩
    refine cell_of_row hg ?_
    have hj : j < xs.length := (List.getElem?_eq_some_iff.1 hu).1
    rw [← h5] at hu
    rw [List.getElem?_take] at hu
    split at hu
    · simpa using hu
    · cases hu
theorem own_val {W : World} {B : Nat} {e : TypeId} {s n : Nat} {v : Value} {xs : List Value} (h : W.ownsRow B e s v n xs) : ∃ p cap, v = .slice p n cap := by
  rcases h.2 with ⟨e, h0⟩ | ⟨g, cap, cur, e, _⟩
  · exact ⟨none, 0, by rw [h0]; exact e⟩
  · exact ⟨_, _, e⟩
theorem Steps.lt {W : World} {es : Nat → Addr} {dom : Nat → Prop} {L : Lay} {ru : Nat → Ru} {ins : Nat → List Inp} {st : Nat → Bf.St} (h : Steps W es dom L ru ins st) : ∀ j, SBlk dom L j → j < W.heap.size := by
  rintro j ⟨i, hi, rfl | hj | hj⟩
  · exact (Array.getElem?_eq_some_iff.1 (h.step i hi)).1
  · obtain ⟨_, e⟩ := own_in (h.insR i hi) hj
    exact (Array.getElem?_eq_some_iff.1 e).1
  · obtain ⟨_, e⟩ := own_in (h.usR i hi) hj
    exact (Array.getElem?_eq_some_iff.1 e).1
theorem Steps.same {W W' : World} {es : Nat → Addr} {dom : Nat → Prop} {L : Lay} {ru : Nat → Ru} {ins : Nat → List Inp} {st : Nat → Bf.St} (h : Steps W es dom L ru ins st) (hb : ∀ j, SBlk dom L j → W'.heap[j]? = W.heap[j]?) : Steps W' es dom L ru ins st :=
  ⟨fun i hi => (hb _ ⟨i, hi, .inl rfl⟩).trans (h.step i hi), h.inj, fun i hi => own_same (h.insR i hi) fun j hj => hb j ⟨i, hi, .inr (.inl hj)⟩, fun i hi => own_same (h.usR i hi) fun j hj => hb j ⟨i, hi, .inr (.inr hj)⟩, h.insD, h.usD⟩
theorem Steps.below {W W' : World} {es : Nat → Addr} {dom : Nat → Prop} {L : Lay} {ru : Nat → Ru} {ins : Nat → List Inp} {st : Nat → Bf.St} (h : Steps W es dom L ru ins st) (hb : Below W.heap.size W W') : Steps W' es dom L ru ins st := h.same fun j hj => hb.block j (h.lt j hj)
theorem Steps.congr {W : World} {es : Nat → Addr} {dom : Nat → Prop} {L : Lay} {ru : Nat → Ru} {ins : Nat → List Inp} {st st' : Nat → Bf.St} (h : Steps W es dom L ru ins st) (he : ∀ i, dom i → st' i = st i) : Steps W es dom L ru ins st' :=
  ⟨fun i hi => by rw [he i hi]; exact h.step i hi, h.inj, h.insR, h.usR, h.insD, h.usD⟩
structure StepAt (W : World) (es : Nat → Addr) (b : Nat) (r : Ru) (iv uv : Value) (s : Bf.St) : Prop where
  c0 : W.cell? ⟨b, 0, none⟩ = some (.string (ba r.kind))
  c1 : W.cell? ⟨b, 1, none⟩ = some (.string (ba r.word))
  c2 : W.cell? ⟨b, 2, none⟩ = some iv
  c3 : W.cell? ⟨b, 3, none⟩ = some uv
  c4 : W.cell? ⟨b, 4, none⟩ = some (.int .i64 (s.num : Nat))
  c5 : W.cell? ⟨b, 5, none⟩ = some (.string (ba s.out))
  c6 : W.cell? ⟨b, 6, none⟩ = some (erOf es s.why)
  fr : ∀ j, W.frozen? ⟨b, j, none⟩ = false
theorem Steps.at {W : World} {es : Nat → Addr} {dom : Nat → Prop} {L : Lay} {ru : Nat → Ru} {ins : Nat → List Inp} {st : Nat → Bf.St} (h : Steps W es dom L ru ins st) {i : Nat} (hi : dom i) : StepAt W es (L.sp i) (ru i) (L.iv i) (L.uv i) (st i) := by
  have r := h.step i hi
  exact ⟨cell_of_row (j := 0) r rfl, cell_of_row (j := 1) r rfl, cell_of_row (j := 2) r rfl, cell_of_row (j := 3) r rfl, cell_of_row (j := 4) r rfl, cell_of_row (j := 5) r rfl, cell_of_row (j := 6) r rfl, fun j => by simp [World.frozen?, r]⟩
theorem Steps.turn {W W' : World} {es : Nat → Addr} {dom : Nat → Prop} {L : Lay} {ru : Nat → Ru} {ins : Nat → List Inp} {st : Nat → Bf.St} (h : Steps W es dom L ru ins st) {i : Nat} (hi : dom i) (s : Bf.St) (hs : W'.heap[L.sp i]? = some (.cells (stepC es (ru i) (L.iv i) (L.uv i) s) 203)) (hb : ∀ j, j ≠ L.sp i → j < W.heap.size → W'.heap[j]? = W.heap[j]?) : Steps W' es dom L ru ins (Bf.setS st i s) := by
  have hlt := h.lt
  have nI : ∀ k, dom k → some (L.sp i) ≠ (L.iv k).ownBlock := fun k hk e => by
    obtain ⟨_, e'⟩ := own_in (h.insR k hk) e
    rw [h.step i hi] at e'
    cases e'
  have nU : ∀ k, dom k → some (L.sp i) ≠ (L.uv k).ownBlock := fun k hk e => by
    obtain ⟨_, e'⟩ := own_in (h.usR k hk) e
    rw [h.step i hi] at e'
    cases e'
  refine ⟨fun k hk => ?_, h.inj, fun k hk => own_same (h.insR k hk) fun j hj => hb j (fun e => nI k hk (e ▸ hj)) (hlt j ⟨k, hk, .inr (.inl hj)⟩), fun k hk => own_same (h.usR k hk) fun j hj => hb j (fun e => nU k hk (e ▸ hj)) (hlt j ⟨k, hk, .inr (.inr hj)⟩), h.insD, h.usD⟩
  by_cases e : k = i
  · subst e
    rw [Bf.setS_same]
    exact hs
  · rw [Bf.setS_other e]
    exact (hb _ (fun x => e (h.inj _ _ hk hi x)) (hlt _ ⟨k, hk, .inl rfl⟩)).trans (h.step k hk)
def stepElem : Value → Option (DataW Unit × List MemPlace)
  | .pointer (some ⟨b, 0, none⟩) => some (.lit (.int .i64 (b : Nat)), [])
  | .pointer none => some (.lit (.int .i64 (-1)), [])
  | _ => none
def stepP : Option Nat → Value
  | some b => Ptr b
  | none => .pointer none
def stepI : Option Nat → Int
  | some b => (b : Nat)
  | none => -1
theorem stepI_inj {a b : Option Nat} (h : stepI a = stepI b) : a = b := by
  cases a <;> cases b <;> simp [stepI] at h ⊢ <;> omega
theorem stepElem_mk (c : Option Nat) : stepElem (stepP c) = some (.lit (.int .i64 (stepI c)), []) := by cases c <;> rfl
theorem stepElem_inv (v : Value) (y : DataW Unit × List MemPlace) (h : stepElem v = some y) : ∃ c, v = stepP c := by
  unfold stepElem at h
  split at h
  · rename_i b
    exact ⟨some b, rfl⟩
  · exact ⟨none, rfl⟩
  · cases h
theorem ilaw : Keyed Tryz.prog 3 := int_keyed Tryz.underlying3
theorem ikey (i : Int) (h0 : -9223372036854775808 ≤ i) (h1 : i ≤ 9223372036854775807) : keyOf Tryz.prog 3 (.int .i64 i) = some (.int .i64 i) :=
  keyOf_int_mk Tryz.underlying3 (by
    have e1 : IntKind.i64.min = -9223372036854775808 := by decide
    have e2 : IntKind.i64.max = 9223372036854775807 := by decide
    simp [Lit.wf, e1, e2]
    omega)
def SMap (W : World) (bm n : Nat) (dom : Nat → Prop) (sp : Nat → Nat) : Prop :=
  ∃ D : DataW Unit, W.ownsMap Tryz.prog 3 stepElem bm n D ∧ (∀ i : Int, has D (.int .i64 i) = true ↔ 0 ≤ i ∧ dom i.toNat) ∧ ∀ k : Nat, dom k → ∀ z, D.atKey (.int .i64 (k : Nat)) z = .lit (.int .i64 (sp k : Nat))
theorem SMap.lt {W : World} {bm n : Nat} {dom : Nat → Prop} {sp : Nat → Nat} (h : SMap W bm n dom sp) : bm < W.heap.size := by
  obtain ⟨D, h1, _⟩ := h
  exact h1.lt
theorem SMap.same {W W' : World} {bm n : Nat} {dom : Nat → Prop} {sp : Nat → Nat} (h : SMap W bm n dom sp) (hb : W'.heap[bm]? = W.heap[bm]?) : SMap W' bm n dom sp := by
  obtain ⟨D, ⟨es, clock, h1, F⟩, h2⟩ := h
  exact ⟨D, ⟨es, clock, hb.trans h1, F⟩, h2⟩
theorem SMap.made (W : World) (sp : Nat → Nat) : SMap (W.alloc (.map #[] 0)) W.heap.size 0 (fun _ => False) sp :=
  ⟨.map [], World.ownsMap_made W _ _ _, fun i => by simp [has], fun k hk => hk.elim⟩
theorem SMap.look {W : World} {bm n : Nat} {dom : Nat → Prop} {sp : Nat → Nat} (h : SMap W bm n dom sp) (i : Int) (h0 : -9223372036854775808 ≤ i) (h1 : i ≤ 9223372036854775807) :
    ((0 ≤ i ∧ dom i.toNat) ∧ (Instr.lookup 192 (.map (some bm)) (.int .i64 i) true).run Tryz.prog W = .ok (.tuple #[Ptr (sp i.toNat), .bool true]) W) ∨
    (¬ (0 ≤ i ∧ dom i.toNat) ∧ (Instr.lookup 192 (.map (some bm)) (.int .i64 i) true).run Tryz.prog W = .ok (.tuple #[.pointer none, .bool false]) W) := by
  obtain ⟨D, h2, h3, h4⟩ := h
  obtain ⟨v, ps, hrun, hv⟩ := h2.look_ok (t := 192) (e := 196) ilaw Tryz.underlying192 (z := .pointer none) (Tryz.zeroValue196 W) (zd := .lit (.int .i64 (-1))) (zp := []) rfl (ikey i h0 h1)
  obtain ⟨c, rfl⟩ := stepElem_inv _ _ hv
  rw [stepElem_mk] at hv
  have hc : (DataW.lit (.int .i64 (stepI c)) : DataW Unit) = D.atKey (.int .i64 i) (.lit (.int .i64 (-1))) := by simpa using congrArg (fun o => o.map Prod.fst) hv
  rw [hrun]
  by_cases hd : 0 ≤ i ∧ dom i.toNat
  · have hh := (h3 i).2 hd
    have := h4 i.toNat hd.2 (.lit (.int .i64 (-1)))
    rw [show ((i.toNat : Nat) : Int) = i by omega] at this
    rw [this] at hc
    have : c = some (sp i.toNat) := stepI_inj (by simpa [stepI] using hc)
    exact .inl ⟨hd, by rw [hh, this]; rfl⟩
  · have hh : has D (.int .i64 i) = false := by
      rw [Bool.eq_false_iff]
      exact fun e => hd ((h3 i).1 e)
    have := atKey_of_not_has hh (.lit (.int .i64 (-1)))
    rw [this] at hc
    have : c = none := stepI_inj (by simpa [stepI] using hc)
    exact .inr ⟨hd, by rw [hh, this]; rfl⟩
end Go.Proofs.YtmhipgompplkdaaGreatDoor
namespace Go.Proofs.YtmhipgompplkdaaGreatDoor
open Go.RowKit Go.Shelf Go.Lib Go.Maps
abbrev wts : Nat → Bf.St := fun _ => .waits
structure Mk (es : Nat → Addr) (W0 W : World) (dom : Nat → Prop) (L : Lay) (ru : Nat → Ru) (ins : Nat → List Inp) : Prop where
  base : Below W0.heap.size W0 W
  steps : Steps W es dom L ru ins wts
  low : ∀ j, SBlk dom L j → W0.heap.size ≤ j
  sepU : ∀ i j, dom i → dom j → i ≠ j → ∀ b, (L.uv i).ownBlock = some b → (L.uv j).ownBlock ≠ some b
  sepI : ∀ i j, dom i → dom j → i ≠ j → ∀ b, (L.iv i).ownBlock = some b → (L.iv j).ownBlock ≠ some b
theorem Mk.below {es : Nat → Addr} {W0 W W' : World} {dom : Nat → Prop} {L : Lay} {ru : Nat → Ru} {ins : Nat → List Inp} (h : Mk es W0 W dom L ru ins) (hb : Below W.heap.size W W') : Mk es W0 W' dom L ru ins :=
  ⟨below_then h.base hb, h.steps.below hb, h.low, h.sepU, h.sepI⟩
def updN {α : Type} (f : Nat → α) (i : Nat) (x : α) : Nat → α := fun j => if j = i then x else f j
theorem updN_same {α : Type} (f : Nat → α) (i : Nat) (x : α) : updN f i x i = x := if_pos rfl
theorem updN_other {α : Type} {f : Nat → α} {i j : Nat} {x : α} (h : j ≠ i) : updN f i x j = f j := if_neg h
def Lay.setI (L : Lay) (k : Nat) (v : Value) : Lay := { L with iv := updN L.iv k v }
theorem lie_lt {W : World} {o : Obj} {v : Value} {g8 : Nat} (hl : v.ownBlock = some g8 ∨ g8 = (W.alloc o).heap.size) : v.ownBlock = some g8 ∨ W.heap.size ≤ g8 := by
  rcases hl with h | h
  · exact .inl h
  · exact .inr (by rw [h]; simp)
theorem Mk.appI {es : Nat → Addr} {W0 W w8 : World} {dom : Nat → Prop} {L : Lay} {ru : Nat → Ru} {ins : Nat → List Inp} (h : Mk es W0 W dom L ru ins) {k : Nat} (hk : dom k) (x : Inp) (hx : ∀ j, x = .rule j → dom j) {o : Obj} {g8 cap8 : Nat} (hown : w8.ownsRow 0 246 3 (.slice (some ⟨g8, 0, none⟩) ((ins k).length + 1) cap8) ((ins k).length + 1) (insC L.sp (ins k) ++ x.vals L.sp)) (hg : (W.alloc o).grownBy w8 (L.iv k).ownBlock) (hl : (L.iv k).ownBlock = some g8 ∨ g8 = (W.alloc o).heap.size) :
    w8.cell? ⟨L.sp k, 2, none⟩ = some (L.iv k) ∧ w8.frozen? ⟨L.sp k, 2, none⟩ = false ∧ L.sp k < w8.heap.size ∧
    Mk es W0 (w8.setCell ⟨L.sp k, 2, none⟩ (.slice (some ⟨g8, 0, none⟩) ((ins k).length + 1) cap8)) dom (L.setI k (.slice (some ⟨g8, 0, none⟩) ((ins k).length + 1) cap8)) ru (updN ins k (ins k ++ [x])) ∧
    Only (SBlk dom L) W (w8.setCell ⟨L.sp k, 2, none⟩ (.slice (some ⟨g8, 0, none⟩) ((ins k).length + 1) cap8)) ∧
    ∀ j, SBlk dom (L.setI k (.slice (some ⟨g8, 0, none⟩) ((ins k).length + 1) cap8)) j → SBlk dom L j ∨ W.heap.size ≤ j := by
  generalize hv8 : Value.slice (some ⟨g8, 0, none⟩) ((ins k).length + 1) cap8 = v8 at *
  have hS := h.steps
  have hlt := hS.lt
  have hza : (W.alloc o).heap.size = W.heap.size + 1 := by simp
  have hz8 := hg.size
  have hown8 : v8.ownBlock = some g8 := by rw [← hv8]; rfl
  obtain ⟨c8, h8⟩ := own_in hown hown8.symm
  have hl' := lie_lt hl
  have key : ∀ j, j < W.heap.size → some j ≠ (L.iv k).ownBlock → w8.heap[j]? = W.heap[j]? := fun j hj hn => (hg.block j (by omega) hn).trans (((Below.refl _ W).alloc (Nat.le_refl _) o).block j hj)
  have hne1 : some (L.sp k) ≠ (L.iv k).ownBlock := fun e => by
    obtain ⟨_, e'⟩ := own_in (hS.insR k hk) e
    rw [hS.step k hk] at e'
    cases e'
  have hkl := hlt (L.sp k) ⟨k, hk, .inl rfl⟩
  have r8 := (key (L.sp k) hkl hne1).trans (hS.step k hk)
  have hcs : ∀ j, j ≠ L.sp k → (w8.setCell ⟨L.sp k, 2, none⟩ v8).heap[j]? = w8.heap[j]? := fun j hj => Below.heap_setCell w8 _ _ j hj
  have hg8 : g8 ≠ L.sp k := fun e => by rw [e, r8] at h8; cases h8
  have hto : ∀ j, j < W.heap.size → some j ≠ (L.iv k).ownBlock → j ≠ L.sp k → (w8.setCell ⟨L.sp k, 2, none⟩ v8).heap[j]? = W.heap[j]? := fun j hj hn hn2 => (hcs j hn2).trans (key j hj hn)
  have hblk : ∀ j, SBlk dom (L.setI k v8) j → SBlk dom L j ∨ W.heap.size ≤ j := by
    rintro j ⟨i, hi, e | e | e⟩
    · exact .inl ⟨i, hi, .inl e⟩
    · by_cases ek : i = k
      · subst ek
        have e' : some j = v8.ownBlock := by
          have : (L.setI i v8).iv i = v8 := updN_same _ _ _
          rw [this] at e
          exact e
        rw [hown8] at e'
        obtain rfl : j = g8 := by simpa using e'
        rcases hl' with h1 | h1
        · exact .inl ⟨i, hi, .inr (.inl h1.symm)⟩
        · exact .inr h1
      · have : (L.setI k v8).iv i = L.iv i := updN_other ek
        rw [this] at e
        exact .inl ⟨i, hi, .inr (.inl e)⟩
    · exact .inl ⟨i, hi, .inr (.inr e)⟩
  refine ⟨cell_of_row (j := 2) r8 rfl, by simp [World.frozen?, r8], by omega, ⟨?_, ?_, ?_, h.sepU, ?_⟩, ?_, hblk⟩
  · refine ⟨?_, ?_, ?_, ?_, fun j hj => ?_⟩
    · exact hg.os.trans h.base.os
    · exact hg.tape.trans h.base.tape
    · exact hg.output.trans h.base.output
    · have := h.base.size
      simp
      omega
    · have hb := h.base.size
      refine (hto j (by omega) (fun e => ?_) fun e => ?_).trans (h.base.block j hj)
      · have := h.low j ⟨k, hk, .inr (.inl e)⟩
        omega
      · have := h.low j ⟨k, hk, .inl e⟩
        omega
  · refine ⟨fun i hi => ?_, hS.inj, fun i hi => ?_, fun i hi => ?_, fun i hi j hj => ?_, hS.usD⟩
    · by_cases e : i = k
      · subst e
        show (w8.setCell ⟨L.sp i, 2, none⟩ v8).heap[L.sp i]? = _
        rw [heap_setCell_same w8 _ _ _ _ _ r8, show (L.setI i v8).iv i = v8 from updN_same _ _ _]
        rfl
      · have e1 : L.sp i ≠ L.sp k := fun e' => e (hS.inj _ _ hi hk e')
        have e2 : some (L.sp i) ≠ (L.iv k).ownBlock := fun e' => by
          obtain ⟨_, e''⟩ := own_in (hS.insR k hk) e'
          rw [hS.step i hi] at e''
          cases e''
        rw [show (L.setI k v8).iv i = L.iv i from updN_other e]
        exact (hto _ (hlt _ ⟨i, hi, .inl rfl⟩) e2 e1).trans (hS.step i hi)
    · by_cases e : i = k
      · subst e
        rw [show (L.setI i v8).iv i = v8 from updN_same _ _ _, updN_same]
        show (w8.setCell ⟨L.sp i, 2, none⟩ v8).ownsRow 0 246 3 v8 (ins i ++ [x]).length (insC L.sp (ins i ++ [x]))
        rw [insC_snoc, List.length_append, List.length_singleton]
        exact own_same hown fun j hj => hcs j fun e' => by
          rw [hown8] at hj
          have : j = g8 := by simpa using hj
          exact hg8 (by omega)
      · rw [show (L.setI k v8).iv i = L.iv i from updN_other e, updN_other e]
        refine own_same (hS.insR i hi) fun j hj => hto j (hlt j ⟨i, hi, .inr (.inl hj)⟩) (fun e' => ?_) fun e' => ?_
        · exact h.sepI i k hi hk e j hj.symm e'.symm
        · obtain ⟨_, a2⟩ := own_in (hS.insR i hi) hj
          rw [e', hS.step k hk] at a2
          cases a2
    · refine own_same (hS.usR i hi) fun j hj => hto j (hlt j ⟨i, hi, .inr (.inr hj)⟩) (fun e' => ?_) fun e' => ?_
      · obtain ⟨_, a1⟩ := own_in (hS.insR k hk) e'
        obtain ⟨_, a2⟩ := own_in (hS.usR i hi) hj
        rw [a1] at a2
        cases a2
      · obtain ⟨_, a2⟩ := own_in (hS.usR i hi) hj
        rw [e', hS.step k hk] at a2
        cases a2
    · by_cases e : i = k
      · subst e
        rw [updN_same] at hj
        rcases List.mem_append.1 hj with h1 | h1
        · exact hS.insD i hi j h1
        · exact hx j (List.mem_singleton.1 h1).symm
      · rw [updN_other e] at hj
        exact hS.insD i hi j hj
  · intro j hj
    rcases hblk j hj with h1 | h1
    · exact h.low j h1
    · have := h.base.size
      omega
  · intro i j hi hj hne b hb
    by_cases ei : i = k
    · subst ei
      rw [show (L.setI i v8).iv i = v8 from updN_same _ _ _, hown8] at hb
      have hbg : b = g8 := by simpa using hb.symm
      rw [show (L.setI i v8).iv j = L.iv j from updN_other fun e => hne e.symm]
      intro e
      rcases hl' with h1 | h1
      · exact h.sepI i j hi hj hne b (by rw [hbg]; exact h1) e
      · have := hlt b ⟨j, hj, .inr (.inl e.symm)⟩
        omega
    · rw [show (L.setI k v8).iv i = L.iv i from updN_other ei] at hb
      by_cases ej : j = k
      · subst ej
        rw [show (L.setI j v8).iv j = v8 from updN_same _ _ _, hown8]
        intro e
        have hbg : b = g8 := by simpa using e.symm
        rcases hl' with h1 | h1
        · exact h.sepI i j hi hj hne b hb (by rw [hbg]; exact h1)
        · have := hlt b ⟨i, hi, .inr (.inl hb.symm)⟩
          omega
      · rw [show (L.setI k v8).iv j = L.iv j from updN_other ej]
        exact h.sepI i j hi hj hne b hb
  · refine ⟨hg.os, hg.tape, hg.output, by simp; omega, fun j hj hn => hto j hj (fun e => hn ⟨k, hk, .inr (.inl e)⟩) fun e => hn ⟨k, hk, .inl e⟩⟩
end Go.Proofs.YtmhipgompplkdaaGreatDoor
namespace Go.Proofs.YtmhipgompplkdaaGreatDoor
open Go.RowKit Go.Shelf Go.Lib Go.Maps
def BRow (W : World) (v : Value) (sp : Nat → Nat) (l : List Inp) : Prop :=
  ∃ p cap, v = .slice p l.length cap ∧ (l ≠ [] → ∃ g, p = some ⟨g, 0, none⟩ ∧ g < W.heap.size ∧ ∀ j (hj : j < l.length), W.cell? ⟨g, j * 3, none⟩ = some (l[j].from sp) ∧ W.cell? ⟨g, j * 3 + 1, none⟩ = some (.string (ba l[j].text)) ∧ W.cell? ⟨g, j * 3 + 2, none⟩ = some (.bool l[j].there))
theorem BRow.of_owns {W : World} {B : Nat} {v : Value} {sp : Nat → Nat} {l : List Inp} (h : W.ownsRow B 246 3 v l.length (insC sp l)) : BRow W v sp l := by
  obtain ⟨p, cap, e⟩ := own_val h
  refine ⟨p, cap, e, fun hl => ?_⟩
  obtain ⟨g, cap', e', hc⟩ := own_cell h (List.length_pos_iff.2 hl)
  obtain ⟨cur, hg⟩ := own_in (j := g) h (by rw [e']; rfl)
  have : p = some ⟨g, 0, none⟩ := by
    rw [e] at e'
    simpa using (Value.slice.inj e').1
  refine ⟨g, this, (Array.getElem?_eq_some_iff.1 hg).1, fun j hj => ?_⟩
  obtain ⟨h0, h1, h2⟩ := insC_get sp l j hj
  exact ⟨hc _ _ h0, hc _ _ h1, hc _ _ h2⟩
theorem BRow.below {W W' : World} {v : Value} {sp : Nat → Nat} {l : List Inp} (h : BRow W v sp l) (hb : Below W.heap.size W W') : BRow W' v sp l := by
  obtain ⟨p, cap, e, h1⟩ := h
  refine ⟨p, cap, e, fun hl => ?_⟩
  obtain ⟨g, e, hg, hc⟩ := h1 hl
  exact ⟨g, e, Nat.lt_of_lt_of_le hg hb.size, fun j hj => ⟨cell_below' (hc j hj).1 hb, cell_below' (hc j hj).2.1 hb, cell_below' (hc j hj).2.2 hb⟩⟩
def Inp.val (sp : Nat → Nat) (x : Inp) : Value := .agg #[x.from sp, .string (ba x.text), .bool x.there]
def Inp.holds (st : Nat → Bf.St) : Inp → Bool
  | .rule k => !(st k).isDone
  | _ => false
end Go.Proofs.YtmhipgompplkdaaGreatDoor
namespace Go.Proofs.YtmhipgompplkdaaGreatDoor
open Go.RowKit Go.Shelf Go.Lib
set_option maxRecDepth 100000 in
set_option maxHeartbeats 4000000 in
theorem slIndexI_calls {w : World} (v : Value) (l : List Nat) (x : Nat) (hrow : NIRow w v l) (hl : l.length ≤ 1000000) :
    Calls Tryz.prog 166 #[v, nv x] w fun e w' => ∃ r : Int, e = .returned (.int .i64 r) ∧ w' = w ∧ ((r = -1 ∧ x ∉ l) ∨ ∃ k : Nat, r = k ∧ x ∈ l) := by
  obtain ⟨p, cap, rfl, hin⟩ := hrow
  have HI := hid1 hin
  clear hin
  have zl : (l.length : Int) ≤ 1000000 := by omega
  go_enter Tryz.func166, Tryz.ntmps166
  go_wp2
  go_loopw [8] (fun i wr => ∃ k : Nat, k ≤ l.length ∧ i = .int .i64 k ∧ x ∉ l.take k ∧ w = wr) (fun i _ => l.length - (intOf i).toNat)
  case atStart => exact ⟨0, Nat.zero_le _, rfl, by simp, rfl⟩
  case round =>
    obtain ⟨k, hk, rfl, hz, rfl⟩ := hrel
    have HZ := hid1 hz
    clear hz
    have c0 : (0 : Int) ≤ (k : Int) := by omega
    by_cases hlt : k < l.length
    · have c1 : (k : Int) < (l.length : Int) := by omega
      obtain ⟨g', o, rfl, hg, hcur⟩ := HI.out (by intro e; rw [e] at hlt; simp at hlt)
      have hcell := hcur k hlt
      have HT : Hid (l[k] ≠ x → x ∉ l.take (k + 1)) := hid1 fun hne => by
        rw [List.take_succ_eq_append_getElem hlt]
        simp only [List.mem_append, List.mem_singleton, not_or]
        exact ⟨HZ.out, fun e => hne e.symm⟩
      have HP : Hid (l[k] = x → x ∈ l) := hid1 fun he => he ▸ List.getElem_mem hlt
      clear hcur HI HZ
      generalize l[k] = y at *
      by_cases he : y = x
      · subst he
        have HPP := hid1 (HP.out rfl)
        clear HP HT
        go_wp2
        go_ret
        exact ⟨_, rfl, rfl, .inr ⟨k, rfl, HPP.out⟩⟩
      · have e0 : ¬ x = y := fun e => he e.symm
        have e1 : ((x : Int) == (y : Int)) = false := by simp; omega
        have HTT := hid1 (HT.out he)
        clear HP HT
        go_wp2
        exact ⟨⟨k + 1, by omega, by go_num, HTT.out, trivial⟩, by simp [intOf]; omega⟩
    · have c1 : (l.length : Int) ≤ (k : Int) := by omega
      have HN : Hid (x ∉ l) := hid1 (by
        have := HZ.out
        rwa [List.take_of_length_le (by omega)] at this)
      clear HI HZ
      go_wp2
      go_ret
      exact ⟨_, rfl, rfl, .inl ⟨rfl, HN.out⟩⟩
set_option maxRecDepth 100000 in
set_option maxHeartbeats 4000000 in
theorem slContainsI_calls {w : World} (v : Value) (l : List Nat) (x : Nat) (hrow : NIRow w v l) (hl : l.length ≤ 1000000) :
    Calls Tryz.prog 114 #[v, nv x] w fun e w' => e = .returned (.bool (decide (x ∈ l))) ∧ w' = w := by
  have HC := hid1 (slIndexI_calls v l x hrow hl)
  obtain ⟨p, cap, rfl, hin⟩ := hrow
  clear hin
  have HD : Hid (∀ b : Bool, (b = true ↔ x ∈ l) → decide (x ∈ l) = b) := hid1 fun b hb => by
    rw [Bool.eq_iff_iff, hb]
    simp
  generalize decide (x ∈ l) = d at *
  go_enter Tryz.func114, Tryz.ntmps114
  go_wp2_with fail
  refine HC.out.mono ?_
  rintro e w1 ⟨r, rfl, rfl, h⟩
  rcases h with ⟨rfl, h⟩ | ⟨k, rfl, h⟩
  · obtain rfl := HD.out false (by simp [h])
    clear HD HC h
    go_wp2
    go_ret
    exact ⟨rfl, rfl⟩
  · have z : (0 : Int) ≤ (k : Int) := by omega
    obtain rfl := HD.out true (by simp [h])
    clear HD HC h
    go_wp2
    go_ret
    exact ⟨rfl, rfl⟩
set_option maxRecDepth 100000 in
set_option maxHeartbeats 4000000 in
theorem indexFuncI_calls {w : World} (v : Value) (l : List Nat) (hrow : NIRow w v l) (hl : l.length ≤ 1000000) (f : Nat) (caps : Array Value) (eg : ∀ args w, (callFunc f args).run Tryz.prog w = .ok (.enter f args) w) (b : Nat → Bool)
    (HS : Hid (∀ x ∈ l, ∀ W, Below w.heap.size w W → Calls Tryz.prog f (#[nv x] ++ caps) W fun e w' => e = .returned (.bool (b x)) ∧ Below W.heap.size W w')) :
    Calls Tryz.prog 157 #[v, .func (.func f) #[] caps] w fun e w' => ∃ r : Int, e = .returned (.int .i64 r) ∧ Below w.heap.size w w' ∧ ((r = -1 ∧ ∀ x ∈ l, b x = false) ∨ ∃ k : Nat, r = k ∧ ∃ h : k < l.length, b l[k] = true ∧ ∀ x ∈ l.take k, b x = false) := by
  obtain ⟨p, cap, rfl, hin⟩ := hrow
  have HI := hid1 hin
  clear hin
  have zl : (l.length : Int) ≤ 1000000 := by omega
  go_enter Tryz.func157, Tryz.ntmps157
  go_wp2
  go_loopw [8] (fun i wr => ∃ k : Nat, k ≤ l.length ∧ i = .int .i64 k ∧ (∀ x ∈ l.take k, b x = false) ∧ Below w.heap.size w wr) (fun i _ => l.length - (intOf i).toNat)
  case atStart => exact ⟨0, Nat.zero_le _, rfl, by simp, Below.refl _ _⟩
  case round =>
    obtain ⟨k, hk, rfl, hz, hB⟩ := hrel
    have HZ := hid1 hz
    clear hz
    have c0 : (0 : Int) ≤ (k : Int) := by omega
    by_cases hlt : k < l.length
    · have c1 : (k : Int) < (l.length : Int) := by omega
      obtain ⟨g', o, rfl, hg, hcur⟩ := HI.out (by intro e; rw [e] at hlt; simp at hlt)
      have d0 := (hB.cell (p := ⟨g', o + k, none⟩) hg).trans (hcur k hlt)
      have HC := HS.out l[k] (List.getElem_mem hlt) wr hB
      have HN : Hid (b l[k] = false → ∀ x ∈ l.take (k + 1), b x = false) := hid1 fun h x hx => by
        rw [List.take_succ_eq_append_getElem hlt] at hx
        rcases List.mem_append.1 hx with h1 | h1
        · exact HZ.out x h1
        · rw [List.mem_singleton.1 h1]; exact h
      have HP : Hid (b l[k] = true → ∃ j : Nat, (k : Int) = j ∧ ∃ h : j < l.length, b l[j] = true ∧ ∀ x ∈ l.take j, b x = false) := hid1 fun h => ⟨k, rfl, hlt, h, HZ.out⟩
      clear hcur HI HS HZ
      generalize l[k] = y at *
      cases hc : b y with
      | false =>
        rw [hc] at HC
        have HN2 := hid1 (HN.out hc)
        clear hc HN HP
        go_wp2_with fail
        refine Calls.mono HC ?_
        rintro e w1 ⟨rfl, hb1⟩
        clear HC
        go_wp2
        exact ⟨⟨k + 1, by omega, by go_num, HN2.out, below_then hB hb1⟩, by simp [intOf]; omega⟩
      | true =>
        rw [hc] at HC
        have HE := hid1 (HP.out hc)
        clear hc HN HP
        go_wp2_with fail
        refine Calls.mono HC ?_
        rintro e w1 ⟨rfl, hb1⟩
        clear HC
        go_wp2
        go_ret
        exact ⟨_, rfl, below_then hB hb1, .inr HE.out⟩
    · have c1 : (l.length : Int) ≤ (k : Int) := by omega
      have HN : Hid (∀ x ∈ l, b x = false) := hid1 fun x hx => HZ.out x (by rwa [List.take_of_length_le (by omega)])
      clear HI HS HZ
      go_wp2
      go_ret
      exact ⟨_, rfl, hB, .inl ⟨rfl, HN.out⟩⟩
set_option maxRecDepth 100000 in
set_option maxHeartbeats 4000000 in
theorem containsFuncI_calls {w : World} (v : Value) (l : List Nat) (hrow : NIRow w v l) (hl : l.length ≤ 1000000) (f : Nat) (caps : Array Value) (eg : ∀ args w, (callFunc f args).run Tryz.prog w = .ok (.enter f args) w) (b : Nat → Bool)
    (HS : Hid (∀ x ∈ l, ∀ W, Below w.heap.size w W → Calls Tryz.prog f (#[nv x] ++ caps) W fun e w' => e = .returned (.bool (b x)) ∧ Below W.heap.size W w')) :
    Calls Tryz.prog 220 #[v, .func (.func f) #[] caps] w fun e w' => e = .returned (.bool (l.any b)) ∧ Below w.heap.size w w' := by
  have HC := hid1 (indexFuncI_calls v l hrow hl f caps eg b HS)
  obtain ⟨p, cap, rfl, hin⟩ := hrow
  clear hin HS
  have HD : Hid (∀ d : Bool, (d = true ↔ ∃ x ∈ l, b x = true) → l.any b = d) := hid1 fun d hd => by
    rw [Bool.eq_iff_iff, hd, List.any_eq_true]
  generalize l.any b = d at *
  go_enter Tryz.func220, Tryz.ntmps220
  go_wp2_with fail
  refine HC.out.mono ?_
  rintro e w1 ⟨r, rfl, hb, h⟩
  rcases h with ⟨rfl, h⟩ | ⟨k, rfl, hk, h, _⟩
  · obtain rfl := HD.out false (by
      simp
      intro x hx
      simpa using h x hx)
    clear HD HC h
    go_wp2
    go_ret
    exact ⟨rfl, hb⟩
  · have z : (0 : Int) ≤ (k : Int) := by omega
    obtain rfl := HD.out true (by
      simp
      exact ⟨_, List.getElem_mem hk, h⟩)
    clear HD HC h
    go_wp2
    go_ret
    exact ⟨rfl, hb⟩
set_option maxRecDepth 100000 in
set_option maxHeartbeats 4000000 in
theorem grmeet1_calls {w : World} (x : Nat) (b : Nat) (v : Value) (l : List Nat) (hb : w.cell? ⟨b, 0, none⟩ = some v) (hrow : NIRow w v l) (hl : l.length ≤ 1000000) :
    Calls Tryz.prog 221 #[nv x, .pointer (some ⟨b, 0, none⟩)] w fun e w' => e = .returned (.bool (decide (x ∈ l))) ∧ Below w.heap.size w w' := by
  have HC := hid1 (slContainsI_calls v l x hrow hl)
  obtain ⟨p, cap, rfl, hin⟩ := hrow
  clear hin
  generalize decide (x ∈ l) = d at *
  go_enter Tryz.func221, Tryz.ntmps221
  go_wp2_with fail
  refine HC.out.mono ?_
  rintro e w1 ⟨rfl, rfl⟩
  clear HC
  go_wp2
  go_ret
  exact ⟨rfl, Below.refl _ _⟩
set_option maxRecDepth 100000 in
set_option maxHeartbeats 4000000 in
theorem grmeet_calls {w : World} (va vb : Value) (la lb : List Nat) (ha : NIRow w va la) (hb : NIRow w vb lb) (hla : la.length ≤ 1000000) (hlb : lb.length ≤ 1000000) :
    Calls Tryz.prog 159 #[va, vb] w fun e w' => e = .returned (.bool (la.any fun x => decide (x ∈ lb))) ∧ Below w.heap.size w w' := by
  have hB0 : Below w.heap.size w (w.alloc (.cells #[vb] 68)) := (Below.refl _ w).alloc (Nat.le_refl _) _
  have hv0 : (w.alloc (.cells #[vb] 68)).cell? ⟨w.heap.size, 0, none⟩ = some vb := by simp
  have HC := hid1 (containsFuncI_calls (w := w.alloc (.cells #[vb] 68)) va la (ha.below hB0) hla 221 #[.pointer (some ⟨w.heap.size, 0, none⟩)] (enters_of Tryz.func221 (by kernel_rfl) rfl) (fun x => decide (x ∈ lb))
    (hid1 fun x _ W g => grmeet1_calls x w.heap.size vb lb (cell_below' hv0 g) ((hb.below hB0).below g) hlb))
  obtain ⟨pa, ca, rfl, -⟩ := ha
  obtain ⟨pb, cb, rfl, -⟩ := hb
  clear hv0
  generalize (la.any fun x => decide (x ∈ lb)) = d at *
  go_enter Tryz.func159, Tryz.ntmps159
  go_wp2_with fail
  refine HC.out.mono ?_
  rintro e w1 ⟨rfl, g⟩
  have g1 := below_then hB0 g
  clear HC
  go_wp2
  go_ret
  exact ⟨rfl, g1⟩
def withN (l : List Nat) (x : Nat) : List Nat := if x ∈ l then l else l ++ [x]
theorem withN_mem (l : List Nat) (x y : Nat) : y ∈ withN l x ↔ y ∈ l ∨ y = x := by
  unfold withN
  split
  · rename_i h
    constructor
    · exact .inl
    · rintro (h1 | rfl)
      · exact h1
      · exact h
  · simp
theorem withN_once {l : List Nat} (h : l.Nodup) (x : Nat) : (withN l x).Nodup := by
  unfold withN
  split
  · exact h
  · rename_i hx
    rw [List.nodup_append]
    exact ⟨h, by simp, fun a ha b hb => by
      rw [List.mem_singleton.1 hb]
      rintro rfl
      exact hx ha⟩
end Go.Proofs.YtmhipgompplkdaaGreatDoor
