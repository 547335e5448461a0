import Derived.Test.YtmhipgompplkdaaGreatDoorBS20
import Derived.Test.YtmhipgompplkdaaGreatDoorBS17
import Derived.Test.YtmhipgompplkdaaGreatDoorBS19
import Derived.Test.YtmhipgompplkdaaGreatDoorBS18
import Derived.Test.YtmhipgompplkdaaGreatDoorBS07
namespace Go.Proofs.YtmhipgompplkdaaGreatDoor
open Go.RowKit Go.Shelf Go.Lib Go.Maps
def vElem : Value → Option (DataW Value × List MemPlace) := fun v => some (.held v, [])
def VMap (W : World) (b : Nat) (fd : List UInt8 → Option Value) : Prop :=
  ∃ (D : DataW Value) (K : List (List UInt8)), W.ownsMap Tryz.prog 9 vElem b K.length D ∧ Maps.size D = K.length ∧ K.Nodup ∧ (∀ x, has D (.string x) = (fd x).isSome) ∧ (∀ x, x ∈ K ↔ (fd x).isSome = true) ∧ ∀ x v z, fd x = some v → D.atKey (.string x) z = .held v
theorem vowns_tight {w : World} {b n : Nat} {D : DataW Value} (h : w.ownsMap Tryz.prog 9 vElem b n D) : w.ownsMap Tryz.prog 9 vElem b (Maps.size D) D := by
  obtain ⟨es, clock, h1, F, _, hD⟩ := h
  refine ⟨es, clock, h1, F, ?_, hD⟩
  rw [hD]
  simp [Maps.size, length_sorted]
theorem VMap.lt {W : World} {b : Nat} {fd : List UInt8 → Option Value} (h : VMap W b fd) : b < W.heap.size := by
  obtain ⟨D, K, h1, _⟩ := h
  exact h1.lt
theorem VMap.same {W W' : World} {b : Nat} {fd : List UInt8 → Option Value} (h : VMap W b fd) (hb : W'.heap[b]? = W.heap[b]?) : VMap W' b fd := by
  obtain ⟨D, K, ⟨es, clock, h1, F⟩, h2⟩ := h
  exact ⟨D, K, ⟨es, clock, hb.trans h1, F⟩, h2⟩
theorem VMap.below {W W' : World} {b : Nat} {fd : List UInt8 → Option Value} (h : VMap W b fd) (hb : Below W.heap.size W W') : VMap W' b fd := h.same (hb.block b h.lt)
theorem VMap.made (W : World) : VMap (W.alloc (.map #[] 0)) W.heap.size (fun _ => none) :=
  ⟨.map [], [], World.ownsMap_made W _ _ _, rfl, List.nodup_nil, fun _ => rfl, fun x => by simp, fun x v z h => by cases h⟩
theorem VMap.congr {W : World} {b : Nat} {fd fd' : List UInt8 → Option Value} (h : VMap W b fd) (he : ∀ x, fd' x = fd x) : VMap W b fd' := by
  have : fd' = fd := funext he
  rw [this]; exact h
theorem VMap.look {W : World} {b : Nat} {fd : List UInt8 → Option Value} (h : VMap W b fd) {t e : TypeId} (ht : Tryz.prog.underlying t = some (.map 9 e)) {z : Value} (hz : (zeroValue e).run Tryz.prog W = .ok z W) (x : List UInt8) (hx : x.length ≤ 1000000) :
    (Instr.lookup t (.map (some b)) (.string (ba x)) true).run Tryz.prog W = .ok (.tuple #[(fd x).getD z, .bool (fd x).isSome]) W := by
  obtain ⟨D, K, h1, h2, h3, h4, h5, h6⟩ := h
  obtain ⟨v, ps, hrun, hv⟩ := h1.look_ok (t := t) (e := e) claw ht (z := z) hz (zd := .held z) (zp := []) rfl (ckey x hx)
  have hv' : (DataW.held v : DataW Value) = D.atKey (.string x) (.held z) := by
    have : vElem v = some (.held v, []) := rfl
    rw [this] at hv
    simpa using congrArg (fun o => o.map Prod.fst) hv
  rw [hrun, h4]
  have : v = (fd x).getD z := by
    cases hf : fd x with
    | some u =>
      rw [h6 x u _ hf] at hv'
      injection hv'
    | none =>
      have hh : has D (.string x) = false := by rw [h4, hf]; rfl
      rw [atKey_of_not_has hh] at hv'
      injection hv'
  rw [this]
theorem VMap.laid {W : World} {b : Nat} {fd : List UInt8 → Option Value} (h : VMap W b fd) {t e : TypeId} (ht : Tryz.prog.underlying t = some (.map 9 e)) (L : List (List UInt8)) (hL : ∀ x, (fd x).isSome = true → x ∈ L) (hn : L.length ≤ 1000000) (x : List UInt8) (hx : x.length ≤ 1000000) (v : Value) :
    ∃ w1, (Instr.mapUpdate t (.map (some b)) (.string (ba x)) v).run Tryz.prog W = .ok () w1 ∧ VMap w1 b (fun y => if y = x then some v else fd y) ∧ W.mapTurned w1 b := by
  obtain ⟨D, K, h1, h2, h3, h4, h5, h6⟩ := h
  have hK : K.length ≤ L.length := Cf.nodup_len h3 fun y hy => hL y ((h5 y).1 hy)
  obtain ⟨w1, hr, ho1, ht1⟩ := h1.store (t := t) (e := e) claw ht (by unfold maxLen; omega) (ckey x hx) (show vElem v = some (.held v, []) from rfl)
  have hT := h1.tidy claw
  have hk : WideAt.IsKeyLit (.string x) := by simp [WideAt.IsKeyLit]
  have hat : ∀ y u z, (if y = x then some v else fd y) = some u → (D.put (.string x) (.held v)).atKey (.string y) z = .held u := fun y u z hy => by
    by_cases e : y = x
    · subst e
      rw [if_pos rfl] at hy
      cases hy
      rw [atKey_put_same hT.isMap hk]
    · rw [if_neg e] at hy
      rw [atKey_put_other (by simpa using e), h6 y u z hy]
  have hhas : ∀ y, has (D.put (.string x) (.held v)) (.string y) = (if y = x then some v else fd y).isSome := fun y => by
    by_cases e : y = x
    · subst e
      rw [if_pos rfl, has_put_same hT.isMap hk]
      rfl
    · rw [if_neg e, has_put_other (by simpa using e), h4]
  have hsz := size_put (k := .string x) (d := .held v) hT
  rw [h4, h2] at hsz
  refine ⟨w1, hr, ?_, ht1⟩
  cases hf : (fd x).isSome with
  | true =>
    rw [hf] at hsz
    have hsz' : Maps.size (D.put (.string x) (.held v)) = K.length := by simpa using hsz
    refine ⟨_, K, hsz' ▸ vowns_tight ho1, hsz', h3, hhas, fun y => ?_, hat⟩
    show _ ↔ (if y = x then some v else fd y).isSome = true
    by_cases e : y = x
    · subst e; rw [if_pos rfl, h5, hf]; simp
    · rw [if_neg e, h5]
  | false =>
    rw [hf] at hsz
    have hsz' : Maps.size (D.put (.string x) (.held v)) = (x :: K).length := by simpa using hsz
    refine ⟨_, x :: K, hsz' ▸ vowns_tight ho1, hsz', List.nodup_cons.2 ⟨fun hx => ?_, h3⟩, hhas, fun y => ?_, hat⟩
    · rw [h5, hf] at hx; cases hx
    · show _ ↔ (if y = x then some v else fd y).isSome = true
      by_cases e : y = x
      · subst e; simp
      · rw [if_neg e, ← h5]; simp [e]
end Go.Proofs.YtmhipgompplkdaaGreatDoor
namespace Go.Proofs.YtmhipgompplkdaaGreatDoor
open Go.RowKit Go.Shelf Go.Lib Go.Maps
abbrev ansV (es : Nat → Addr) (x : List UInt8 × Nat) : Value := .agg #[.string (ba x.1), erOf es x.2]
def ruF (l : List Ru) (uv : Nat → Value) (x : List UInt8) : Option Value := (Bf.mkr l x).map fun i => ruV (l.getD i ⟨[], [], [], []⟩) (uv i)
structure AskE (w : World) (es : Nat → Addr) : Prop where
  a : AE w (erOf es)
  none : w.cell? ⟨2, 0, Option.none⟩ = some (erOf es 6)
theorem AskE.below {w w' : World} {es : Nat → Addr} (h : AskE w es) (hb : Below w.heap.size w w') : AskE w' es := ⟨h.a.stays hb, cell_below' h.none hb⟩
structure AskB (es : Nat → Addr) (tb : Nat) (fs : Tf.Fs) (l : List Ru) (uv : Nat → Value) (W0 : World) : Prop where
  e : AskE W0 es
  tree : ∃ B o, TreeAt B W0 tb fs o
  bytes : ∀ x b, Tf.get fs x = some b → b.length ≤ 2000
  ins : ∀ i (hi : i < l.length), XRow W0 (uv i) l[i].ins
  small : ∀ x ∈ l, x.Small
  len : l.length ≤ 40
structure AskL where
  (rc tc dc kc rm dm : Nat)
abbrev AskL.caps (L : AskL) : Array Value := #[Ptr L.rc, Ptr L.tc, Ptr L.dc, Ptr L.kc]
abbrev AskL.fn (L : AskL) : Value := .func (.func 180) #[] L.caps
structure Asks (es : Nat → Addr) (tb : Nat) (fs : Tf.Fs) (l : List Ru) (uv : Nat → Value) (W0 : World) (L : AskL) (W : World) : Prop where
  base : Below W0.heap.size W0 W
  cr : W.cell? ⟨L.rc, 0, none⟩ = some (.map (some L.rm))
  ct : W.cell? ⟨L.tc, 0, none⟩ = some (Ptr tb)
  cd : W.cell? ⟨L.dc, 0, none⟩ = some (.map (some L.dm))
  ck : W.cell? ⟨L.kc, 0, none⟩ = some L.fn
  rules : VMap W L.rm (ruF l uv)
  told : ∃ fd, VMap W L.dm fd ∧ ∀ x v, fd x = some v → (Bf.mkr l x).isSome = true ∧ v = ansV es (Bf.want Af.actO fs l x)
  nr : L.rc ≠ L.dm
  nt : L.tc ≠ L.dm
  nd : L.dc ≠ L.dm
  nk : L.kc ≠ L.dm
  nm : L.rm ≠ L.dm
  new : W0.heap.size ≤ L.dm
theorem Asks.below {es : Nat → Addr} {tb : Nat} {fs : Tf.Fs} {l : List Ru} {uv : Nat → Value} {W0 W W' : World} {L : AskL} (h : Asks es tb fs l uv W0 L W) (hb : Below W.heap.size W W') : Asks es tb fs l uv W0 L W' := by
  obtain ⟨fd, h1, h2⟩ := h.told
  exact ⟨below_then h.base hb, cell_below' h.cr hb, cell_below' h.ct hb, cell_below' h.cd hb, cell_below' h.ck hb, h.rules.below hb, ⟨fd, h1.below hb, h2⟩, h.nr, h.nt, h.nd, h.nk, h.nm, h.new⟩
theorem Asks.turn {es : Nat → Addr} {tb : Nat} {fs : Tf.Fs} {l : List Ru} {uv : Nat → Value} {W0 W W' : World} {L : AskL} (h : Asks es tb fs l uv W0 L W) (hb : Only (fun j => j = L.dm) W W') {fd : List UInt8 → Option Value} (h1 : VMap W' L.dm fd) (h2 : ∀ x v, fd x = some v → (Bf.mkr l x).isSome = true ∧ v = ansV es (Bf.want Af.actO fs l x)) : Asks es tb fs l uv W0 L W' :=
  ⟨h.base.trans (hb.below (fun j hj => by rw [hj]; exact h.new) h.base.size), hb.cell h.cr h.nr, hb.cell h.ct h.nt, hb.cell h.cd h.nd, hb.cell h.ck h.nk, h.rules.same (hb.block _ h.rules.lt h.nm), ⟨fd, h1, h2⟩, h.nr, h.nt, h.nd, h.nk, h.nm, h.new⟩
theorem Asks.lt {es : Nat → Addr} {tb : Nat} {fs : Tf.Fs} {l : List Ru} {uv : Nat → Value} {W0 W : World} {L : AskL} (h : Asks es tb fs l uv W0 L W) : L.dm < W.heap.size := by
  obtain ⟨fd, h1, _⟩ := h.told
  exact h1.lt
theorem Only.then {S : Nat → Prop} {a b c : World} (h : Only S a b) (hb : Below a.heap.size b c) : Only S a c :=
  ⟨hb.os.trans h.os, hb.tape.trans h.tape, hb.output.trans h.output, Nat.le_trans h.size hb.size, fun j hj hs => (hb.block j hj).trans (h.block j hj hs)⟩
theorem Asks.after {es : Nat → Addr} {tb : Nat} {fs : Tf.Fs} {l : List Ru} {uv : Nat → Value} {W0 W1 W W' : World} {L : AskL} (h1 : Asks es tb fs l uv W0 L W1) (h : Asks es tb fs l uv W0 L W) (hb : Below W1.heap.size W W') : Asks es tb fs l uv W0 L W' := by
  obtain ⟨fd, h2, h3⟩ := h.told
  have hc : ∀ {a : Addr} {u u' : Value}, W1.cell? a = some u' → W.cell? a = some u → W'.cell? a = some u := fun h1 h2 => (hb.cell (lt_of_cell h1)).trans h2
  exact ⟨h.base.trans (hb.mono h1.base.size), hc h1.cr h.cr, hc h1.ct h.ct, hc h1.cd h.cd, hc h1.ck h.ck, h.rules.same (hb.block _ h1.rules.lt), ⟨fd, h2.same (hb.block _ h1.lt), h3⟩, h.nr, h.nt, h.nd, h.nk, h.nm, h.new⟩
theorem Asks.keep {es : Nat → Addr} {tb : Nat} {fs : Tf.Fs} {l : List Ru} {uv : Nat → Value} {W0 W : World} {L : AskL} (h : Asks es tb fs l uv W0 L W) (hl : l.length ≤ 40) (x : List UInt8) (hx : x.length ≤ 1000) (hm : (Bf.mkr l x).isSome = true) :
    ∃ w1, (Instr.mapUpdate 257 (.map (some L.dm)) (.string (ba x)) (ansV es (Bf.want Af.actO fs l x))).run Tryz.prog W = .ok () w1 ∧ Asks es tb fs l uv W0 L w1 ∧ Only (fun j => j = L.dm) W w1 := by
  obtain ⟨fd, h1, h2⟩ := h.told
  have hout : ∀ y, (Bf.mkr l y).isSome = true → y ∈ l.map Ru.out := fun y hy => by
    obtain ⟨i, hi⟩ := Option.isSome_iff_exists.1 hy
    obtain ⟨hk, e⟩ := Bf.mkr_of hi
    exact List.mem_map.2 ⟨_, List.getElem_mem hk, e⟩
  obtain ⟨w1, hr, hv, ht⟩ := h1.laid Tryz.underlying257 (l.map Ru.out) (fun y hy => by
    obtain ⟨v, hv⟩ := Option.isSome_iff_exists.1 hy
    exact hout y (h2 y v hv).1) (by simp; omega) x (by omega) (ansV es (Bf.want Af.actO fs l x))
  have ho : Only (fun j => j = L.dm) W w1 := by
    refine ⟨ht.grown.os, ht.grown.tape, ht.grown.output, ht.grown.size, fun j hj hs => ht.grown.block j hj fun e => hs ?_⟩
    simpa using e
  refine ⟨w1, hr, h.turn ho hv fun y v hy => ?_, ho⟩
  by_cases e : y = x
  · subst e
    rw [if_pos rfl] at hy
    cases hy
    exact ⟨hm, rfl⟩
  · rw [if_neg e] at hy
    exact h2 y v hy
theorem Asks.known {es : Nat → Addr} {tb : Nat} {fs : Tf.Fs} {l : List Ru} {uv : Nat → Value} {W0 W : World} {L : AskL} (h : Asks es tb fs l uv W0 L W) (x : List UInt8) (hx : x.length ≤ 1000) :
    (Instr.lookup 257 (.map (some L.dm)) (.string (ba x)) true).run Tryz.prog W = .ok (.tuple #[.agg #[.string ⟨#[]⟩, .nilIface], .bool false]) W ∨
    (Instr.lookup 257 (.map (some L.dm)) (.string (ba x)) true).run Tryz.prog W = .ok (.tuple #[ansV es (Bf.want Af.actO fs l x), .bool true]) W := by
  obtain ⟨fd, h1, h2⟩ := h.told
  have := h1.look Tryz.underlying257 (Tryz.zeroValue261 W) x (by omega)
  cases hf : fd x with
  | none => rw [hf] at this; exact .inl this
  | some v =>
    rw [hf, (h2 x v hf).2] at this
    exact .inr this
theorem Asks.maker {es : Nat → Addr} {tb : Nat} {fs : Tf.Fs} {l : List Ru} {uv : Nat → Value} {W0 W : World} {L : AskL} (h : Asks es tb fs l uv W0 L W) (x : List UInt8) (hx : x.length ≤ 1000) :
    (Instr.lookup 256 (.map (some L.rm)) (.string (ba x)) true).run Tryz.prog W = .ok (.tuple #[(ruF l uv x).getD (.agg #[.string ⟨#[]⟩, .string ⟨#[]⟩, .string ⟨#[]⟩, .slice none 0 0]), .bool (ruF l uv x).isSome]) W :=
  h.rules.look Tryz.underlying256 (Tryz.zeroValue90 W) x (by omega)
end Go.Proofs.YtmhipgompplkdaaGreatDoor
