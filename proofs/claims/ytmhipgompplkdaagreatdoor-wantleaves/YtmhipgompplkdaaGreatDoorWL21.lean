import Derived.Test.YtmhipgompplkdaaGreatDoorWL04
import Derived.Test.YtmhipgompplkdaaGreatDoorWL08
import Derived.Test.YtmhipgompplkdaaGreatDoorWL05
import Derived.Shelf.SlGeneric
import Derived.Shelf.SlIter.Nil
import Derived.Shelf.SortM.Plain
import Derived.Shelf.SortM.SortNone
import Derived.Ground.GgzProg
import Derived.Ground.SlgmProg
import Derived.Test.YtmhipgompplkdaaGreatDoorProg
import Derived.Maps.OwnSet
import Derived.Maps.RangeWalk
import Derived.Sort.KeysCollected
import Derived.Test.YtmhipgompplkdaaGreatDoorWL09
import Derived.Test.YtmhipgompplkdaaGreatDoorWL10
import Derived.Test.YtmhipgompplkdaaGreatDoorWL20
import Derived.Test.YtmhipgompplkdaaGreatDoorWL15
import Derived.Test.YtmhipgompplkdaaGreatDoorWL17
namespace Go.Proofs.YtmhipgompplkdaaGreatDoor
open Go.RowKit Go.Shelf Go.Lib Go.Maps
open Tf (Fs)
def fileElem : Value → Option (DataW Unit × List MemPlace)
  | .agg ⟨[.string s]⟩ => some (.lit (.string s.data.toList), [])
  | _ => none
theorem fileElem_mk (l : List UInt8) : fileElem (.agg #[.string (ba l)]) = some (.lit (.string l), []) := rfl
theorem fileElem_inv {v : Value} {z : DataW Unit × List MemPlace} (h : fileElem v = some z) : ∃ l : List UInt8, v = .agg #[.string (ba l)] ∧ z = (.lit (.string l), []) := by
  unfold fileElem at h
  split at h
  · cases h
    rename_i s
    exact ⟨s.data.toList, rfl, rfl⟩
  · cases h
theorem klaw : Keyed Tryz.prog 9 := string_keyed Tryz.underlying9
theorem kkey (p : List UInt8) (hp : p.length ≤ 1000000) : keyOf Tryz.prog 9 (.string (ba p)) = some (.string p) :=
  WideMaps.keyOf_string_mk Tryz.underlying9 (s := ba p) (by rw [ba_size]; unfold maxLen; omega)
abbrev Ptr (tb : Nat) : Value := .pointer (some ⟨tb, 0, none⟩)
def MapAt (B : Nat) (w : World) (tb : Nat) (o : Option Nat) (fs : Fs) : Prop :=
  match o with
  | none => fs = []
  | some bm => B ≤ bm ∧ bm ≠ tb ∧ w.ownsMap Tryz.prog 9 fileElem bm fs.length (Tf.datum fs)
structure TreeAt (B : Nat) (w : World) (tb : Nat) (fs : Fs) (o : Option Nat) : Prop where
  low : B ≤ tb
  cell : w.cell? ⟨tb, 0, none⟩ = some (.map o)
  free : w.frozen? ⟨tb, 0, none⟩ = false
  isMap : MapAt B w tb o fs
theorem TreeAt.lt {B : Nat} {w : World} {tb : Nat} {fs : Fs} {o : Option Nat} (h : TreeAt B w tb fs o) : tb < w.heap.size := lt_of_cell h.cell
theorem ownsMap_below {w w' : World} {b n : Nat} {D : DataW Unit} {R : Value → Option (DataW Unit × List MemPlace)} (h : w.ownsMap Tryz.prog 9 R b n D) (hb : Below w.heap.size w w') : w'.ownsMap Tryz.prog 9 R b n D := by
  have hlt := h.lt
  obtain ⟨es, clock, h1, F, hs, hD⟩ := h
  exact ⟨es, clock, (hb.block b hlt).trans h1, F, hs, hD⟩
theorem TreeAt.below {B : Nat} {w w' : World} {tb : Nat} {fs : Fs} {o : Option Nat} (h : TreeAt B w tb fs o) (hb : Below w.heap.size w w') : TreeAt B w' tb fs o := by
  refine ⟨h.low, (hb.cell (p := ⟨tb, 0, none⟩) h.lt).trans h.cell, (hb.frozen (p := ⟨tb, 0, none⟩) h.lt).trans h.free, ?_⟩
  cases o with
  | none => exact h.isMap
  | some bm => exact ⟨h.isMap.1, h.isMap.2.1, ownsMap_below h.isMap.2.2 hb⟩
theorem TreeAt.mono {B B' : Nat} {w : World} {tb : Nat} {fs : Fs} {o : Option Nat} (h : TreeAt B w tb fs o) (hB : B' ≤ B) : TreeAt B' w tb fs o := by
  refine ⟨Nat.le_trans hB h.low, h.cell, h.free, ?_⟩
  cases o with
  | none => exact h.isMap
  | some bm => exact ⟨Nat.le_trans hB h.isMap.1, h.isMap.2⟩
theorem ownsMap_tight {w : World} {b n : Nat} {fs : Fs} {R : Value → Option (DataW Unit × List MemPlace)} (h : w.ownsMap Tryz.prog 9 R b n (Tf.datum fs)) : w.ownsMap Tryz.prog 9 R b fs.length (Tf.datum fs) := by
  obtain ⟨es, clock, h1, F, _, hD⟩ := h
  refine ⟨es, clock, h1, F, ?_, hD⟩
  have := congrArg Maps.size hD
  rw [Tf.datum_size] at this
  rw [this]
  simp [Maps.size, length_sorted]
theorem New_calls (w : World) : Calls Tryz.prog 19 #[] w fun e w' => e = .returned (Ptr w.heap.size) ∧ TreeAt w.heap.size w' w.heap.size [] none ∧ Below w.heap.size w w' := by
  go_enter Tryz.func19, Tryz.ntmps19
  go_wp2
  go_ret
  refine ⟨rfl, ⟨Nat.le_refl _, ?_, ?_, rfl⟩, (Below.refl _ w).alloc (Nat.le_refl _) _⟩
  · exact (Boxed.new w _ _).cell
  · exact (Boxed.new w _ _).frozen
theorem above_calls (a p : List UInt8) (ha : a.length ≤ 1000000) (w : World) : Calls Tryz.prog 144 #[.string (ba a), .string (ba p)] w fun e w' => e = .returned (.bool (Tf.above a p)) ∧ w' = w := by
  have H : Hid (∀ W, Calls Tryz.prog 197 #[.string (ba p), .string (ba (a ++ [47]))] W fun e w' => e = .returned (.bool (Tf.above a p)) ∧ w' = W) := fun W => Tryz.strings_HasPrefix (ba p) (ba (a ++ [47])) W
  have z : ((ba a).size : Int) ≤ 1000000 := by rw [ba_size]; omega
  go_enter Tryz.func144, Tryz.ntmps144
  go_wp2_with fail
  rw [show ba a ++ { data := #[47] } = ba (a ++ [47]) by rw [show (ByteArray.mk #[47]) = ba [47] from rfl, ba_append]]
  refine (H.out _).mono ?_
  rintro e w' ⟨rfl, rfl⟩
  go_wp2
  go_ret
  exact ⟨rfl, rfl⟩
theorem all_calls (tb : Nat) (o : Option Nat) (w : World) (hc : w.cell? ⟨tb, 0, none⟩ = some (.map o)) : Calls Tryz.prog 92 #[Ptr tb] w fun e w' => e = .returned (.map o) ∧ w' = w := by
  go_enter Tryz.func92, Tryz.ntmps92
  go_wp2
  go_ret
  exact ⟨rfl, rfl⟩
end Go.Proofs.YtmhipgompplkdaaGreatDoor
namespace Go.Proofs.YtmhipgompplkdaaGreatDoor
open Go.RowKit Go.Shelf Go.Lib
namespace Bf
open Classical in
noncomputable def need (l : List Ru) (outs : List (List UInt8)) : Nat → Bool := fun k => decide (k < l.length ∧ ∃ f, Ru.Needed l outs f ∧ f k = true)
open Classical in
theorem need_eq {l : List Ru} {outs : List (List UInt8)} {f : Nat → Bool} (h : Ru.Needed l outs f) {k : Nat} (hk : k < l.length) : need l outs k = f k := by
  unfold need
  rw [Bool.eq_iff_iff, decide_eq_true_eq]
  constructor
  · rintro ⟨_, g, hg, e⟩
    rw [h.unique hg k hk]
    exact e
  · exact fun e => ⟨hk, f, h, e⟩
open Classical in
theorem need_out {l : List Ru} {outs : List (List UInt8)} {k : Nat} (hk : l.length ≤ k) : need l outs k = false := by
  unfold need
  rw [decide_eq_false]
  rintro ⟨h, _⟩
  omega
noncomputable def init (fs : Tf.Fs) (l : List Ru) (outs : List (List UInt8)) : Bd := ⟨fs, l, fun k => if need l outs k = true then .waits else .no⟩
def Bd.ran (d : Bd) : Nat := many d.st (fun s => s.isDone && !s.hit) d.l.length
def Bd.hits (d : Bd) : Nat := many d.st (fun s => s.isDone && s.hit) d.l.length
def Bd.fails (d : Bd) : Nat := many d.st St.isFailed d.l.length
def Bd.lefts (d : Bd) : Nat := many d.st St.isLeft d.l.length
def Bd.at (d : Bd) (i : Int) : St := if i < 0 ∨ (d.l.length : Int) ≤ i then .no else d.st i.toNat
end Bf
def CaAt (At : (Nat → Prop) → World → Value → Nat → Cf.Ens → Prop) (S : Nat → Prop) (W : World) (cv : Value) : Bf.Ca → Prop
  | none => cv = .pointer none ∧ ∀ j, ¬ S j
  | some (m, l) => (∃ p, cv = .pointer (some p)) ∧ At S W cv m l
structure BuildW (w : World) (es : Nat → Addr) : Prop where
  g : GraphW w es
  shape : w.cell? ⟨1, 0, Option.none⟩ = some (erOf es 3)
  none : w.cell? ⟨2, 0, Option.none⟩ = some (erOf es 6)
  turn : w.cell? ⟨6, 0, Option.none⟩ = some (erOf es 11)
  done : w.cell? ⟨5, 0, Option.none⟩ = some (erOf es 12)
  k : KeyTells w
theorem BuildW.below {w w' : World} {es : Nat → Addr} (h : BuildW w es) (hb : Below w.heap.size w w') : BuildW w' es := ⟨h.g.below hb, cell_below' h.shape hb, cell_below' h.none hb, cell_below' h.turn hb, cell_below' h.done hb, fun V hV => h.k V (below_then hb hV)⟩
def BuildB (B : Nat) (w : World) (es : Nat → Addr) : Prop := ∃ w0 : World, w0.heap.size = B ∧ BuildW w0 es ∧ Below B w0 w
theorem BuildB.w {B : Nat} {w : World} {es : Nat → Addr} (h : BuildB B w es) : BuildW w es := by
  obtain ⟨w0, rfl, h1, h2⟩ := h
  exact h1.below h2
theorem BuildB.of {w : World} {es : Nat → Addr} (h : BuildW w es) : BuildB w.heap.size w es := ⟨w, rfl, h, Below.refl _ _⟩
theorem BuildB.le {B : Nat} {w : World} {es : Nat → Addr} (h : BuildB B w es) : B ≤ w.heap.size := by
  obtain ⟨w0, rfl, _, h2⟩ := h
  exact h2.size
theorem BuildB.trans {B : Nat} {w w' : World} {es : Nat → Addr} (h : BuildB B w es) (hb : Below B w w') : BuildB B w' es := by
  obtain ⟨w0, e, h1, h2⟩ := h
  exact ⟨w0, e, h1, h2.trans hb⟩
theorem BuildB.below {B : Nat} {w w' : World} {es : Nat → Addr} (h : BuildB B w es) (hb : Below w.heap.size w w') : BuildB B w' es := h.trans (hb.mono h.le)
theorem BuildB.only {B : Nat} {w w' : World} {es : Nat → Addr} {S : Nat → Prop} (h : BuildB B w es) (ho : Only S w w') (hS : ∀ j, S j → B ≤ j) : BuildB B w' es := h.trans (ho.below hS h.le)
def NewTells (es : Nat → Addr) (BAt : (Nat → Prop) → World → Value → Value → Bf.Bd → Prop) (n : Nat) (fs : Tf.Fs) (l : List Ru) (outs : List (List UInt8)) (cv : Value) (w : World) (bv ev : Value) : Prop :=
  (bv = .pointer none ∧ (((Ru.fault l).1 ≠ 0 ∧ ErrV w es ev (Ru.fault l)) ∨
    ((Ru.fault l).1 = 0 ∧ ∃ k, ∃ hk : k < outs.length, (∀ x ∈ l, x.out ≠ outs[k]) ∧ (∀ j (hj : j < outs.length), j < k → ∃ x ∈ l, x.out = outs[j]) ∧ ErrV w es ev (6, (k : Int))) ∨
    ((Ru.fault l).1 = 0 ∧ (∀ j (hj : j < outs.length), ∃ x ∈ l, x.out = outs[j]) ∧ Ru.order l (Bf.need l outs) = none ∧ ev = erOf es 9))) ∨
  ((Ru.fault l).1 = 0 ∧ (∀ j (hj : j < outs.length), ∃ x ∈ l, x.out = outs[j]) ∧ (Ru.order l (Bf.need l outs)).isSome = true ∧ ev = .nilIface ∧ (∃ p, bv = .pointer (some p)) ∧ ∃ S, BAt S w bv cv (Bf.init fs l outs) ∧ ∀ k, S k → n ≤ k)
structure Builds (es : Nat → Addr) (act : Bf.Act) (At : (Nat → Prop) → World → Value → Nat → Cf.Ens → Prop) (BAt : (Nat → Prop) → World → Value → Value → Bf.Bd → Prop) : Prop where
  same : ∀ (S : Nat → Prop) (W W' : World) v cv d, BAt S W v cv d → W.heap.size ≤ W'.heap.size → (∀ k, S k → W'.heap[k]? = W.heap[k]?) → BAt S W' v cv d
  lt : ∀ (S : Nat → Prop) (W : World) v cv d, BAt S W v cv d → ∀ k, S k → k < W.heap.size
  noTree : ∀ (W : World) lv l ov outs cv, BuildW W es → RRow W lv l → IRow W ov outs → Calls Tryz.prog 60 #[.pointer none, lv, ov, cv] W fun e w' => e = .returned (.tuple #[.pointer none, erOf es 3]) ∧ Below W.heap.size W w'
  new : ∀ (W : World) B tb fs o lv l ov outs cv, BuildW W es → TreeAt B W tb fs o → Tf.Rises fs → fs.length ≤ 1000 → (∀ f ∈ fs, f.1.length ≤ 1000 ∧ f.2.length ≤ 2000) → RRow W lv l → l.length ≤ 100 → (∀ x ∈ l, x.Small) → XRow W ov outs → outs.length ≤ 100 → (∀ x ∈ outs, x.length ≤ 300) → (∃ q, cv = .pointer q) →
    Calls Tryz.prog 60 #[Ptr tb, lv, ov, cv] W fun e w' => ∃ bv ev, e = .returned (.tuple #[bv, ev]) ∧ Below W.heap.size W w' ∧ NewTells es BAt W.heap.size fs l outs cv w' bv ev
  ready : ∀ (S : Nat → Prop) (W : World) p cv d, BAt S W (.pointer (some p)) cv d → d.l.length ≤ 40 → Calls Tryz.prog 66 #[.pointer (some p)] W fun e w' => ∃ u, e = .returned u ∧ NIRow w' u d.ready ∧ Below W.heap.size W w'
  state : ∀ (S : Nat → Prop) (W : World) p cv d (i : Int), BAt S W (.pointer (some p)) cv d → d.l.length ≤ 40 → -9223372036854775808 ≤ i → i ≤ 9223372036854775807 → Calls Tryz.prog 67 #[.pointer (some p), .int .i64 i] W fun e w' => e = .returned (.string (ba (d.at i).name)) ∧ Below W.heap.size W w'
  result : ∀ (S : Nat → Prop) (W : World) p cv d (i : Int), BAt S W (.pointer (some p)) cv d → d.l.length ≤ 40 → -9223372036854775808 ≤ i → i ≤ 9223372036854775807 → Calls Tryz.prog 64 #[.pointer (some p), .int .i64 i] W fun e w' => e = .returned (.tuple #[.string (ba (d.at i).out), .bool (d.at i).isDone]) ∧ Below W.heap.size W w'
  why : ∀ (S : Nat → Prop) (W : World) p cv d (i : Int), BAt S W (.pointer (some p)) cv d → BuildW W es → d.l.length ≤ 40 → -9223372036854775808 ≤ i → i ≤ 9223372036854775807 → Calls Tryz.prog 134 #[.pointer (some p), .int .i64 i] W fun e w' => e = .returned (erOf es (d.at i).why) ∧ Below W.heap.size W w'
  over : ∀ (S : Nat → Prop) (W : World) p cv d, BAt S W (.pointer (some p)) cv d → d.l.length ≤ 40 → Calls Tryz.prog 65 #[.pointer (some p)] W fun e w' => e = .returned (.bool (d.waits == 0)) ∧ Below W.heap.size W w'
  count : ∀ (S : Nat → Prop) (W : World) p cv d, BAt S W (.pointer (some p)) cv d → d.l.length ≤ 40 → Calls Tryz.prog 119 #[.pointer (some p)] W fun e w' => e = .returned (.agg #[.int .i64 (d.ran : Nat), .int .i64 (d.hits : Nat), .int .i64 (d.fails : Nat), .int .i64 (d.lefts : Nat)]) ∧ Below W.heap.size W w'
  run : ∀ (B : Nat) (S SC : Nat → Prop) (W : World) p cv d c (i : Int), BAt S W (.pointer (some p)) cv d → CaAt At SC W cv c → (∀ j, S j → ¬ SC j) → BuildB B W es → (∀ j, S j → B ≤ j) → (∀ j, SC j → B ≤ j) → (Ru.fault d.l).1 = 0 → (∀ x ∈ d.l, x.Small) → Bf.Fit d → Bf.CFit c → -9223372036854775808 ≤ i → i ≤ 9223372036854775807 →
    Calls Tryz.prog 61 #[.pointer (some p), .int .i64 i] W fun e w' => e = .returned (.tuple #[.bool (Bf.run act c d i).hit, erOf es (Bf.run act c d i).code]) ∧ Only (fun j => S j ∨ SC j) W w' ∧ ∃ S' SC', BAt S' w' (.pointer (some p)) cv (Bf.run act c d i).d ∧ CaAt At SC' w' cv (Bf.run act c d i).c ∧ (∀ j, S' j → ¬ SC' j) ∧ (∀ j, S' j → S j ∨ W.heap.size ≤ j) ∧ ∀ j, SC' j → SC j ∨ W.heap.size ≤ j
  all : ∀ (B : Nat) (S SC : Nat → Prop) (W : World) p cv d c, BAt S W (.pointer (some p)) cv d → CaAt At SC W cv c → (∀ j, S j → ¬ SC j) → BuildB B W es → (∀ j, S j → B ≤ j) → (∀ j, SC j → B ≤ j) → (Ru.fault d.l).1 = 0 → (∀ x ∈ d.l, x.Small) → Bf.Fit d → Bf.CFit c →
    Calls Tryz.prog 62 #[.pointer (some p)] W fun e w' => e = .returned (.agg #[.int .i64 ((Bf.all act c d).1.ran : Nat), .int .i64 ((Bf.all act c d).1.hits : Nat), .int .i64 ((Bf.all act c d).1.fails : Nat), .int .i64 ((Bf.all act c d).1.lefts : Nat)]) ∧ Only (fun j => S j ∨ SC j) W w' ∧ ∃ S' SC', BAt S' w' (.pointer (some p)) cv (Bf.all act c d).1 ∧ CaAt At SC' w' cv (Bf.all act c d).2 ∧ (∀ j, S' j → ¬ SC' j) ∧ (∀ j, S' j → S j ∨ W.heap.size ≤ j) ∧ ∀ j, SC' j → SC j ∨ W.heap.size ≤ j
end Go.Proofs.YtmhipgompplkdaaGreatDoor
namespace Go.Proofs.YtmhipgompplkdaaGreatDoor
open Go.RowKit Go.Shelf Go.Lib
set_option maxRecDepth 100000 in
set_option maxHeartbeats 4000000 in
theorem Run_good (nm word : ByteArray) (p : Option Addr) (len cap : Nat) (a b : Int) (tv : Value) (gr : Nat) (cr : Array Value) (out : ByteArray) (el : Value) (w : World)
    (hel : w.cell? ⟨3, 0, none⟩ = some el) (h6 : 20 < w.heap.size) (htv : ∃ g c, tv = tfn g c)
    (eg : ∀ args w, (callFunc gr args).run Tryz.prog w = .ok (.enter gr args) w)
    (hfind : Hid (Calls Tryz.prog 99 #[.string nm, .string word, .int .i64 len] w fun e w' => e = .returned (.tuple #[kd a b tv (tfn gr cr), .nilIface]) ∧ Below w.heap.size w w' ∧ Objs w' (w.heap.size + 1)))
    (HR : Hid (∀ W, Below w.heap.size w W → Objs W (w.heap.size + 1) → Calls Tryz.prog gr (#[.string word, .slice p len cap] ++ cr) W fun e w' => e = .returned (.string out) ∧ Below W.heap.size W w')) :
    Calls Tryz.prog 33 #[.string nm, .string word, .slice p len cap] w fun e w' => e = .returned (if 2000 < out.size then .tuple #[.string ⟨#[]⟩, el] else .tuple #[.string out, .nilIface]) ∧ Below w.heap.size w w' := by
  obtain ⟨g, c, rfl⟩ := htv
  generalize hr : (if 2000 < out.size then Value.tuple #[.string ⟨#[]⟩, el] else .tuple #[.string out, .nilIface]) = r
  have HQ : Hid ((if 2000 < out.size then Value.tuple #[.string ⟨#[]⟩, el] else .tuple #[.string out, .nilIface]) = r) := hr
  clear hr
  have hnf : ∀ (a : Addr) (m : Mode) (W : World), Sem.run Tryz.prog (store a .nilFunc m) W = stored Tryz.prog W a .nilFunc m := fun a m W => run_store _ W a _ m rfl
  have hnt : ∀ (a : Addr) (m : Mode) (W : World), Sem.run Tryz.prog (store a (tfn g c) m) W = stored Tryz.prog W a (tfn g c) m := fun a m W => run_store _ W a _ m rfl
  have hnr : ∀ (a : Addr) (m : Mode) (W : World), Sem.run Tryz.prog (store a (tfn gr cr) m) W = stored Tryz.prog W a (tfn gr cr) m := fun a m W => run_store _ W a _ m rfl
  go_enter Tryz.func33, Tryz.ntmps33
  go_wp2_with fail
  refine hfind.out.mono ?_
  rintro e w2 ⟨rfl, hb2, hO2⟩
  have gC : Below w2.heap.size w2 (w2.alloc (.cells #[.int .i64 a, .int .i64 b, tfn g c, tfn gr cr] 163)) := (Below.refl _ w2).alloc (Nat.le_refl _) _
  have HC := HR.out _ (below_then hb2 gC) (hO2.stays gC)
  go_wp2_with fail
  refine HC.mono ?_
  rintro e w3 ⟨rfl, hb3⟩
  have g3 := below_then (below_then hb2 gC) hb3
  have ke : w3.cell? ⟨3, 0, none⟩ = some el := (cell_below2 g3 (by omega)).trans hel
  clear HC gC hb2 hO2 hb3
  by_cases hl : 2000 < out.size
  · have d3 : decide ((2000 : Int) < (out.size : Int)) = true := by simp; omega
    go_wp2
    go_region
    all_goals go_wp2
    go_ret2
    exact ⟨ret_eq (by rw [← HQ.out, if_pos hl]; rfl), below_draws g3 1⟩
  · have d3 : decide ((2000 : Int) < (out.size : Int)) = false := by simp; omega
    go_wp2
    go_ret2
    exact ⟨ret_eq (by rw [← HQ.out, if_neg hl]; rfl), g3⟩
set_option maxRecDepth 100000 in
set_option maxHeartbeats 4000000 in
theorem Run_bad (nm word : ByteArray) (p : Option Addr) (len cap : Nat) (t : TypeId) (u : Value) (w : World)
    (hfind : Hid (Calls Tryz.prog 99 #[.string nm, .string word, .int .i64 len] w fun e w' => e = .returned (.tuple #[zkd, .iface t u]) ∧ Below w.heap.size w w')) :
    Calls Tryz.prog 33 #[.string nm, .string word, .slice p len cap] w fun e w' => e = .returned (.tuple #[.string ⟨#[]⟩, .iface t u]) ∧ Below w.heap.size w w' := by
  have hnf : ∀ (a : Addr) (m : Mode) (W : World), Sem.run Tryz.prog (store a .nilFunc m) W = stored Tryz.prog W a .nilFunc m := fun a m W => run_store _ W a _ m rfl
  go_enter Tryz.func33, Tryz.ntmps33
  go_wp2_with fail
  refine hfind.out.mono ?_
  rintro e w2 ⟨rfl, hb2⟩
  have g3 := hb2.alloc hb2.size (.cells #[.int .i64 0, .int .i64 0, .nilFunc, .nilFunc] 163)
  go_wp2
  go_ret2
  exact ⟨rfl, g3⟩
end Go.Proofs.YtmhipgompplkdaaGreatDoor
namespace Go.Proofs.YtmhipgompplkdaaGreatDoor
open Go.RowKit Go.Shelf Go.Lib
open Go.Sort (grow Holds putRow)
open Af (Kd)
def Af.actO (nm wd : List UInt8) (ls : List (List UInt8)) : List UInt8 × Nat :=
  if Af.actE nm wd ls.length = 0 then
    (match Af.kindOf nm with
     | some k => if 2000 < (k.out wd ls).length then ([], 10) else (k.out wd ls, 0)
     | none => ([], 5))
  else ([], Af.actE nm wd ls.length)
theorem Run_any {w : World} {er : Nat → Value} (h : AE w er) (nm wd : List UInt8) (hl : wd.length ≤ 1000000) (v : Value) (ls : List (List UInt8)) (hrow : TRow w v ls) (hx : ∀ x ∈ ls, x.length ≤ 3000) :
    Calls Tryz.prog 33 #[.string (ba nm), .string (ba wd), v] w fun e w' => e = .returned (.tuple #[.string (ba (Af.actO nm wd ls).1), er (Af.actO nm wd ls).2]) ∧ Below w.heap.size w w' := by
  obtain ⟨pa, cap, rfl, hcap, hin⟩ := hrow
  have hrow : TRow w (.slice pa ls.length cap) ls := ⟨pa, cap, rfl, hcap, hin⟩
  rcases find_any h nm wd ls.length hl with ⟨e0, k, hk, h1, h2, h3, h4, hf⟩ | ⟨e0, hf⟩
  · have eO : Af.actO nm wd ls = if 2000 < (k.out wd ls).length then ([], 10) else (k.out wd ls, 0) := by
      unfold Af.actO
      rw [if_pos e0, hk]
    have := Run_good (ba nm) (ba wd) pa ls.length cap k.least k.most _ (Af.rf k) (Af.rc (w.heap.size + 1) k) (ba (k.out wd ls)) (er 10) w h.aw.long h.aw.big ⟨_, _, rfl⟩ (rf_enters k) (hid1 hf)
      (hid1 fun W hW hO => run_calls h.aw wd h4 pa cap ls hrow hx k (by omega) (by omega) h3 W hW hO)
    refine this.mono ?_
    rintro e w' ⟨rfl, g⟩
    refine ⟨?_, g⟩
    rw [eO, ba_size]
    split
    · rfl
    · rw [h.zero]
  · have eO : Af.actO nm wd ls = ([], Af.actE nm wd ls.length) := by
      unfold Af.actO
      rw [if_neg e0]
    rw [eO]
    obtain ⟨c, hc⟩ : ∃ c, Af.actE nm wd ls.length = c + 1 := ⟨Af.actE nm wd ls.length - 1, by omega⟩
    obtain ⟨t, u, hu⟩ := h.iface c
    simp only [hc, hu] at hf ⊢
    exact Run_bad (ba nm) (ba wd) pa ls.length cap t u w (hid1 hf)
end Go.Proofs.YtmhipgompplkdaaGreatDoor
