import Derived.Test.YtmhipgompplkdaaGreatDoorBS35
import Derived.Test.YtmhipgompplkdaaGreatDoorBS07
import Derived.Shelf.Strings.BuilderK
import Derived.Lib.SmallJoins
import Derived.Lib.ItoaLen
import Derived.Sort.Grow
import Derived.Test.YtmhipgompplkdaaGreatDoorBS15
import Derived.OwnWalk
import Derived.Test.YtmhipgompplkdaaGreatDoorBS08
import Derived.Test.YtmhipgompplkdaaGreatDoorBS17
import Derived.Test.YtmhipgompplkdaaGreatDoorBS09
import Derived.Deep.RegionHeld3
import Derived.Test.YtmhipgompplkdaaGreatDoorBS19
namespace Go.Proofs.YtmhipgompplkdaaGreatDoor
open Go.RowKit Go.Shelf Go.Lib Go.Maps
open Tf (Fs)
theorem Put_no {B : Nat} {w : World} {tb : Nat} {fs : Fs} {o : Option Nat} (_h : TreeAt B w tb fs o) (p b : List UInt8) (t : TypeId) (u : Value)
    (HM : Hid (Calls Tryz.prog 89 #[Ptr tb, .string (ba p), .string (ba b)] w fun e w' => e = .returned (.iface t u) ∧ Below w.heap.size w w')) :
    Calls Tryz.prog 20 #[Ptr tb, .string (ba p), .string (ba b)] w fun e w' => e = .returned (.iface t u) ∧ Below w.heap.size w w' := by
  go_enter Tryz.func20, Tryz.ntmps20
  go_wp2_with fail
  refine HM.out.mono ?_
  rintro e w1 ⟨rfl, g1⟩
  go_wp2
  go_ret
  exact ⟨rfl, g1⟩
theorem eq_someMap (bm : Nat) (w : World) : (binOp BinOp.eql 146 (.map (some bm)) (.map none)).run Tryz.prog w = .ok (.bool false) w := by kernel_rfl
theorem eq_noMap (w : World) : (binOp BinOp.eql 146 (.map none) (.map none)).run Tryz.prog w = .ok (.bool true) w := by kernel_rfl
theorem below_turned {B : Nat} {a w w' : World} {bm : Nat} (h : Below B a w) (hsz : B ≤ w.heap.size) (hB : B ≤ bm) (ht : w.mapTurned w' bm) : Below B a w' :=
  h.grown ht.grown hsz (fun j e => by cases e; exact hB)
end Go.Proofs.YtmhipgompplkdaaGreatDoor
namespace Go.Proofs.YtmhipgompplkdaaGreatDoor
open Go.RowKit Go.Shelf Go.Lib Go.Maps
open Tf (Fs)
set_option maxRecDepth 100000 in
set_option maxHeartbeats 2000000 in
theorem mayPut_empty {B : Nat} {w : World} {tb : Nat} {fs : Fs} (h : TreeAt B w tb fs none) (p b : List UInt8) (hp : p.length ≤ 1000000) (hn : pathB p = true) (hb : b.length ≤ 2000) :
    Calls Tryz.prog 89 #[Ptr tb, .string (ba p), .string (ba b)] w fun e w' => e = .returned .nilIface ∧ Below w.heap.size w w' := by
  have HK : Hid (Calls Tryz.prog 143 #[.string (ba p)] w fun e w' => e = .returned .nilIface ∧ Below w.heap.size w w') := Check_yes p hp hn w
  have z : (b.length : Int) ≤ 2000 := by omega
  have hl := fun w' => look_nofile w' p hp
  have hc := h.cell
  clear hn hb h
  go_enter Tryz.func89, Tryz.ntmps89
  go_wp2_with fail
  refine HK.out.mono ?_
  rintro e w1 ⟨rfl, g1⟩
  have hc1 := cell_below' hc g1
  have g2 := g1.alloc g1.size (.cells #[.string (ba [])] 150)
  have hc2 := cell_below' hc g2
  have g3 := g2.alloc g2.size (.mapIter none 0 #[] 0)
  have hc3 := cell_below' hc g3
  have hrg := run_range_nilMap (P := Tryz.prog) (w1.alloc (.cells #[.string (ba [])] 150)) 146 9 150 Tryz.underlying146
  have hnx : ∀ ty, (Instr.next (.pointer (some ⟨(w1.alloc (.cells #[.string (ba [])] 150)).heap.size, 0, none⟩)) false ty).run Tryz.prog ((w1.alloc (.cells #[.string (ba [])] 150)).alloc (.mapIter none 0 #[] 0)) = _ := fun ty => run_next_nilMap (w1.alloc (.cells #[.string (ba [])] 150)) ty 0 0 #[]
  have hln : ∀ W ty, (Builtin.len_ #[146] ty #[.map none]).run Tryz.prog W = .ok (.int .i64 0) W := fun W ty => Maps.len_nil (w := W) Tryz.underlying146 ty
  have e1 : (w1.alloc (.cells #[.string (ba [])] 150)).heap.size = w1.heap.size + 1 := by simp
  rw [e1] at hrg hnx
  clear e1 HK
  go_wp2
  refine wp_loop_rounds 1 ?_
  rw [rounds_succ]
  go_wp2
  go_ret
  exact ⟨rfl, g3⟩
theorem putCode_new (fs : Fs) (p b : List UInt8) (hn : pathB p = true) (hb : b.length ≤ 2000) (ht : Tf.hasP fs p = false) : Tf.putCode pathB fs p b = newCode fs p := by
  unfold Tf.putCode newCode
  rw [if_neg (by simp [hn]), if_neg (by omega), if_neg (by simp [ht])]
theorem mayPut_calls {B : Nat} {w : World} {tb : Nat} {fs : Fs} {o : Option Nat} {es : Nat → Value} (h : TreeAt B w tb fs o) (hE : TErr w es) (hlen : ∀ f ∈ fs, f.1.length ≤ 1000000) (hfew : fs.length ≤ 1000) (p b : List UInt8) (hp : p.length ≤ 1000000) :
    Calls Tryz.prog 89 #[Ptr tb, .string (ba p), .string (ba b)] w fun e w' => e = .returned (es (Tf.putCode pathB fs p b)) ∧ Below w.heap.size w w' := by
  cases hn : pathB p with
  | false =>
    rw [show Tf.putCode pathB fs p b = 4 by simp [Tf.putCode, hn]]
    exact mayPut_name h hE p b hp hn
  | true =>
    rcases Nat.lt_or_ge 2000 b.length with hb | hb
    · rw [show Tf.putCode pathB fs p b = 2 by simp [Tf.putCode, hn, hb]]
      exact mayPut_bound h hE p b hp hn hb
    · cases ht : Tf.hasP fs p with
      | true =>
        rw [show Tf.putCode pathB fs p b = 0 by unfold Tf.putCode; rw [if_neg (by simp [hn]), if_neg (by omega), if_pos ht], hE.nil]
        exact mayPut_there h p b hp hn hb ht
      | false =>
        cases o with
        | none =>
          obtain rfl : fs = [] := h.isMap
          rw [show Tf.putCode pathB [] p b = 0 by rw [putCode_new _ _ _ hn hb ht]; simp [newCode, Tf.clash], hE.nil]
          exact mayPut_empty h p b hp hn hb
        | some bm =>
          rw [putCode_new _ _ _ hn hb ht]
          exact mayPut_new h hE hlen hfew p b hp hn hb ht
end Go.Proofs.YtmhipgompplkdaaGreatDoor
namespace Go.Proofs.YtmhipgompplkdaaGreatDoor
open Go.RowKit Go.Shelf Go.Lib Go.Maps
open Tf (Fs)
theorem ba_extract (t : List UInt8) (a b : Nat) : (ba t).extract a b = ba ((t.drop a).take (b - a)) := ba_eq (by rw [← Lib.toList_data, Lib.extract_toList])
theorem pair_new (w : World) (x y : Value) (t : TypeId) : (w.alloc (.cells #[x, y] t)).heap[w.heap.size]? = some (.cells #[x, y] t (0, 0)) := (MapKept.heap_alloc w _).1
end Go.Proofs.YtmhipgompplkdaaGreatDoor
namespace Go.Proofs.YtmhipgompplkdaaGreatDoor
open Go.RowKit Go.Shelf Go.Lib Go.Maps
open Tf (Fs)
def entCells (es : Fs) : List Value := es.flatMap fun e => [.string (ba e.1), .string (ba e.2)]
theorem entCells_len (es : Fs) : (entCells es).length = es.length * 2 := by
  induction es with
  | nil => rfl
  | cons e r ih => simp [entCells] at ih ⊢; omega
theorem entCells_at : ∀ (es : Fs) (j : Nat) (hj : j < es.length), (entCells es)[j * 2]? = some (.string (ba es[j].1)) ∧ (entCells es)[j * 2 + 1]? = some (.string (ba es[j].2))
  | e :: r, 0, _ => by simp [entCells]
  | e :: r, j + 1, hj => by
    have := entCells_at r j (by simpa using hj)
    have e1 : entCells (e :: r) = .string (ba e.1) :: .string (ba e.2) :: entCells r := by simp [entCells]
    rw [e1, show (j + 1) * 2 = j * 2 + 1 + 1 by omega]
    simpa using this
def ERow (w : World) (v : Value) (es : Fs) : Prop :=
  ∃ p cap, v = .slice p es.length cap ∧ es.length ≤ cap ∧ (es ≠ [] → ∃ g cur, p = some ⟨g, 0, none⟩ ∧ w.heap[g]? = some (.cells cur 135 (0, 0)) ∧ ∀ j (hj : j < es.length), cur[j * 2]? = some (.string (ba es[j].1)) ∧ cur[j * 2 + 1]? = some (.string (ba es[j].2)))
theorem ERow.of_owns {w : World} {base : Nat} {v : Value} {es : Fs} (h : w.ownsRow base 135 2 v es.length (entCells es)) : ERow w v es := by
  rcases h.2 with ⟨rfl, hn⟩ | ⟨g, cap, cur, rfl, _, hb, h1, _, _, h4⟩
  · obtain rfl : es = [] := by simpa using hn
    exact ⟨none, 0, rfl, Nat.le_refl _, fun h => absurd rfl h⟩
  · refine ⟨_, cap, rfl, h1, fun _ => ⟨g, cur, rfl, hb, fun j hj => ?_⟩⟩
    obtain ⟨h5, h6⟩ := entCells_at es j hj
    rw [← h4, List.getElem?_take, if_pos (by omega), Array.getElem?_toList] at h5 h6
    exact ⟨h5, h6⟩
theorem ERow.keep {w w' : World} {v : Value} {es : Fs} {B : Nat} (h : ERow w v es) (hB : w.heap.size ≤ B) (hb : ∀ k, k < B → w'.heap[k]? = w.heap[k]?) : ERow w' v es := by
  obtain ⟨p, cap, e, h0, h1⟩ := h
  refine ⟨p, cap, e, h0, fun hl => ?_⟩
  obtain ⟨g, cur, e, hg, hc⟩ := h1 hl
  exact ⟨g, cur, e, (hb g (by have := (Array.getElem?_eq_some_iff.1 hg).1; omega)).trans hg, hc⟩
theorem row_low {w : World} {base : Nat} {e : TypeId} {size : Nat} {v : Value} {n : Nat} {xs : List Value} (h : w.ownsRow base e size v n xs) : ∀ k, v.ownBlock = some k → base ≤ k := by
  intro k hk
  rcases h.2 with ⟨rfl, _⟩ | ⟨g, cap, cur, rfl, hb, _⟩
  · cases hk
  · cases hk; exact hb
theorem ownsRow_below {w w' : World} {base : Nat} {e : TypeId} {size : Nat} {v : Value} {n : Nat} {xs : List Value} (h : w.ownsRow base e size v n xs) (hb : Below w.heap.size w w') : w'.ownsRow base e size v n xs := by
  obtain ⟨h0, h1⟩ := h
  refine ⟨h0, h1.imp id ?_⟩
  rintro ⟨g, cap, cur, e1, e2, e3, e4⟩
  exact ⟨g, cap, cur, e1, e2, (hb.block g (Array.getElem?_eq_some_iff.1 e3).1).trans e3, e4⟩
theorem two_new (W : World) (x y : Value) (t : TypeId) (j : Nat) (u : Value) (h : [x, y][j]? = some u) : (W.alloc (.cells #[x, y] t)).cell? ((⟨W.heap.size, 0, none⟩ : Addr).add j) = some u := by
  have hk := pair_new W x y t
  match j, h with
  | 0, h => cases h; exact cell_of_row hk rfl
  | 1, h => cases h; exact cell_of_row hk rfl
end Go.Proofs.YtmhipgompplkdaaGreatDoor
namespace Go.Proofs.YtmhipgompplkdaaGreatDoor
open Go.RowKit Go.Shelf Go.Lib Go.Maps
open Tf (Fs)
theorem above_short {a b : List UInt8} (h : b.length ≤ a.length) : Tf.above a b = false := by
  cases e : Tf.above a b with
  | false => rfl
  | true =>
    have := (List.isPrefixOf_iff_prefix.1 (show (a ++ [47]).isPrefixOf b = true from e)).length_le
    simp at this
    omega
theorem above_off {a b : List UInt8} (h : (b.take a.length == a) = false) : Tf.above a b = false := by
  cases e : Tf.above a b with
  | false => rfl
  | true =>
    obtain ⟨t, rfl⟩ := List.isPrefixOf_iff_prefix.1 (show (a ++ [47]).isPrefixOf b = true from e)
    simp at h
theorem above_on {a b : List UInt8} (hl : a.length < b.length) (h : b.take a.length = a) : Tf.above a b = decide (b[a.length] = 47) := by
  obtain ⟨c, t, rfl⟩ : ∃ c t, b = a ++ c :: t := by
    refine ⟨b[a.length], b.drop (a.length + 1), ?_⟩
    conv => lhs; rw [← List.take_append_drop a.length b, h, List.drop_eq_getElem_cons hl]
  have e : (a ++ c :: t)[a.length] = c := by simp
  rw [e]
  rw [Bool.eq_iff_iff]
  show (a ++ [47]).isPrefixOf (a ++ c :: t) = true ↔ _
  rw [List.isPrefixOf_iff_prefix, List.prefix_append_right_inj, List.cons_prefix_cons]
  simp
  exact eq_comm
theorem byte_is (x : UInt8) (n : Nat) (hn : n < 256) : (((x.toNat : Nat) : Int) == (n : Int)) = decide (x = UInt8.ofNat n) := by
  rw [Bool.eq_iff_iff]
  simp only [beq_iff_eq, decide_eq_true_eq]
  constructor
  · intro h
    apply UInt8.toNat_inj.1
    simp
    omega
  · intro h
    subst h
    simp
    omega
set_option maxRecDepth 100000 in
theorem rabove_calls (a b : List UInt8) (ha : a.length ≤ 1000000) (hb : b.length ≤ 1000000) (w : World) :
    Calls Tryz.prog 91 #[.string (ba a), .string (ba b)] w fun e w' => e = .returned (.bool (Tf.above a b)) ∧ w' = w := by
  have za : (a.length : Int) ≤ 1000000 := by omega
  have zb : (b.length : Int) ≤ 1000000 := by omega
  have z0 : (0 : Int) ≤ (a.length : Int) := by omega
  rcases Nat.lt_or_ge a.length b.length with hl | hl
  · have zl : (a.length : Int) < (b.length : Int) := by omega
    have zl2 : (a.length : Int) ≤ (b.length : Int) := by omega
    have e1 : (ba b).extract 0 a.length = ba (b.take a.length) := by rw [ba_extract]; simp
    cases he : (b.take a.length == a) with
    | false =>
      rw [above_off he]
      go_enter Tryz.func91, Tryz.ntmps91
      go_wp2
      go_ret
      exact ⟨rfl, rfl⟩
    | true =>
      have he' : b.take a.length = a := by simpa using he
      rw [above_on hl he']
      go_enter Tryz.func91, Tryz.ntmps91
      go_wp2
      go_ret
      exact ⟨ret_bool (byte_is b[a.length] 47 (by omega)), rfl⟩
  · have zl : (b.length : Int) ≤ (a.length : Int) := by omega
    rw [above_short hl]
    go_enter Tryz.func91, Tryz.ntmps91
    go_wp2
    go_ret
    exact ⟨rfl, rfl⟩
end Go.Proofs.YtmhipgompplkdaaGreatDoor
namespace Go.Proofs.YtmhipgompplkdaaGreatDoor
open Go.RowKit Go.Shelf Go.Lib Go.Maps
open Tf (Fs)
structure RTreeAt (B : Nat) (w : World) (tb : Nat) (fs : Fs) (v : Value) : Prop where
  low : B ≤ tb
  cell : w.cell? ⟨tb, 0, none⟩ = some v
  free : w.frozen? ⟨tb, 0, none⟩ = false
  row : w.ownsRow B 51 2 v fs.length (entCells fs)
  apart : v.ownBlock ≠ some tb
  nil : fs = [] → v = .slice none 0 0
theorem RTreeAt.lt {B : Nat} {w : World} {tb : Nat} {fs : Fs} {v : Value} (h : RTreeAt B w tb fs v) : tb < w.heap.size := lt_of_cell h.cell
theorem RTreeAt.below {B : Nat} {w w' : World} {tb : Nat} {fs : Fs} {v : Value} (h : RTreeAt B w tb fs v) (hb : Below w.heap.size w w') : RTreeAt B w' tb fs v :=
  ⟨h.low, (hb.cell (p := ⟨tb, 0, none⟩) h.lt).trans h.cell, (hb.frozen (p := ⟨tb, 0, none⟩) h.lt).trans h.free, ownsRow_below h.row hb, h.apart, h.nil⟩
def FRow (w : World) (v : Value) (es : Fs) : Prop :=
  ∃ p cap, v = .slice p es.length cap ∧ es.length ≤ cap ∧ (es ≠ [] → ∃ g cur, p = some ⟨g, 0, none⟩ ∧ w.heap[g]? = some (.cells cur 51 (0, 0)) ∧ ∀ j (hj : j < es.length), cur[j * 2]? = some (.string (ba es[j].1)) ∧ cur[j * 2 + 1]? = some (.string (ba es[j].2)))
theorem FRow.of_owns {w : World} {base : Nat} {v : Value} {es : Fs} (h : w.ownsRow base 51 2 v es.length (entCells es)) : FRow w v es := by
  rcases h.2 with ⟨rfl, hn⟩ | ⟨g, cap, cur, rfl, _, hb, h1, _, _, h4⟩
  · obtain rfl : es = [] := by simpa using hn
    exact ⟨none, 0, rfl, Nat.le_refl _, fun h => absurd rfl h⟩
  · refine ⟨_, cap, rfl, h1, fun _ => ⟨g, cur, rfl, hb, fun j hj => ?_⟩⟩
    obtain ⟨h5, h6⟩ := entCells_at es j hj
    rw [← h4, List.getElem?_take, if_pos (by omega), Array.getElem?_toList] at h5 h6
    exact ⟨h5, h6⟩
set_option maxRecDepth 100000 in
set_option maxHeartbeats 4000000 in
theorem rFind_calls {B : Nat} {w : World} {tb : Nat} {fs : Fs} {v : Value} (h : RTreeAt B w tb fs v) (hn : fs.length ≤ 1000) (p : List UInt8) :
    Calls Tryz.prog 28 #[Ptr tb, .string (ba p)] w fun e w' => ((∃ k, ∃ hk : k < fs.length, e = .returned (.int .i64 k) ∧ fs[k].1 = p) ∨ (Tf.hasP fs p = false ∧ e = .returned (.int .i64 (-1)))) ∧ w' = w := by
  have hc := h.cell
  obtain ⟨pa, cap, rfl, hcap, hin⟩ := FRow.of_owns h.row
  have zn : (fs.length : Int) ≤ 1000 := by omega
  clear h
  go_enter Tryz.func28, Tryz.ntmps28
  go_wp2
  go_loopw [5] (fun i wr => ∃ k : Nat, k ≤ fs.length ∧ i = .int .i64 k ∧ (∀ j (hj : j < fs.length), j < k → fs[j].1 ≠ p) ∧ wr = w) (fun i _ => fs.length - (intOf i).toNat)
  case atStart => exact ⟨0, by omega, rfl, fun j _ h => absurd h (Nat.not_lt_zero _), rfl⟩
  case round =>
    obtain ⟨k, hk, rfl, hno, rfl⟩ := hrel
    by_cases hlt : k < fs.length
    · obtain ⟨g, cur, rfl, hg, hcur⟩ := hin (by intro e; rw [e] at hlt; simp at hlt)
      have h1 := cell_of_row hg (hcur k hlt).1
      have c1 : (k : Int) < (fs.length : Int) := by omega
      have c0 : (0 : Int) ≤ (k : Int) := by omega
      clear hin hcur hg
      obtain ⟨x, hx⟩ : ∃ x, fs[k].1 = x := ⟨_, rfl⟩
      rw [hx] at h1
      by_cases e : x = p
      · subst e
        go_wp2
        go_ret
        exact ⟨.inl ⟨k, hlt, rfl, hx⟩, rfl⟩
      · have e' : (x == p) = false := by simpa using e
        go_wp2
        go_roundw
        case rel => exact ⟨k + 1, by omega, by go_num, fun j hj hjk => by
          rcases Nat.lt_or_ge j k with h2 | h2
          · exact hno j hj h2
          · obtain rfl : j = k := by omega
            rw [hx]; exact e, by first | rfl | trivial⟩
        case measure => simp [intOf]; omega
    · have c1 : (fs.length : Int) ≤ (k : Int) := by omega
      clear hin
      go_wp2
      go_ret
      refine ⟨.inr ⟨?_, rfl⟩, rfl⟩
      unfold Tf.hasP
      rw [List.any_eq_false]
      intro f hf e
      obtain ⟨j, hj, rfl⟩ := List.mem_iff_getElem.1 hf
      exact hno j hj (by omega) (by simpa using e)
end Go.Proofs.YtmhipgompplkdaaGreatDoor
namespace Go.Proofs.YtmhipgompplkdaaGreatDoor
open Go.RowKit Go.Shelf Go.Lib
def PlRow (W : World) (g n : Nat) (f : Nat → Value) : Prop := g < W.heap.size ∧ ∀ j, j < n → W.cell? ⟨g, j, none⟩ = some (f j) ∧ W.frozen? ⟨g, j, none⟩ = false
def upd (f : Nat → Value) (i : Nat) (v : Value) : Nat → Value := fun j => if j = i then v else f j
theorem upd_same (f : Nat → Value) (i : Nat) (v : Value) : upd f i v i = v := if_pos rfl
theorem upd_other {f : Nat → Value} {i j : Nat} {v : Value} (h : j ≠ i) : upd f i v j = f j := if_neg h
theorem PlRow.same {W W' : World} {g n : Nat} {f : Nat → Value} (h : PlRow W g n f) (hz : W.heap.size ≤ W'.heap.size) (hb : W'.heap[g]? = W.heap[g]?) : PlRow W' g n f :=
  ⟨Nat.lt_of_lt_of_le h.1 hz, fun j hj => ⟨(World.cell?_of_block (a := ⟨g, j, none⟩) hb).trans (h.2 j hj).1, (World.frozen?_of_block (a := ⟨g, j, none⟩) hb).trans (h.2 j hj).2⟩⟩
theorem PlRow.set {W : World} {g n : Nat} {f : Nat → Value} (h : PlRow W g n f) {i : Nat} (hi : i < n) (v : Value) : PlRow (W.setCell ⟨g, i, none⟩ v) g n (upd f i v) := by
  refine ⟨by simpa using h.1, fun j hj => ⟨?_, ?_⟩⟩
  · by_cases e : j = i
    · subst e
      rw [upd_same]
      exact World.cell?_setCell_same' _ _ _ (by rw [(h.2 j hj).1]; rfl)
    · rw [upd_other e, World.cell?_setCell_other]
      · exact (h.2 j hj).1
      · simp
  · rw [World.frozen?_setCell]
    exact (h.2 j hj).2
theorem size_setCell (W : World) (a : Addr) (v : Value) : (W.setCell a v).heap.size = W.heap.size := by simp
theorem below_setCell {B : Nat} {w W : World} (h : Below B w W) {g i : Nat} (hg : B ≤ g) (v : Value) : Below B w (W.setCell ⟨g, i, none⟩ v) :=
  ⟨h.os, h.tape, h.output, by rw [size_setCell]; exact h.size, fun j hj => (Below.heap_setCell W ⟨g, i, none⟩ v j (by show j ≠ g; omega)).trans (h.block j hj)⟩
structure MBr (w0 W : World) (mb tb : Nat) (tv lv cv : Value) (gs go gh gw : Nat) (l : List Ru) (fs : Tf.Fs) (vS vO vH vW : Nat → Value) : Prop where
  base : Below w0.heap.size w0 W
  rules : RRow w0 lv l
  low : w0.heap.size ≤ mb ∧ w0.heap.size ≤ gs ∧ w0.heap.size ≤ go ∧ w0.heap.size ≤ gh ∧ w0.heap.size ≤ gw
  c0 : W.cell? ⟨mb, 0, none⟩ = some (Ptr tb)
  c1 : W.cell? ⟨mb, 1, none⟩ = some lv
  c2 : W.cell? ⟨mb, 2, none⟩ = some (.slice (some ⟨gs, 0, none⟩) l.length l.length)
  c3 : W.cell? ⟨mb, 3, none⟩ = some (.slice (some ⟨go, 0, none⟩) l.length l.length)
  c4 : W.cell? ⟨mb, 4, none⟩ = some (.slice (some ⟨gh, 0, none⟩) l.length l.length)
  c5 : W.cell? ⟨mb, 5, none⟩ = some (.slice (some ⟨gw, 0, none⟩) l.length l.length)
  c6 : W.cell? ⟨mb, 6, none⟩ = some cv
  rs : PlRow W gs l.length vS
  ro : PlRow W go l.length vO
  rh : PlRow W gh l.length vH
  rw : PlRow W gw l.length vW
  tree : RTreeAt w0.heap.size W tb fs tv
  n1 : gs ≠ go ∧ gs ≠ gh ∧ gs ≠ gw ∧ go ≠ gh ∧ go ≠ gw ∧ gh ≠ gw
  nm : mb ≠ gs ∧ mb ≠ go ∧ mb ≠ gh ∧ mb ≠ gw
  nt : ∀ j, (j = tb ∨ some j = tv.ownBlock) → j ≠ gs ∧ j ≠ go ∧ j ≠ gh ∧ j ≠ gw
section
variable {w0 W W' : World} {mb tb : Nat} {tv lv cv : Value} {gs go gh gw : Nat} {l : List Ru} {fs : Tf.Fs} {vS vO vH vW : Nat → Value}
def MBlk (mb tb : Nat) (tv : Value) (gs go gh gw : Nat) (j : Nat) : Prop := j = mb ∨ j = tb ∨ some j = tv.ownBlock ∨ j = gs ∨ j = go ∨ j = gh ∨ j = gw
theorem MBr.lt (h : MBr w0 W mb tb tv lv cv gs go gh gw l fs vS vO vH vW) : ∀ j, MBlk mb tb tv gs go gh gw j → j < W.heap.size := by
  rintro j (rfl | rfl | hj | rfl | rfl | rfl | rfl)
  · exact lt_of_cell h.c0
  · exact h.tree.lt
  · exact (h.tree.row.lt j hj.symm).2
  · exact h.rs.1
  · exact h.ro.1
  · exact h.rh.1
  · exact h.rw.1
theorem MBr.ge (h : MBr w0 W mb tb tv lv cv gs go gh gw l fs vS vO vH vW) : ∀ j, MBlk mb tb tv gs go gh gw j → w0.heap.size ≤ j := by
  obtain ⟨h1, h2, h3, h4, h5⟩ := h.low
  rintro j (rfl | rfl | hj | rfl | rfl | rfl | rfl)
  · exact h1
  · exact h.tree.low
  · exact (h.tree.row.lt j hj.symm).1
  · exact h2
  · exact h3
  · exact h4
  · exact h5
theorem RTreeAt.same {B : Nat} (h : RTreeAt B W tb fs tv) (hb : ∀ j, (j = tb ∨ some j = tv.ownBlock) → W'.heap[j]? = W.heap[j]?) : RTreeAt B W' tb fs tv := by
  have bt := hb tb (.inl rfl)
  refine ⟨h.low, (World.cell?_of_block (a := ⟨tb, 0, none⟩) bt).trans h.cell, (World.frozen?_of_block (a := ⟨tb, 0, none⟩) bt).trans h.free, ⟨h.row.1, ?_⟩, h.apart, h.nil⟩
  rcases h.row.2 with h1 | ⟨g, cap, cur, e, h0, hg, h2⟩
  · exact .inl h1
  · exact .inr ⟨g, cap, cur, e, h0, (hb g (.inr (by rw [e]; rfl))).trans hg, h2⟩
theorem MBr.same (h : MBr w0 W mb tb tv lv cv gs go gh gw l fs vS vO vH vW) (hB : Below w0.heap.size w0 W') (hz : W.heap.size ≤ W'.heap.size) (hb : ∀ j, MBlk mb tb tv gs go gh gw j → W'.heap[j]? = W.heap[j]?) : MBr w0 W' mb tb tv lv cv gs go gh gw l fs vS vO vH vW := by
  have bm := hb mb (.inl rfl)
  have cc : ∀ {i : Nat} {u : Value}, W.cell? ⟨mb, i, none⟩ = some u → W'.cell? ⟨mb, i, none⟩ = some u := fun {i u} hc => (World.cell?_of_block (a := ⟨mb, i, none⟩) bm).trans hc
  exact ⟨hB, h.rules, h.low, cc h.c0, cc h.c1, cc h.c2, cc h.c3, cc h.c4, cc h.c5, cc h.c6, h.rs.same hz (hb gs (.inr (.inr (.inr (.inl rfl))))), h.ro.same hz (hb go (.inr (.inr (.inr (.inr (.inl rfl)))))), h.rh.same hz (hb gh (.inr (.inr (.inr (.inr (.inr (.inl rfl))))))), h.rw.same hz (hb gw (.inr (.inr (.inr (.inr (.inr (.inr rfl))))))), h.tree.same (fun j hj => hb j (hj.elim (fun e => .inr (.inl e)) fun e => .inr (.inr (.inl e)))), h.n1, h.nm, h.nt⟩
theorem MBr.below (h : MBr w0 W mb tb tv lv cv gs go gh gw l fs vS vO vH vW) (hb : Below W.heap.size W W') : MBr w0 W' mb tb tv lv cv gs go gh gw l fs vS vO vH vW :=
  h.same (h.base.trans (hb.mono h.base.size)) hb.size fun j hj => hb.block j (h.lt j hj)
theorem MBr.row (h : MBr w0 W mb tb tv lv cv gs go gh gw l fs vS vO vH vW) : RRow W lv l := h.rules.below h.base
theorem MBr.store (h : MBr w0 W mb tb tv lv cv gs go gh gw l fs vS vO vH vW) {g i : Nat} (hg : g = gs ∨ g = go ∨ g = gh ∨ g = gw) (v : Value) {vS' vO' vH' vW' : Nat → Value}
    (rs : PlRow (W.setCell ⟨g, i, none⟩ v) gs l.length vS') (ro : PlRow (W.setCell ⟨g, i, none⟩ v) go l.length vO') (rh : PlRow (W.setCell ⟨g, i, none⟩ v) gh l.length vH') (rw : PlRow (W.setCell ⟨g, i, none⟩ v) gw l.length vW') :
    MBr w0 (W.setCell ⟨g, i, none⟩ v) mb tb tv lv cv gs go gh gw l fs vS' vO' vH' vW' := by
  have hS : ∀ c, c ≠ g → (W.setCell ⟨g, i, none⟩ v).heap[c]? = W.heap[c]? := fun c hc => Below.heap_setCell W ⟨g, i, none⟩ v c hc
  obtain ⟨l1, l2, l3, l4, l5⟩ := h.low
  have hlow : w0.heap.size ≤ g := by rcases hg with e | e | e | e <;> omega
  obtain ⟨m1, m2, m3, m4⟩ := h.nm
  have bm := hS mb (by rcases hg with e | e | e | e <;> omega)
  have cc : ∀ {j : Nat} {u : Value}, W.cell? ⟨mb, j, none⟩ = some u → (W.setCell ⟨g, i, none⟩ v).cell? ⟨mb, j, none⟩ = some u := fun {j u} hc => (World.cell?_of_block (a := ⟨mb, j, none⟩) bm).trans hc
  refine ⟨below_setCell h.base hlow v, h.rules, h.low, cc h.c0, cc h.c1, cc h.c2, cc h.c3, cc h.c4, cc h.c5, cc h.c6, rs, ro, rh, rw, h.tree.same (fun j hj => hS j ?_), h.n1, h.nm, h.nt⟩
  obtain ⟨t1, t2, t3, t4⟩ := h.nt j hj
  rcases hg with e | e | e | e <;> omega
theorem PlRow.other {g g' i n : Nat} {f : Nat → Value} (h : PlRow W g n f) (hg : g ≠ g') (v : Value) : PlRow (W.setCell ⟨g', i, none⟩ v) g n f :=
  h.same (by rw [size_setCell]; exact Nat.le_refl _) (Below.heap_setCell W ⟨g', i, none⟩ v g hg)
theorem MBr.setS (h : MBr w0 W mb tb tv lv cv gs go gh gw l fs vS vO vH vW) {i : Nat} (hi : i < l.length) (v : Value) : MBr w0 (W.setCell ⟨gs, i, none⟩ v) mb tb tv lv cv gs go gh gw l fs (upd vS i v) vO vH vW := by
  obtain ⟨a1, a2, a3, a4, a5, a6⟩ := h.n1
  exact h.store (.inl rfl) v (h.rs.set hi v) (h.ro.other (by omega) v) (h.rh.other (by omega) v) (h.rw.other (by omega) v)
end
end Go.Proofs.YtmhipgompplkdaaGreatDoor
namespace Go.Proofs.YtmhipgompplkdaaGreatDoor
open Go.RowKit Go.Shelf Go.Lib
abbrev FailO (gs gw : Nat) (W w : World) : Prop := Only (fun j => j = gs ∨ j = gw) W w
theorem FailO.drew {gs gw : Nat} {W w : World} (h : FailO gs gw W w) (q : Nat) : FailO gs gw W (w.drewN q) := ⟨h.os, h.tape, h.output, h.size, h.block⟩
theorem FailO.set {gs gw : Nat} {W w : World} (h : FailO gs gw W w) (i : Nat) (v : Value) : FailO gs gw W (w.setCell ⟨gs, i, none⟩ v) :=
  ⟨h.os, h.tape, h.output, by rw [size_setCell]; exact h.size, fun j hj hn => (Below.heap_setCell w ⟨gs, i, none⟩ v j (fun e => hn (.inl e))).trans (h.block j hj hn)⟩
theorem MBr.drew {w0 W : World} {mb tb : Nat} {tv lv cv : Value} {gs go gh gw : Nat} {l : List Ru} {fs : Tf.Fs} {vS vO vH vW : Nat → Value} (h : MBr w0 W mb tb tv lv cv gs go gh gw l fs vS vO vH vW) (q : Nat) : MBr w0 (W.drewN q) mb tb tv lv cv gs go gh gw l fs vS vO vH vW :=
  h.same (below_draws h.base q) (Nat.le_refl _) fun _ _ => rfl
end Go.Proofs.YtmhipgompplkdaaGreatDoor
namespace Go.Proofs.YtmhipgompplkdaaGreatDoor
open Go.RowKit Go.Shelf Go.Lib
set_option maxRecDepth 100000 in
set_option maxHeartbeats 4000000 in
theorem LongTexts_any {w : World} (v : Value) (ls : List (List UInt8)) (many most : Nat) (hmany : many ≤ 1000000) (hmost : most ≤ 1000000) (hrow : IRow w v ls) :
    Calls Tryz.prog 32 #[v, .int .i64 many, .int .i64 most] w fun e w' => ∃ r : Int, e = .returned (.int .i64 r) ∧ w' = w ∧ (r = 1 ∨ (r = 0 ∧ ls.length ≤ many ∧ ∀ x ∈ ls, x.length ≤ most)) := by
  obtain ⟨p, cap, rfl, hin⟩ := hrow
  have zM : (most : Int) ≤ 1000000 := by omega
  have zN : (many : Int) ≤ 1000000 := by omega
  have HI := hid1 hin
  clear hin
  by_cases h12 : ls.length ≤ many
  · have z12 : (ls.length : Int) ≤ (many : Int) := by omega
    go_enter Tryz.func32, Tryz.ntmps32
    go_wp2
    go_loopw [7, 8] (fun n i wr => ∃ k m : Nat, k ≤ ls.length ∧ m ≤ most ∧ n = .int .i64 m ∧ i = .int .i64 k ∧ (∀ j (hj : j < ls.length), j < k → ls[j].length ≤ most) ∧ w = wr) (fun _ i _ => ls.length - (intOf i).toNat)
    case atStart => exact ⟨0, 0, Nat.zero_le _, Nat.zero_le _, rfl, rfl, fun j hj h => by omega, rfl⟩
    case round =>
      obtain ⟨k, m, hk, hm, rfl, rfl, hall, rfl⟩ := hrel
      have HA := hid1 hall
      clear hall
      have c0 : (0 : Int) ≤ (k : Int) := by omega
      have zm : (m : Int) ≤ (most : Int) := by omega
      have q8 : IntKind.i64.wrap (k : Int) = (k : Int) := by rw [IntKind.wrap_i64]; omega
      by_cases hlt : k < ls.length
      · have c1 : (k : Int) < (ls.length : Int) := by omega
        obtain ⟨g, o, rfl, hg, hcur⟩ := HI.out (by intro e; rw [e] at hlt; simp at hlt)
        have hcell := hcur k hlt
        have HS : Hid (ls[k].length ≤ most → ∀ j (hj : j < ls.length), j < k + 1 → ls[j].length ≤ most) := by
          refine hid1 fun h j hj hjk => ?_
          by_cases e : j = k
          · subst e; exact h
          · exact HA.out j hj (by omega)
        clear hcur HI HA
        generalize ls[k] = y at *
        by_cases hy : y.length ≤ most
        · have zy : (y.length : Int) ≤ (most : Int) := by omega
          have HN := hid1 (HS.out hy)
          clear HS
          have q7 : IntKind.i64.wrap ((m : Int) + (y.length : Int)) = ((m + y.length : Nat) : Int) := by rw [IntKind.wrap_i64]; omega
          by_cases hs : m + y.length ≤ most
          · have zs : ((m + y.length : Nat) : Int) ≤ (most : Int) := by omega
            generalize hmy : m + y.length = m1 at *
            clear hmy
            go_wp2
            exact ⟨⟨k + 1, m1, by omega, hs, rfl, by go_num, HN.out, trivial⟩, by simp [intOf]; omega⟩
          · have zs : (most : Int) < ((m + y.length : Nat) : Int) := by omega
            generalize hmy : m + y.length = m1 at *
            clear hmy
            go_wp2
            go_ret
            exact ⟨1, rfl, rfl, .inl rfl⟩
        · have zy : (most : Int) < (y.length : Int) := by omega
          clear HS
          go_wp2
          go_ret
          exact ⟨1, rfl, rfl, .inl rfl⟩
      · obtain rfl : k = ls.length := by omega
        have c1 : ¬ (ls.length : Int) < (ls.length : Int) := by omega
        have HF : Hid (∀ x ∈ ls, x.length ≤ most) := by
          refine hid1 fun x hx => ?_
          obtain ⟨j, hj, rfl⟩ := List.getElem_of_mem hx
          exact HA.out j hj hj
        clear HI HA
        go_wp2
        go_ret
        exact ⟨0, rfl, rfl, .inr ⟨rfl, HF.out⟩⟩
  · have z12 : (many : Int) < (ls.length : Int) := by omega
    go_enter Tryz.func32, Tryz.ntmps32
    go_wp2
    go_ret
    exact ⟨1, rfl, rfl, .inl rfl⟩
set_option maxRecDepth 100000 in
set_option maxHeartbeats 4000000 in
theorem OwnTexts_nil (w : World) :
    Calls Tryz.prog 34 #[.slice none 0 0] w fun e w' => ∃ v', e = .returned v' ∧ XRow w' v' [] ∧ TRow w' v' [] ∧ Below w.heap.size w w' := by
  obtain ⟨i0, hi, hz0, hz1, hz2⟩ := info_parts Tryz.infoStr
  have n1 : World.ownsRow w w.heap.size 9 1 (.slice none 0 0) 0 [] := World.ownsRow_nil _ _ _ _
  go_enter Tryz.func34, Tryz.ntmps34
  go_wp2_with (first
    | (at_builtin; refine wpList_append_own_none rfl _ _ 45 rfl w.heap.size 9 i0 1 Tryz.underlying45 hi _ _ _ rfl n1 rfl ?_)
    | go_in)
  go_ret
  exact ⟨_, rfl, XRow.of_owns (l := []) n1, TRow.of_owns (l := []) n1, Below.refl _ _⟩
set_option maxRecDepth 100000 in
set_option maxHeartbeats 4000000 in
theorem OwnTexts_some (w : World) (a : Addr) (cap : Nat) (ls : List (List UInt8)) (hn : ls.length ≤ 12) (hsrc : ∀ j u, (ls.map sv)[j]? = some u → w.cell? (a.add j) = some u) :
    Calls Tryz.prog 34 #[.slice (some a) ls.length cap] w fun e w' => ∃ v', e = .returned v' ∧ XRow w' v' ls ∧ TRow w' v' ls ∧ Below w.heap.size w w' := by
  obtain ⟨i0, hi, hz0, hz1, hz2⟩ := info_parts Tryz.infoStr
  have n1 : World.ownsRow w w.heap.size 9 1 (.slice none 0 0) 0 [] := World.ownsRow_nil _ _ _ _
  go_enter Tryz.func34, Tryz.ntmps34
  go_wp2_with (first
    | (at_builtin; refine wpList_append_own _ rfl _ _ 45 rfl w.heap.size 9 i0 (.string ⟨#[]⟩) 1 16 Tryz.underlying45 hi hz0 hz1 hz2 rfl (by decide) _ _ _ rfl n1 a ls.length cap (ls.map sv) rfl (by simp) hsrc one_sv (by unfold maxLen; omega) (by omega) (Nat.le_refl _) ?_; intro v1 w1 hown1 hgrow1 _; have b1 := lay_b1 n1 hgrow1; clear hsrc n1 hgrow1)
    | go_in)
  go_ret
  exact ⟨_, rfl, XRow.of_owns hown1, TRow.of_owns hown1, b1⟩
theorem OwnTexts_x {w : World} (v : Value) (ls : List (List UInt8)) (hrow : XRow w v ls) (h12 : ls.length ≤ 12) :
    Calls Tryz.prog 34 #[v] w fun e w' => ∃ v', e = .returned v' ∧ XRow w' v' ls ∧ TRow w' v' ls ∧ Below w.heap.size w w' := by
  have hx := hrow.irow
  have hv := hrow.shape
  obtain ⟨p, cap, rfl, hin⟩ := hx
  rcases hv with e | ⟨a, n, c, e⟩
  · obtain ⟨rfl, e2, rfl⟩ : p = none ∧ ls.length = 0 ∧ cap = 0 := by simpa using e
    obtain rfl := List.length_eq_zero_iff.1 e2
    exact OwnTexts_nil w
  · obtain ⟨rfl, rfl, rfl⟩ : p = some a ∧ ls.length = n ∧ cap = c := by simpa using e
    refine OwnTexts_some w a cap ls h12 fun j u hj => ?_
    have hjl : j < ls.length := by simpa using (List.getElem?_eq_some_iff.1 hj).1
    obtain ⟨g, o, e1, hg, hcur⟩ := hin (by intro e; rw [e] at hjl; simp at hjl)
    obtain rfl := Option.some.inj e1
    rw [List.getElem?_map, List.getElem?_eq_getElem hjl] at hj
    simp only [Option.map_some, Option.some.injEq] at hj
    rw [← hj, add_at2]
    exact hcur j hjl
end Go.Proofs.YtmhipgompplkdaaGreatDoor
namespace Go.Proofs.YtmhipgompplkdaaGreatDoor
open Go.RowKit Go.Shelf Go.Lib
theorem piece_len (x : List UInt8) (h : x.length ≤ 5000) : (Kp.piece x).length ≤ x.length + 22 := by
  unfold Kp.piece
  have := digits_len x.length (by omega)
  simp
  omega
end Go.Proofs.YtmhipgompplkdaaGreatDoor
namespace Go.Proofs.YtmhipgompplkdaaGreatDoor
open Go.RowKit Go.Shelf Go.Lib
def MCa (T : Nat → Prop) (W : World) (cv : Value) : Bf.Ca → Prop
  | none => cv = .pointer none ∧ ∀ j, ¬ T j
  | some (m, l) => (∃ p, cv = .pointer (some p)) ∧ MAt T W cv m l
theorem MCa.same {T : Nat → Prop} {W W' : World} {cv : Value} {c : Bf.Ca} (h : MCa T W cv c) (hz : W.heap.size ≤ W'.heap.size) (hb : ∀ k, T k → W'.heap[k]? = W.heap[k]?) : MCa T W' cv c := by
  match c, h with
  | none, h => exact h
  | some (m, l), h => exact ⟨h.1, h.2.same hz hb⟩
theorem MCa.lt {T : Nat → Prop} {W : World} {cv : Value} {c : Bf.Ca} (h : MCa T W cv c) : ∀ k, T k → k < W.heap.size := by
  match c, h with
  | none, h => exact fun k hk => absurd hk (h.2 k)
  | some (m, l), h => exact h.2.lt
theorem MCa.below {T : Nat → Prop} {W W' : World} {cv : Value} {c : Bf.Ca} (h : MCa T W cv c) (hb : Below W.heap.size W W') : MCa T W' cv c := h.same hb.size fun k hk => hb.block k (h.lt k hk)
theorem MCa.fail {W V w' : World} {mb tb : Nat} {tv cv : Value} {gs go gh gw : Nat} {T : Nat → Prop} {c : Bf.Ca} (h : MCa T W cv c) (hT : ∀ j, MBlk mb tb tv gs go gh gw j → ¬ T j) (g : Below W.heap.size W V) (o : FailO gs gw V w') : MCa T w' cv c :=
  (h.below g).same o.size fun k hk => o.block k ((h.below g).lt k hk) fun x => hT k (x.elim (fun e => .inr (.inr (.inr (.inl e)))) fun e => .inr (.inr (.inr (.inr (.inr (.inr e)))))) hk
theorem MCa.stored {W V : World} {mb tb : Nat} {tv cv : Value} {gs go gh gw : Nat} {T : Nat → Prop} {c : Bf.Ca} (h : MCa T W cv c) (hT : ∀ j, MBlk mb tb tv gs go gh gw j → ¬ T j) (g : Below W.heap.size W V) {a b i : Nat} {u v : Value} (ha : a = gs ∨ a = go ∨ a = gh ∨ a = gw) (hb : b = gs ∨ b = go ∨ b = gh ∨ b = gw) : MCa T ((V.setCell ⟨a, i, none⟩ u).setCell ⟨b, i, none⟩ v) cv c := by
  have key : ∀ x j, (x = gs ∨ x = go ∨ x = gh ∨ x = gw) → T j → j ≠ x := fun x j hx ht e => hT j (by subst e; exact .inr (.inr (.inr hx))) ht
  exact (h.below g).same (by rw [size_setCell, size_setCell]; exact Nat.le_refl _) fun k hk => (Below.heap_setCell _ ⟨b, i, none⟩ v k (key b k hb hk)).trans (Below.heap_setCell V ⟨a, i, none⟩ u k (key a k ha hk))
namespace Bf
def acc (d : Bd) (o : List (List UInt8)) (x : List UInt8) (j : Nat) : List (List UInt8) := match mkr d.l x with | some m => if m < j then o ++ [(d.st m).out] else o | none => o
end Bf
end Go.Proofs.YtmhipgompplkdaaGreatDoor
