import Derived.Test.YtflbofdpfgkmcaaGreatDoorOP42
import Derived.Test.YtflbofdpfgkmcaaGreatDoorOP07
import Derived.Shelf.Strings.BuilderK
import Derived.Lib.SmallJoins
import Derived.Lib.ItoaLen
import Derived.Sort.Grow
import Derived.Test.YtflbofdpfgkmcaaGreatDoorOP16
import Derived.OwnWalk
import Derived.Test.YtflbofdpfgkmcaaGreatDoorOP11
namespace Go.Proofs.YtflbofdpfgkmcaaGreatDoor
open Go.RowKit Go.Shelf Go.Lib Go.Maps
open Tf (Fs)
theorem ba_extract (t : List UInt8) (a b : Nat) : (ba t).extract a b = ba ((t.drop a).take (b - a)) := ba_eq (by rw [← Lib.toList_data, Lib.extract_toList])
theorem pair_new (w : World) (x y : Value) (t : TypeId) : (w.alloc (.cells #[x, y] t)).heap[w.heap.size]? = some (.cells #[x, y] t (0, 0)) := (MapKept.heap_alloc w _).1
end Go.Proofs.YtflbofdpfgkmcaaGreatDoor
namespace Go.Proofs.YtflbofdpfgkmcaaGreatDoor
open Go.RowKit Go.Shelf Go.Lib Go.Maps
open Tf (Fs)
def entCells (es : Fs) : List Value := es.flatMap fun e => [.string (ba e.1), .string (ba e.2)]
theorem entCells_len (es : Fs) : (entCells es).length = es.length * 2 := by
  induction es with
  | nil => rfl
  | cons e r ih => simp [entCells] at ih ⊢; omega
theorem entCells_at : ∀ (es : Fs) (j : Nat) (hj : j < es.length), (entCells es)[j * 2]? = some (.string (ba es[j].1)) ∧ (entCells es)[j * 2 + 1]? = some (.string (ba es[j].2))
  | e :: r, 0, _ => by simp [entCells]
  | e :: r, j + 1, hj => by
    have := entCells_at r j (by simpa using hj)
    have e1 : entCells (e :: r) = .string (ba e.1) :: .string (ba e.2) :: entCells r := by simp [entCells]
    rw [e1, show (j + 1) * 2 = j * 2 + 1 + 1 by omega]
    simpa using this
def ERow (w : World) (v : Value) (es : Fs) : Prop :=
  ∃ p cap, v = .slice p es.length cap ∧ es.length ≤ cap ∧ (es ≠ [] → ∃ g cur, p = some ⟨g, 0, none⟩ ∧ w.heap[g]? = some (.cells cur 125 (0, 0)) ∧ ∀ j (hj : j < es.length), cur[j * 2]? = some (.string (ba es[j].1)) ∧ cur[j * 2 + 1]? = some (.string (ba es[j].2)))
theorem ERow.of_owns {w : World} {base : Nat} {v : Value} {es : Fs} (h : w.ownsRow base 125 2 v es.length (entCells es)) : ERow w v es := by
  rcases h.2 with ⟨rfl, hn⟩ | ⟨g, cap, cur, rfl, _, hb, h1, _, _, h4⟩
  · obtain rfl : es = [] := by simpa using hn
    exact ⟨none, 0, rfl, Nat.le_refl _, fun h => absurd rfl h⟩
  · refine ⟨_, cap, rfl, h1, fun _ => ⟨g, cur, rfl, hb, fun j hj => ?_⟩⟩
    obtain ⟨h5, h6⟩ := entCells_at es j hj
    rw [← h4, List.getElem?_take, if_pos (by omega), Array.getElem?_toList] at h5 h6
    exact ⟨h5, h6⟩
theorem ERow.keep {w w' : World} {v : Value} {es : Fs} {B : Nat} (h : ERow w v es) (hB : w.heap.size ≤ B) (hb : ∀ k, k < B → w'.heap[k]? = w.heap[k]?) : ERow w' v es := by
  obtain ⟨p, cap, e, h0, h1⟩ := h
  refine ⟨p, cap, e, h0, fun hl => ?_⟩
  obtain ⟨g, cur, e, hg, hc⟩ := h1 hl
  exact ⟨g, cur, e, (hb g (by have := (Array.getElem?_eq_some_iff.1 hg).1; omega)).trans hg, hc⟩
theorem row_low {w : World} {base : Nat} {e : TypeId} {size : Nat} {v : Value} {n : Nat} {xs : List Value} (h : w.ownsRow base e size v n xs) : ∀ k, v.ownBlock = some k → base ≤ k := by
  intro k hk
  rcases h.2 with ⟨rfl, _⟩ | ⟨g, cap, cur, rfl, hb, _⟩
  · cases hk
  · cases hk; exact hb
theorem ownsRow_below {w w' : World} {base : Nat} {e : TypeId} {size : Nat} {v : Value} {n : Nat} {xs : List Value} (h : w.ownsRow base e size v n xs) (hb : Below w.heap.size w w') : w'.ownsRow base e size v n xs := by
  obtain ⟨h0, h1⟩ := h
  refine ⟨h0, h1.imp id ?_⟩
  rintro ⟨g, cap, cur, e1, e2, e3, e4⟩
  exact ⟨g, cap, cur, e1, e2, (hb.block g (Array.getElem?_eq_some_iff.1 e3).1).trans e3, e4⟩
theorem two_new (W : World) (x y : Value) (t : TypeId) (j : Nat) (u : Value) (h : [x, y][j]? = some u) : (W.alloc (.cells #[x, y] t)).cell? ((⟨W.heap.size, 0, none⟩ : Addr).add j) = some u := by
  have hk := pair_new W x y t
  match j, h with
  | 0, h => cases h; exact cell_of_row hk rfl
  | 1, h => cases h; exact cell_of_row hk rfl
end Go.Proofs.YtflbofdpfgkmcaaGreatDoor
namespace Go.Proofs.YtflbofdpfgkmcaaGreatDoor
open Go.RowKit Go.Shelf Go.Lib Go.Maps
open Tf (Fs)
theorem above_short {a b : List UInt8} (h : b.length ≤ a.length) : Tf.above a b = false := by
  cases e : Tf.above a b with
  | false => rfl
  | true =>
    have := (List.isPrefixOf_iff_prefix.1 (show (a ++ [47]).isPrefixOf b = true from e)).length_le
    simp at this
    omega
theorem above_off {a b : List UInt8} (h : (b.take a.length == a) = false) : Tf.above a b = false := by
  cases e : Tf.above a b with
  | false => rfl
  | true =>
    obtain ⟨t, rfl⟩ := List.isPrefixOf_iff_prefix.1 (show (a ++ [47]).isPrefixOf b = true from e)
    simp at h
theorem above_on {a b : List UInt8} (hl : a.length < b.length) (h : b.take a.length = a) : Tf.above a b = decide (b[a.length] = 47) := by
  obtain ⟨c, t, rfl⟩ : ∃ c t, b = a ++ c :: t := by
    refine ⟨b[a.length], b.drop (a.length + 1), ?_⟩
    conv => lhs; rw [← List.take_append_drop a.length b, h, List.drop_eq_getElem_cons hl]
  have e : (a ++ c :: t)[a.length] = c := by simp
  rw [e]
  rw [Bool.eq_iff_iff]
  show (a ++ [47]).isPrefixOf (a ++ c :: t) = true ↔ _
  rw [List.isPrefixOf_iff_prefix, List.prefix_append_right_inj, List.cons_prefix_cons]
  simp
  exact eq_comm
theorem byte_is (x : UInt8) (n : Nat) (hn : n < 256) : (((x.toNat : Nat) : Int) == (n : Int)) = decide (x = UInt8.ofNat n) := by
  rw [Bool.eq_iff_iff]
  simp only [beq_iff_eq, decide_eq_true_eq]
  constructor
  · intro h
    apply UInt8.toNat_inj.1
    simp
    omega
  · intro h
    subst h
    simp
    omega
set_option maxRecDepth 100000 in
theorem rabove_calls (a b : List UInt8) (ha : a.length ≤ 1000000) (hb : b.length ≤ 1000000) (w : World) :
    Calls Tryz.prog 80 #[.string (ba a), .string (ba b)] w fun e w' => e = .returned (.bool (Tf.above a b)) ∧ w' = w := by
  have za : (a.length : Int) ≤ 1000000 := by omega
  have zb : (b.length : Int) ≤ 1000000 := by omega
  have z0 : (0 : Int) ≤ (a.length : Int) := by omega
  rcases Nat.lt_or_ge a.length b.length with hl | hl
  · have zl : (a.length : Int) < (b.length : Int) := by omega
    have zl2 : (a.length : Int) ≤ (b.length : Int) := by omega
    have e1 : (ba b).extract 0 a.length = ba (b.take a.length) := by rw [ba_extract]; simp
    cases he : (b.take a.length == a) with
    | false =>
      rw [above_off he]
      go_enter Tryz.func80, Tryz.ntmps80
      go_wp2
      go_ret
      exact ⟨rfl, rfl⟩
    | true =>
      have he' : b.take a.length = a := by simpa using he
      rw [above_on hl he']
      go_enter Tryz.func80, Tryz.ntmps80
      go_wp2
      go_ret
      exact ⟨ret_bool (byte_is b[a.length] 47 (by omega)), rfl⟩
  · have zl : (b.length : Int) ≤ (a.length : Int) := by omega
    rw [above_short hl]
    go_enter Tryz.func80, Tryz.ntmps80
    go_wp2
    go_ret
    exact ⟨rfl, rfl⟩
end Go.Proofs.YtflbofdpfgkmcaaGreatDoor
namespace Go.Proofs.YtflbofdpfgkmcaaGreatDoor
open Go.RowKit Go.Shelf Go.Lib Go.Maps
open Tf (Fs)
structure RTreeAt (B : Nat) (w : World) (tb : Nat) (fs : Fs) (v : Value) : Prop where
  low : B ≤ tb
  cell : w.cell? ⟨tb, 0, none⟩ = some v
  free : w.frozen? ⟨tb, 0, none⟩ = false
  row : w.ownsRow B 51 2 v fs.length (entCells fs)
  apart : v.ownBlock ≠ some tb
  nil : fs = [] → v = .slice none 0 0
theorem RTreeAt.lt {B : Nat} {w : World} {tb : Nat} {fs : Fs} {v : Value} (h : RTreeAt B w tb fs v) : tb < w.heap.size := lt_of_cell h.cell
theorem RTreeAt.below {B : Nat} {w w' : World} {tb : Nat} {fs : Fs} {v : Value} (h : RTreeAt B w tb fs v) (hb : Below w.heap.size w w') : RTreeAt B w' tb fs v :=
  ⟨h.low, (hb.cell (p := ⟨tb, 0, none⟩) h.lt).trans h.cell, (hb.frozen (p := ⟨tb, 0, none⟩) h.lt).trans h.free, ownsRow_below h.row hb, h.apart, h.nil⟩
def FRow (w : World) (v : Value) (es : Fs) : Prop :=
  ∃ p cap, v = .slice p es.length cap ∧ es.length ≤ cap ∧ (es ≠ [] → ∃ g cur, p = some ⟨g, 0, none⟩ ∧ w.heap[g]? = some (.cells cur 51 (0, 0)) ∧ ∀ j (hj : j < es.length), cur[j * 2]? = some (.string (ba es[j].1)) ∧ cur[j * 2 + 1]? = some (.string (ba es[j].2)))
theorem FRow.of_owns {w : World} {base : Nat} {v : Value} {es : Fs} (h : w.ownsRow base 51 2 v es.length (entCells es)) : FRow w v es := by
  rcases h.2 with ⟨rfl, hn⟩ | ⟨g, cap, cur, rfl, _, hb, h1, _, _, h4⟩
  · obtain rfl : es = [] := by simpa using hn
    exact ⟨none, 0, rfl, Nat.le_refl _, fun h => absurd rfl h⟩
  · refine ⟨_, cap, rfl, h1, fun _ => ⟨g, cur, rfl, hb, fun j hj => ?_⟩⟩
    obtain ⟨h5, h6⟩ := entCells_at es j hj
    rw [← h4, List.getElem?_take, if_pos (by omega), Array.getElem?_toList] at h5 h6
    exact ⟨h5, h6⟩
set_option maxRecDepth 100000 in
set_option maxHeartbeats 4000000 in
theorem rFind_calls {B : Nat} {w : World} {tb : Nat} {fs : Fs} {v : Value} (h : RTreeAt B w tb fs v) (hn : fs.length ≤ 1000) (p : List UInt8) :
    Calls Tryz.prog 25 #[Ptr tb, .string (ba p)] w fun e w' => ((∃ k, ∃ hk : k < fs.length, e = .returned (.int .i64 k) ∧ fs[k].1 = p) ∨ (Tf.hasP fs p = false ∧ e = .returned (.int .i64 (-1)))) ∧ w' = w := by
  have hc := h.cell
  obtain ⟨pa, cap, rfl, hcap, hin⟩ := FRow.of_owns h.row
  have zn : (fs.length : Int) ≤ 1000 := by omega
  clear h
  go_enter Tryz.func25, Tryz.ntmps25
  go_wp2
  go_loopw [5] (fun i wr => ∃ k : Nat, k ≤ fs.length ∧ i = .int .i64 k ∧ (∀ j (hj : j < fs.length), j < k → fs[j].1 ≠ p) ∧ wr = w) (fun i _ => fs.length - (intOf i).toNat)
  case atStart => exact ⟨0, by omega, rfl, fun j _ h => absurd h (Nat.not_lt_zero _), rfl⟩
  case round =>
    obtain ⟨k, hk, rfl, hno, rfl⟩ := hrel
    by_cases hlt : k < fs.length
    · obtain ⟨g, cur, rfl, hg, hcur⟩ := hin (by intro e; rw [e] at hlt; simp at hlt)
      have h1 := cell_of_row hg (hcur k hlt).1
      have c1 : (k : Int) < (fs.length : Int) := by omega
      have c0 : (0 : Int) ≤ (k : Int) := by omega
      clear hin hcur hg
      obtain ⟨x, hx⟩ : ∃ x, fs[k].1 = x := ⟨_, rfl⟩
      rw [hx] at h1
      by_cases e : x = p
      · subst e
        go_wp2
        go_ret
        exact ⟨.inl ⟨k, hlt, rfl, hx⟩, rfl⟩
      · have e' : (x == p) = false := by simpa using e
        go_wp2
        go_roundw
        case rel => exact ⟨k + 1, by omega, by go_num, fun j hj hjk => by
          rcases Nat.lt_or_ge j k with h2 | h2
          · exact hno j hj h2
          · obtain rfl : j = k := by omega
            rw [hx]; exact e, by first | rfl | trivial⟩
        case measure => simp [intOf]; omega
    · have c1 : (fs.length : Int) ≤ (k : Int) := by omega
      clear hin
      go_wp2
      go_ret
      refine ⟨.inr ⟨?_, rfl⟩, rfl⟩
      unfold Tf.hasP
      rw [List.any_eq_false]
      intro f hf e
      obtain ⟨j, hj, rfl⟩ := List.mem_iff_getElem.1 hf
      exact hno j hj (by omega) (by simpa using e)
end Go.Proofs.YtflbofdpfgkmcaaGreatDoor
namespace Go.Proofs.YtflbofdpfgkmcaaGreatDoor
open Go.RowKit Go.Shelf Go.Lib Go.Maps
open Tf (Fs)
theorem isPath_hid (p : List UInt8) (hp : p.length ≤ 1000000) (x : Bool) (h : pathB p = x) (w : World) : Hid (Calls Tryz.prog 79 #[.string (ba p)] w fun e w' => e = .returned (.bool x) ∧ Below w.heap.size w w') := by
  have := IsPath_calls p hp w
  rw [← pathB_R, h] at this
  exact this
theorem rPut_name (w : World) (tb : Nat) (p b : List UInt8) (hp : p.length ≤ 1000000) (hn : pathB p = false) :
    Calls Tryz.prog 18 #[Ptr tb, .string (ba p), .string (ba b)] w fun e w' => e = .returned (.int .i64 4) ∧ Below w.heap.size w w' := by
  have HI := isPath_hid p hp false hn w
  clear hn
  go_enter Tryz.func18, Tryz.ntmps18
  go_wp2_with fail
  refine HI.out.mono ?_
  rintro e w1 ⟨rfl, g1⟩
  go_wp2
  go_ret
  exact ⟨rfl, g1⟩
theorem rPut_bound (w : World) (tb : Nat) (p b : List UInt8) (hp : p.length ≤ 1000000) (hn : pathB p = true) (hb : 2000 < b.length) :
    Calls Tryz.prog 18 #[Ptr tb, .string (ba p), .string (ba b)] w fun e w' => e = .returned (.int .i64 2) ∧ Below w.heap.size w w' := by
  have HI := isPath_hid p hp true hn w
  have z : (2000 : Int) < (b.length : Int) := by omega
  clear hn hb
  go_enter Tryz.func18, Tryz.ntmps18
  go_wp2_with fail
  refine HI.out.mono ?_
  rintro e w1 ⟨rfl, g1⟩
  go_wp2
  go_ret
  exact ⟨rfl, g1⟩
theorem first_clash : ∀ {fs : Fs} {p : List UInt8}, Tf.clash fs p = true → ∃ k, ∃ hk : k < fs.length, (Tf.above fs[k].1 p || Tf.above p fs[k].1) = true ∧ ∀ j (hj : j < fs.length), j < k → (Tf.above fs[j].1 p || Tf.above p fs[j].1) = false
  | f :: r, p, h => by
    cases hf : (Tf.above f.1 p || Tf.above p f.1) with
    | true => exact ⟨0, by simp, hf, fun j _ h => absurd h (Nat.not_lt_zero _)⟩
    | false =>
      have hr : Tf.clash r p = true := by
        unfold Tf.clash at h ⊢
        rw [List.any_cons, hf, Bool.false_or] at h
        exact h
      obtain ⟨k, hk, h1, h2⟩ := first_clash hr
      refine ⟨k + 1, by simpa using hk, h1, fun j hj hjk => ?_⟩
      cases j with
      | zero => exact hf
      | succ j => exact h2 j (by simpa using hj) (by omega)
set_option maxRecDepth 100000 in
set_option maxHeartbeats 4000000 in
theorem rPut_clash {B : Nat} {w : World} {tb : Nat} {fs : Fs} {v : Value} (h : RTreeAt B w tb fs v) (hlen : ∀ f ∈ fs, f.1.length ≤ 1000000) (hfew : fs.length ≤ 1000) (p b : List UInt8) (hp : p.length ≤ 1000000) (hn : pathB p = true) (hb : b.length ≤ 2000) (hc : Tf.clash fs p = true) :
    Calls Tryz.prog 18 #[Ptr tb, .string (ba p), .string (ba b)] w fun e w' => e = .returned (.int .i64 7) ∧ Below w.heap.size w w' := by
  have HI := isPath_hid p hp true hn w
  have HA : Hid (∀ (a c : List UInt8), a.length ≤ 1000000 → c.length ≤ 1000000 → ∀ W, Calls Tryz.prog 80 #[.string (ba a), .string (ba c)] W fun e w' => e = .returned (.bool (Tf.above a c)) ∧ w' = W) := fun a c ha hc W => rabove_calls a c ha hc W
  obtain ⟨k0, hk0, hcl, hno⟩ := first_clash hc
  have z : (b.length : Int) ≤ 2000 := by omega
  have zn : (fs.length : Int) ≤ 1000 := by omega
  clear hn hb hc
  go_enter Tryz.func18, Tryz.ntmps18
  go_wp2_with fail
  refine HI.out.mono ?_
  rintro e w1 ⟨rfl, g1⟩
  have h1 := h.below g1
  have hcell := h1.cell
  obtain ⟨pa, cap, rfl, hcap, hin⟩ := FRow.of_owns h1.row
  clear HI h h1
  go_wp2
  go_loopw [8] (fun i wr => ∃ k : Nat, k ≤ k0 ∧ i = .int .i64 k ∧ wr = w1) (fun i _ => k0 - (intOf i).toNat)
  case atStart => exact ⟨0, Nat.zero_le _, rfl, rfl⟩
  case round =>
    obtain ⟨k, hk, rfl, rfl⟩ := hrel
    have hlt : k < fs.length := by omega
    obtain ⟨g, cur, rfl, hg, hcur⟩ := hin (by intro e; rw [e] at hlt; simp at hlt)
    have hx := cell_of_row hg (hcur k hlt).1
    have hxl := hlen _ (List.getElem_mem hlt)
    have c1 : (k : Int) < (fs.length : Int) := by omega
    have c0 : (0 : Int) ≤ (k : Int) := by omega
    have A1 : Hid (∀ W, Calls Tryz.prog 80 #[.string (ba p), .string (ba fs[k].1)] W fun e w' => e = .returned (.bool (Tf.above p fs[k].1)) ∧ w' = W) := HA.out p _ hp hxl
    have A2 : Hid (∀ W, Calls Tryz.prog 80 #[.string (ba fs[k].1), .string (ba p)] W fun e w' => e = .returned (.bool (Tf.above fs[k].1 p)) ∧ w' = W) := HA.out _ p hxl hp
    have hor : (Tf.above fs[k].1 p || Tf.above p fs[k].1) = decide (k = k0) := by
      rcases Nat.lt_or_ge k k0 with h2 | h2
      · rw [hno k hlt h2]; simp; omega
      · obtain rfl : k = k0 := by omega
        rw [hcl]; simp
    clear hin hcur hg
    generalize fs[k].1 = x at *
    cases a1 : Tf.above p x with
    | true =>
      rw [a1] at A1 hor
      clear A2
      go_wp2_with fail
      refine (A1.out _).mono ?_
      rintro e w' ⟨rfl, rfl⟩
      go_wp2
      go_ret
      exact ⟨rfl, g1⟩
    | false =>
      rw [a1] at A1 hor
      cases a2 : Tf.above x p with
      | true =>
        rw [a2] at A2
        go_wp2_with fail
        refine (A1.out _).mono ?_
        rintro e w' ⟨rfl, rfl⟩
        go_wp2_with fail
        refine (A2.out _).mono ?_
        rintro e w' ⟨rfl, rfl⟩
        go_wp2
        go_ret
        exact ⟨rfl, g1⟩
      | false =>
        rw [a2] at A2 hor
        have hkk : k ≠ k0 := by intro e; subst e; simp at hor
        go_wp2_with fail
        refine (A1.out _).mono ?_
        rintro e w' ⟨rfl, rfl⟩
        go_wp2_with fail
        refine (A2.out _).mono ?_
        rintro e w' ⟨rfl, rfl⟩
        go_wp2
        go_roundw
        case rel => exact ⟨k + 1, by omega, by go_num, by first | rfl | trivial⟩
        case measure => simp [intOf]; omega
end Go.Proofs.YtflbofdpfgkmcaaGreatDoor
namespace Go.Proofs.YtflbofdpfgkmcaaGreatDoor
open Go.RowKit Go.Shelf Go.Lib Go.Maps
open Tf (Fs)
theorem ins_mid (x : List UInt8 × List UInt8) : ∀ (l1 l2 : Fs), (∀ f ∈ l1, bytesBefore f.1 x.1 = true) → (∀ f ∈ l2, bytesBefore x.1 f.1 = true) → Tf.ins x (l1 ++ l2) = l1 ++ x :: l2
  | [], [], _, _ => rfl
  | [], f :: r, _, h => by
    show Tf.ins x (f :: r) = _
    unfold Tf.ins
    rw [if_pos (h f (by simp))]
    rfl
  | f :: r, l2, h1, h2 => by
    show Tf.ins x (f :: (r ++ l2)) = _
    unfold Tf.ins
    have hb := h1 f (by simp)
    rw [if_neg (by
      intro e
      have := WideShapes.bytes_trans _ _ _ hb e
      rw [WideAt.bytes_irrefl] at this
      cases this), ins_mid x r l2 (fun g hg => h1 g (List.mem_cons_of_mem _ hg)) h2]
    rfl
theorem rises_ne {fs : Fs} (hr : Tf.Rises fs) {i j : Nat} (hi : i < fs.length) (hj : j < fs.length) (hij : i ≠ j) : fs[i].1 ≠ fs[j].1 := by
  intro e
  rcases Nat.lt_or_ge i j with h | h
  · have := List.pairwise_iff_getElem.1 hr i j hi hj h
    rw [e, WideAt.bytes_irrefl] at this
    cases this
  · have := List.pairwise_iff_getElem.1 hr j i hj hi (by omega)
    rw [e, WideAt.bytes_irrefl] at this
    cases this
theorem put_set {fs : Fs} (hr : Tf.Rises fs) {k : Nat} (hk : k < fs.length) (b : List UInt8) : Tf.put fs fs[k].1 b = fs.set k (fs[k].1, b) := by
  have hd : Tf.del fs fs[k].1 = fs.take k ++ fs.drop (k + 1) := by
    have e : fs = fs.take k ++ fs[k] :: fs.drop (k + 1) := by rw [List.getElem_cons_drop, List.take_append_drop]
    unfold Tf.del
    conv => lhs; arg 2; rw [e]
    rw [List.filter_append, List.filter_cons_of_neg (by simp)]
    congr 1
    · rw [List.filter_eq_self]
      intro f hf
      obtain ⟨j, hj, rfl⟩ := List.mem_iff_getElem.1 hf
      rw [List.length_take] at hj
      rw [List.getElem_take]
      simpa using rises_ne hr (by omega) hk (by omega)
    · rw [List.filter_eq_self]
      intro f hf
      obtain ⟨j, hj, rfl⟩ := List.mem_iff_getElem.1 hf
      rw [List.length_drop] at hj
      rw [List.getElem_drop]
      simpa using rises_ne hr (by omega) hk (by omega)
  unfold Tf.put
  rw [hd, ins_mid (fs[k].1, b) (fs.take k) (fs.drop (k + 1)) (fun f hf => hr.before_at hk f hf) (fun f hf => ?_), List.set_eq_take_append_cons_drop, if_pos hk]
  obtain ⟨j, hj, rfl⟩ := List.mem_iff_getElem.1 hf
  rw [List.length_drop] at hj
  rw [List.getElem_drop]
  exact List.pairwise_iff_getElem.1 hr k (k + 1 + j) hk (by omega) (by omega)
theorem put_new {fs : Fs} (hr : Tf.Rises fs) {p b : List UInt8} (ht : Tf.hasP fs p = false) {k : Nat} (hk : k ≤ fs.length) (hb : ∀ j (hj : j < fs.length), j < k → bytesBefore fs[j].1 p = true) (ha : ∀ (hj : k < fs.length), bytesBefore fs[k].1 p = false) :
    Tf.put fs p b = fs.take k ++ (p, b) :: fs.drop k := by
  unfold Tf.put
  rw [Tf.del_none ht]
  conv => lhs; arg 2; rw [← List.take_append_drop k fs]
  refine ins_mid _ _ _ (fun f hf => ?_) (fun f hf => ?_)
  · obtain ⟨j, hj, rfl⟩ := List.mem_iff_getElem.1 hf
    rw [List.length_take] at hj
    rw [List.getElem_take]
    exact hb j (by omega) (by omega)
  · obtain ⟨j, hj, rfl⟩ := List.mem_iff_getElem.1 hf
    rw [List.length_drop] at hj
    rw [List.getElem_drop]
    have hkl : k < fs.length := by omega
    have h1 : bytesBefore p fs[k].1 = true := by
      rcases WideAt.bytes_total fs[k].1 p (fun e => by
        have := List.any_eq_false.1 ht _ (List.getElem_mem hkl)
        simp [e] at this) with h | h
      · rw [ha hkl] at h; cases h
      · exact h
    cases j with
    | zero => simpa using h1
    | succ j => exact WideShapes.bytes_trans _ _ _ h1 (List.pairwise_iff_getElem.1 hr k (k + (j + 1)) hkl (by omega) (by omega))
theorem entCells_set : ∀ (fs : Fs) (k : Nat) (x : List UInt8 × List UInt8), k < fs.length → ((entCells fs).set (k * 2) (.string (ba x.1))).set (k * 2 + 1) (.string (ba x.2)) = entCells (fs.set k x)
  | f :: r, 0, x, _ => by simp [entCells]
  | f :: r, k + 1, x, h => by
    have ih := entCells_set r k x (by simpa using h)
    have e1 : entCells (f :: r) = .string (ba f.1) :: .string (ba f.2) :: entCells r := by simp [entCells]
    have e2 : entCells (f :: r.set k x) = .string (ba f.1) :: .string (ba f.2) :: entCells (r.set k x) := by simp [entCells]
    rw [List.set_cons_succ, e1, e2, ← ih, show (k + 1) * 2 = k * 2 + 1 + 1 by omega]
    rfl
set_option maxRecDepth 100000 in
set_option maxHeartbeats 4000000 in
theorem rPut_full {B : Nat} {w : World} {tb : Nat} {fs : Fs} {v : Value} (h : RTreeAt B w tb fs v) (hlen : ∀ f ∈ fs, f.1.length ≤ 1000000) (hfew : fs.length ≤ 1000) (p b : List UInt8) (hp : p.length ≤ 1000000) (hn : pathB p = true) (hb : b.length ≤ 2000) (hc : Tf.clash fs p = false) (ht : Tf.hasP fs p = false) (h60 : 60 ≤ fs.length) :
    Calls Tryz.prog 18 #[Ptr tb, .string (ba p), .string (ba b)] w fun e w' => e = .returned (.int .i64 8) ∧ Below w.heap.size w w' := by
  have HI := isPath_hid p hp true hn w
  have HA : Hid (∀ (a c : List UInt8), a.length ≤ 1000000 → c.length ≤ 1000000 → ∀ W, Calls Tryz.prog 80 #[.string (ba a), .string (ba c)] W fun e w' => e = .returned (.bool (Tf.above a c)) ∧ w' = W) := fun a c ha hc W => rabove_calls a c ha hc W
  have hno : ∀ j (hj : j < fs.length), Tf.above fs[j].1 p = false ∧ Tf.above p fs[j].1 = false := fun j hj => by
    have := List.any_eq_false.1 (show (fs.any fun f => Tf.above f.1 p || Tf.above p f.1) = false from hc) _ (List.getElem_mem hj)
    simpa using this
  have z : (b.length : Int) ≤ 2000 := by omega
  have zn : (fs.length : Int) ≤ 1000 := by omega
  clear hn hb hc
  go_enter Tryz.func18, Tryz.ntmps18
  go_wp2_with fail
  refine HI.out.mono ?_
  rintro e w1 ⟨rfl, g1⟩
  have h1 := h.below g1
  have HF := rFind_calls h1 hfew p
  have hcell := h1.cell
  have hrow := FRow.of_owns h1.row
  obtain ⟨pa, cap, rfl, hcap, hin⟩ := hrow
  clear HI
  go_wp2
  go_loopw [8] (fun i wr => ∃ k : Nat, k ≤ fs.length ∧ i = .int .i64 k ∧ wr = w1) (fun i _ => fs.length - (intOf i).toNat)
  case atStart => exact ⟨0, Nat.zero_le _, rfl, rfl⟩
  case round =>
    obtain ⟨k, hk, rfl, rfl⟩ := hrel
    by_cases hlt : k < fs.length
    · obtain ⟨g, cur, rfl, hg, hcur⟩ := hin (by intro e; rw [e] at hlt; simp at hlt)
      have hx := cell_of_row hg (hcur k hlt).1
      have hxl := hlen _ (List.getElem_mem hlt)
      have c1 : (k : Int) < (fs.length : Int) := by omega
      have c0 : (0 : Int) ≤ (k : Int) := by omega
      have A1 : Hid (∀ W, Calls Tryz.prog 80 #[.string (ba p), .string (ba fs[k].1)] W fun e w' => e = .returned (.bool false) ∧ w' = W) := fun W => by
        have := HA.out p _ hp hxl W
        rw [(hno k hlt).2] at this
        exact this
      have A2 : Hid (∀ W, Calls Tryz.prog 80 #[.string (ba fs[k].1), .string (ba p)] W fun e w' => e = .returned (.bool false) ∧ w' = W) := fun W => by
        have := HA.out _ p hxl hp W
        rw [(hno k hlt).1] at this
        exact this
      clear hin hcur hg HF h1
      generalize fs[k].1 = x at *
      go_wp2_with fail
      refine (A1.out _).mono ?_
      rintro e w' ⟨rfl, rfl⟩
      go_wp2_with fail
      refine (A2.out _).mono ?_
      rintro e w' ⟨rfl, rfl⟩
      go_wp2
      go_roundw
      case rel => exact ⟨k + 1, by omega, by go_num, by first | rfl | trivial⟩
      case measure => simp [intOf]; omega
    · have c1 : (fs.length : Int) ≤ (k : Int) := by omega
      clear HA hno
      go_wp2_with fail
      refine HF.mono ?_
      rintro e w2 ⟨hr, rfl⟩
      have z60 : (60 : Int) ≤ (fs.length : Int) := by omega
      rcases hr with ⟨k', hk', _, hp'⟩ | ⟨_, rfl⟩
      · exfalso
        have : Tf.hasP fs p = true := List.any_eq_true.2 ⟨fs[k'], List.getElem_mem hk', by simp [hp']⟩
        rw [this] at ht
        cases ht
      · clear hin
        go_wp2
        go_ret
        exact ⟨rfl, g1⟩
end Go.Proofs.YtflbofdpfgkmcaaGreatDoor
