/- The document's answer's above, Byte, below, Decimal: the walks. -/
import Derived.Test.YtigcogfjclohjaaGreatDoorM3
import Derived.Test.YtigcogfjclohjaaGreatDoorRDecimal
namespace Go.Proofs.YtigcogfjclohjaaGreatDoor
open Go.RowKit Go.Shelf Go.Lib Go.Maps
open Tf (Fs)

theorem above_short {a b : List UInt8} (h : b.length ≤ a.length) : Tf.above a b = false := by
  cases e : Tf.above a b with
  | false => rfl
  | true =>
    have := (List.isPrefixOf_iff_prefix.1 (show (a ++ [47]).isPrefixOf b = true from e)).length_le
    simp at this
    omega

theorem above_off {a b : List UInt8} (h : (b.take a.length == a) = false) : Tf.above a b = false := by
  cases e : Tf.above a b with
  | false => rfl
  | true =>
    obtain ⟨t, rfl⟩ := List.isPrefixOf_iff_prefix.1 (show (a ++ [47]).isPrefixOf b = true from e)
    simp at h

theorem above_on {a b : List UInt8} (hl : a.length < b.length) (h : b.take a.length = a) : Tf.above a b = decide (b[a.length] = 47) := by
  obtain ⟨c, t, rfl⟩ : ∃ c t, b = a ++ c :: t := by
    refine ⟨b[a.length], b.drop (a.length + 1), ?_⟩
    conv => lhs; rw [← List.take_append_drop a.length b, h, List.drop_eq_getElem_cons hl]
  have e : (a ++ c :: t)[a.length] = c := by simp
  rw [e]
  rw [Bool.eq_iff_iff]
  show (a ++ [47]).isPrefixOf (a ++ c :: t) = true ↔ _
  rw [List.isPrefixOf_iff_prefix, List.prefix_append_right_inj, List.cons_prefix_cons]
  simp
  exact eq_comm

theorem byte_is (x : UInt8) (n : Nat) (hn : n < 256) : (((x.toNat : Nat) : Int) == (n : Int)) = decide (x = UInt8.ofNat n) := by
  rw [Bool.eq_iff_iff]
  simp only [beq_iff_eq, decide_eq_true_eq]
  constructor
  · intro h
    apply UInt8.toNat_inj.1
    simp
    omega
  · intro h
    subst h
    simp
    omega

set_option maxRecDepth 100000 in
theorem rabove_calls (a b : List UInt8) (ha : a.length ≤ 1000000) (hb : b.length ≤ 1000000) (w : World) :
    Calls Tryz.prog 49 #[.string (ba a), .string (ba b)] w fun e w' => e = .returned (.bool (Tf.above a b)) ∧ w' = w := by
  have za : (a.length : Int) ≤ 1000000 := by omega
  have zb : (b.length : Int) ≤ 1000000 := by omega
  have z0 : (0 : Int) ≤ (a.length : Int) := by omega
  rcases Nat.lt_or_ge a.length b.length with hl | hl
  · have zl : (a.length : Int) < (b.length : Int) := by omega
    have zl2 : (a.length : Int) ≤ (b.length : Int) := by omega
    have e1 : (ba b).extract 0 a.length = ba (b.take a.length) := by rw [ba_extract]; simp
    cases he : (b.take a.length == a) with
    | false =>
      rw [above_off he]
      go_enter Tryz.func49, Tryz.ntmps49
      go_wp2
      go_ret
      exact ⟨rfl, rfl⟩
    | true =>
      have he' : b.take a.length = a := by simpa using he
      rw [above_on hl he']
      go_enter Tryz.func49, Tryz.ntmps49
      go_wp2
      go_ret
      exact ⟨ret_bool (byte_is b[a.length] 47 (by omega)), rfl⟩
  · have zl : (b.length : Int) ≤ (a.length : Int) := by omega
    rw [above_short hl]
    go_enter Tryz.func49, Tryz.ntmps49
    go_wp2
    go_ret
    exact ⟨rfl, rfl⟩

end Go.Proofs.YtigcogfjclohjaaGreatDoor
/- The document's answer's tree in memory; its Find: the walk. -/
namespace Go.Proofs.YtigcogfjclohjaaGreatDoor
open Go.RowKit Go.Shelf Go.Lib Go.Maps
open Tf (Fs)

/-- A tree of the document's answer: its block, and its files' row, lie from B on. -/
structure RTreeAt (B : Nat) (w : World) (tb : Nat) (fs : Fs) (v : Value) : Prop where
  low : B ≤ tb
  cell : w.cell? ⟨tb, 0, none⟩ = some v
  free : w.frozen? ⟨tb, 0, none⟩ = false
  row : w.ownsRow B 54 2 v fs.length (entCells fs)
  apart : v.ownBlock ≠ some tb
  nil : fs = [] → v = .slice none 0 0

theorem RTreeAt.lt {B : Nat} {w : World} {tb : Nat} {fs : Fs} {v : Value} (h : RTreeAt B w tb fs v) : tb < w.heap.size := lt_of_cell h.cell

theorem RTreeAt.below {B : Nat} {w w' : World} {tb : Nat} {fs : Fs} {v : Value} (h : RTreeAt B w tb fs v) (hb : Below w.heap.size w w') : RTreeAt B w' tb fs v :=
  ⟨h.low, (hb.cell (p := ⟨tb, 0, none⟩) h.lt).trans h.cell, (hb.frozen (p := ⟨tb, 0, none⟩) h.lt).trans h.free, ownsRow_below h.row hb, h.apart, h.nil⟩

/-- A slice of files in memory. -/
def FRow (w : World) (v : Value) (es : Fs) : Prop :=
  ∃ p cap, v = .slice p es.length cap ∧ es.length ≤ cap ∧ (es ≠ [] → ∃ g cur, p = some ⟨g, 0, none⟩ ∧ w.heap[g]? = some (.cells cur 54 (0, 0)) ∧ ∀ j (hj : j < es.length), cur[j * 2]? = some (.string (ba es[j].1)) ∧ cur[j * 2 + 1]? = some (.string (ba es[j].2)))

theorem FRow.of_owns {w : World} {base : Nat} {v : Value} {es : Fs} (h : w.ownsRow base 54 2 v es.length (entCells es)) : FRow w v es := by
  rcases h.2 with ⟨rfl, hn⟩ | ⟨g, cap, cur, rfl, _, hb, h1, _, _, h4⟩
  · obtain rfl : es = [] := by simpa using hn
    exact ⟨none, 0, rfl, Nat.le_refl _, fun h => absurd rfl h⟩
  · refine ⟨_, cap, rfl, h1, fun _ => ⟨g, cur, rfl, hb, fun j hj => ?_⟩⟩
    obtain ⟨h5, h6⟩ := entCells_at es j hj
    rw [← h4, List.getElem?_take, if_pos (by omega), Array.getElem?_toList] at h5 h6
    exact ⟨h5, h6⟩

set_option maxRecDepth 100000 in
set_option maxHeartbeats 4000000 in
theorem rFind_calls {B : Nat} {w : World} {tb : Nat} {fs : Fs} {v : Value} (h : RTreeAt B w tb fs v) (hn : fs.length ≤ 1000) (p : List UInt8) :
    Calls Tryz.prog 25 #[Ptr tb, .string (ba p)] w fun e w' => ((∃ k, ∃ hk : k < fs.length, e = .returned (.int .i64 k) ∧ fs[k].1 = p) ∨ (Tf.hasP fs p = false ∧ e = .returned (.int .i64 (-1)))) ∧ w' = w := by
  have hc := h.cell
  obtain ⟨pa, cap, rfl, hcap, hin⟩ := FRow.of_owns h.row
  have zn : (fs.length : Int) ≤ 1000 := by omega
  clear h
  go_enter Tryz.func25, Tryz.ntmps25
  go_wp2
  go_loopw [5] (fun i wr => ∃ k : Nat, k ≤ fs.length ∧ i = .int .i64 k ∧ (∀ j (hj : j < fs.length), j < k → fs[j].1 ≠ p) ∧ wr = w) (fun i _ => fs.length - (intOf i).toNat)
  case atStart => exact ⟨0, by omega, rfl, fun j _ h => absurd h (Nat.not_lt_zero _), rfl⟩
  case round =>
    obtain ⟨k, hk, rfl, hno, rfl⟩ := hrel
    by_cases hlt : k < fs.length
    · obtain ⟨g, cur, rfl, hg, hcur⟩ := hin (by intro e; rw [e] at hlt; simp at hlt)
      have h1 := cell_of_row hg (hcur k hlt).1
      have c1 : (k : Int) < (fs.length : Int) := by omega
      have c0 : (0 : Int) ≤ (k : Int) := by omega
      clear hin hcur hg
      obtain ⟨x, hx⟩ : ∃ x, fs[k].1 = x := ⟨_, rfl⟩
      rw [hx] at h1
      by_cases e : x = p
      · subst e
        go_wp2
        go_ret
        exact ⟨.inl ⟨k, hlt, rfl, hx⟩, rfl⟩
      · have e' : (x == p) = false := by simpa using e
        go_wp2
        go_roundw
        case rel => exact ⟨k + 1, by omega, by go_num, fun j hj hjk => by
          rcases Nat.lt_or_ge j k with h2 | h2
          · exact hno j hj h2
          · obtain rfl : j = k := by omega
            rw [hx]; exact e, by first | rfl | trivial⟩
        case measure => simp [intOf]; omega
    · have c1 : (fs.length : Int) ≤ (k : Int) := by omega
      clear hin
      go_wp2
      go_ret
      refine ⟨.inr ⟨?_, rfl⟩, rfl⟩
      unfold Tf.hasP
      rw [List.any_eq_false]
      intro f hf e
      obtain ⟨j, hj, rfl⟩ := List.mem_iff_getElem.1 hf
      exact hno j hj (by omega) (by simpa using e)
end Go.Proofs.YtigcogfjclohjaaGreatDoor
