/- The document's answer's above, Byte, below, Decimal: the walks. -/
import Derived.Test.YtpkkhabiheobnaaGreatDoorM3
namespace Go.Proofs.YtpkkhabiheobnaaGreatDoor
open Go.RowKit Go.Shelf Go.Lib Go.Maps
open Tf (Fs)

theorem above_short {a b : List UInt8} (h : b.length ≤ a.length) : Tf.above a b = false := by
  cases e : Tf.above a b with
  | false => rfl
  | true =>
    have := (List.isPrefixOf_iff_prefix.1 (show (a ++ [47]).isPrefixOf b = true from e)).length_le
    simp at this
    omega

theorem above_off {a b : List UInt8} (h : (b.take a.length == a) = false) : Tf.above a b = false := by
  cases e : Tf.above a b with
  | false => rfl
  | true =>
    obtain ⟨t, rfl⟩ := List.isPrefixOf_iff_prefix.1 (show (a ++ [47]).isPrefixOf b = true from e)
    simp at h

theorem above_on {a b : List UInt8} (hl : a.length < b.length) (h : b.take a.length = a) : Tf.above a b = decide (b[a.length] = 47) := by
  obtain ⟨c, t, rfl⟩ : ∃ c t, b = a ++ c :: t := by
    refine ⟨b[a.length], b.drop (a.length + 1), ?_⟩
    conv => lhs; rw [← List.take_append_drop a.length b, h, List.drop_eq_getElem_cons hl]
  have e : (a ++ c :: t)[a.length] = c := by simp
  rw [e]
  rw [Bool.eq_iff_iff]
  show (a ++ [47]).isPrefixOf (a ++ c :: t) = true ↔ _
  rw [List.isPrefixOf_iff_prefix, List.prefix_append_right_inj, List.cons_prefix_cons]
  simp
  exact eq_comm

theorem byte_is (x : UInt8) (n : Nat) (hn : n < 256) : (((x.toNat : Nat) : Int) == (n : Int)) = decide (x = UInt8.ofNat n) := by
  rw [Bool.eq_iff_iff]
  simp only [beq_iff_eq, decide_eq_true_eq]
  constructor
  · intro h
    apply UInt8.toNat_inj.1
    simp
    omega
  · intro h
    subst h
    simp
    omega

set_option maxRecDepth 100000 in
theorem rabove_calls (a b : List UInt8) (ha : a.length ≤ 1000000) (hb : b.length ≤ 1000000) (w : World) :
    Calls Tryz.prog 37 #[.string (ba a), .string (ba b)] w fun e w' => e = .returned (.bool (Tf.above a b)) ∧ w' = w := by
  have za : (a.length : Int) ≤ 1000000 := by omega
  have zb : (b.length : Int) ≤ 1000000 := by omega
  have z0 : (0 : Int) ≤ (a.length : Int) := by omega
  rcases Nat.lt_or_ge a.length b.length with hl | hl
  · have zl : (a.length : Int) < (b.length : Int) := by omega
    have zl2 : (a.length : Int) ≤ (b.length : Int) := by omega
    have e1 : (ba b).extract 0 a.length = ba (b.take a.length) := by rw [ba_extract]; simp
    cases he : (b.take a.length == a) with
    | false =>
      rw [above_off he]
      go_enter Tryz.func37, Tryz.ntmps37
      go_wp2
      go_ret
      exact ⟨rfl, rfl⟩
    | true =>
      have he' : b.take a.length = a := by simpa using he
      rw [above_on hl he']
      go_enter Tryz.func37, Tryz.ntmps37
      go_wp2
      go_ret
      exact ⟨ret_bool (byte_is b[a.length] 47 (by omega)), rfl⟩
  · have zl : (b.length : Int) ≤ (a.length : Int) := by omega
    rw [above_short hl]
    go_enter Tryz.func37, Tryz.ntmps37
    go_wp2
    go_ret
    exact ⟨rfl, rfl⟩

set_option maxRecDepth 100000 in
theorem Byte_calls (n : Nat) (hn : n < 256) (w : World) : Calls Tryz.prog 70 #[.int .i64 n] w fun e w' => e = .returned (.string (ba [UInt8.ofNat n])) ∧ Below w.heap.size w w' := by
  have z0 : (0 : Int) ≤ (n : Int) := by omega
  have z1 : (n : Int) < 256 := by omega
  have hk := (MapKept.heap_alloc w (.cells #[.int .u8 (n : Int)] 5)).1
  have hcv : (convert 67 9 (.slice (some ⟨w.heap.size, 0, none⟩) 1 1)).run Tryz.prog (w.alloc (.cells #[.int .u8 (n : Int)] 5)) = .ok (.string (ba [UInt8.ofNat n])) (w.alloc (.cells #[.int .u8 (n : Int)] 5)) := run_convert_bytes_back (P := Tryz.prog) (w.alloc (.cells #[.int .u8 (n : Int)] 5)) 67 9 5 ⟨w.heap.size, 0, none⟩ 1 [UInt8.ofNat n] Tryz.underlying67 Tryz.underlying5 Tryz.underlying9
    (fun j hj => by
      match j, hj with
      | 0, _ =>
        have e : ((UInt8.ofNat n).toNat : Int) = (n : Int) := by simp; omega
        show _ = some (Value.int .u8 ((UInt8.ofNat n).toNat : Int))
        rw [e]
        exact cell_of_row hk rfl)
  go_enter Tryz.func70, Tryz.ntmps70
  go_wp2
  go_ret
  exact ⟨rfl, (Below.refl _ w).alloc (Nat.le_refl _) _⟩

theorem add48 (n : Nat) : 48 + UInt8.ofNat n = UInt8.ofNat (48 + n) := (UInt8.ofNat_add 48 n).symm

theorem digits_len' (n : Nat) (h : n ≤ 1000000) : (Lib.decDigits n).length ≤ 21 := by
  have := Lib.itoa_length_le (n : Int) (by omega) (by omega)
  rwa [Lib.itoa_nonneg] at this

set_option maxRecDepth 100000 in
set_option maxHeartbeats 2000000 in
theorem rbelow_calls : ∀ (n : Nat), n ≤ 1000000 → ∀ (w : World), Calls Tryz.prog 47 #[.int .i64 (-(n : Int))] w fun e w' => e = .returned (.string (ba (Lib.decDigits n))) ∧ Below w.heap.size w w' := by
  intro n
  induction n using Nat.strongRecOn with
  | _ n ih =>
    intro hn w
    rw [Lib.decDigits]
    by_cases h : n < 10
    · rw [dif_pos h]
      have HB : Hid (∀ W, Calls Tryz.prog 70 #[.int .i64 (48 + (n : Int))] W fun e w' => e = .returned (.string (ba [UInt8.ofNat (48 + n)])) ∧ Below W.heap.size W w') := fun W => by
        have := Byte_calls (48 + n) (by omega) W
        rwa [show ((48 + n : Nat) : Int) = 48 + (n : Int) by omega] at this
      have z1 : (-10 : Int) < -(n : Int) := by omega
      have z2 : (0 : Int) ≤ (n : Int) := by omega
      have z3 : (n : Int) < 10 := by omega
      clear ih
      go_enter Tryz.func47, Tryz.ntmps47
      go_wp2_with fail
      refine (HB.out _).mono ?_
      rintro e w1 ⟨rfl, g1⟩
      go_wp2
      go_ret
      exact ⟨congrArg (fun x => Ending.returned (.string (ba x))) (show [48 + UInt8.ofNat n] = [UInt8.ofNat (48 + n)] by rw [add48]), g1⟩
    · rw [dif_neg h]
      have HR : Hid (∀ W, Calls Tryz.prog 47 #[.int .i64 (-((n / 10 : Nat) : Int))] W fun e w' => e = .returned (.string (ba (Lib.decDigits (n / 10)))) ∧ Below W.heap.size W w') := fun W => ih (n / 10) (by omega) (by omega) W
      have HB : Hid (∀ W, Calls Tryz.prog 70 #[.int .i64 (48 + ((n % 10 : Nat) : Int))] W fun e w' => e = .returned (.string (ba [UInt8.ofNat (48 + n % 10)])) ∧ Below W.heap.size W w') := fun W => by
        have := Byte_calls (48 + n % 10) (by omega) W
        rwa [show ((48 + n % 10 : Nat) : Int) = 48 + ((n % 10 : Nat) : Int) by omega] at this
      have z1 : ¬ (-10 : Int) < -(n : Int) := by omega
      have z1' : -(n : Int) ≤ -10 := by omega
      have z2 : (0 : Int) ≤ (n : Int) := by omega
      have z3 : (n : Int) ≤ 1000000 := by omega
      have q1 : (-(n : Int)).tdiv 10 = -((n / 10 : Nat) : Int) := by rw [Int.neg_tdiv]; rfl
      have q2 : (-(n : Int)).tmod 10 = -((n % 10 : Nat) : Int) := by rw [Int.neg_tmod]; rfl
      have q3 : ((n / 10 : Nat) : Int) ≤ 100000 := by omega
      have q4 : (0 : Int) ≤ ((n / 10 : Nat) : Int) := by omega
      have q5 : ((n % 10 : Nat) : Int) < 10 := by omega
      have q6 : (0 : Int) ≤ ((n % 10 : Nat) : Int) := by omega
      have hlen := digits_len' (n / 10) (by omega)
      clear ih
      go_enter Tryz.func47, Tryz.ntmps47
      go_wp2_with fail
      refine (HR.out _).mono ?_
      rintro e w1 ⟨rfl, g1⟩
      go_wp2_with fail
      refine (HB.out _).mono ?_
      rintro e w2 ⟨rfl, g2⟩
      go_wp2
      go_ret
      exact ⟨congrArg (fun x => Ending.returned (.string (ba x))) (show Lib.decDigits (n / 10) ++ [48 + UInt8.ofNat (n % 10)] = Lib.decDigits (n / 10) ++ [UInt8.ofNat (48 + n % 10)] by rw [add48]), g1.trans (g2.mono g1.size)⟩

theorem Decimal_calls (n : Nat) (hn : n ≤ 1000000) (w : World) : Calls Tryz.prog 31 #[.int .i64 (n : Int)] w fun e w' => e = .returned (.string (ba (Lib.decDigits n))) ∧ Below w.heap.size w w' := by
  have HB : Hid (∀ W, Calls Tryz.prog 47 #[.int .i64 (-(n : Int))] W fun e w' => e = .returned (.string (ba (Lib.decDigits n))) ∧ Below W.heap.size W w') := fun W => rbelow_calls n hn W
  have z1 : ¬ (n : Int) < 0 := by omega
  have z2 : (0 : Int) ≤ (n : Int) := by omega
  have z3 : (n : Int) ≤ 1000000 := by omega
  go_enter Tryz.func31, Tryz.ntmps31
  go_wp2_with fail
  refine (HB.out _).mono ?_
  rintro e w1 ⟨rfl, g1⟩
  go_wp2
  go_ret
  exact ⟨rfl, g1⟩
end Go.Proofs.YtpkkhabiheobnaaGreatDoor
/- The document's answer's tree in memory; its Find: the walk. -/
namespace Go.Proofs.YtpkkhabiheobnaaGreatDoor
open Go.RowKit Go.Shelf Go.Lib Go.Maps
open Tf (Fs)

/-- A tree of the document's answer: its block, and its files' row, lie from B on. -/
structure RTreeAt (B : Nat) (w : World) (tb : Nat) (fs : Fs) (v : Value) : Prop where
  low : B ≤ tb
  cell : w.cell? ⟨tb, 0, none⟩ = some v
  free : w.frozen? ⟨tb, 0, none⟩ = false
  row : w.ownsRow B 54 2 v fs.length (entCells fs)
  apart : v.ownBlock ≠ some tb
  nil : fs = [] → v = .slice none 0 0

theorem RTreeAt.lt {B : Nat} {w : World} {tb : Nat} {fs : Fs} {v : Value} (h : RTreeAt B w tb fs v) : tb < w.heap.size := lt_of_cell h.cell

theorem RTreeAt.below {B : Nat} {w w' : World} {tb : Nat} {fs : Fs} {v : Value} (h : RTreeAt B w tb fs v) (hb : Below w.heap.size w w') : RTreeAt B w' tb fs v :=
  ⟨h.low, (hb.cell (p := ⟨tb, 0, none⟩) h.lt).trans h.cell, (hb.frozen (p := ⟨tb, 0, none⟩) h.lt).trans h.free, ownsRow_below h.row hb, h.apart, h.nil⟩

/-- A slice of files in memory. -/
def FRow (w : World) (v : Value) (es : Fs) : Prop :=
  ∃ p cap, v = .slice p es.length cap ∧ es.length ≤ cap ∧ (es ≠ [] → ∃ g cur, p = some ⟨g, 0, none⟩ ∧ w.heap[g]? = some (.cells cur 54 (0, 0)) ∧ ∀ j (hj : j < es.length), cur[j * 2]? = some (.string (ba es[j].1)) ∧ cur[j * 2 + 1]? = some (.string (ba es[j].2)))

theorem FRow.of_owns {w : World} {base : Nat} {v : Value} {es : Fs} (h : w.ownsRow base 54 2 v es.length (entCells es)) : FRow w v es := by
  rcases h.2 with ⟨rfl, hn⟩ | ⟨g, cap, cur, rfl, _, hb, h1, _, _, h4⟩
  · obtain rfl : es = [] := by simpa using hn
    exact ⟨none, 0, rfl, Nat.le_refl _, fun h => absurd rfl h⟩
  · refine ⟨_, cap, rfl, h1, fun _ => ⟨g, cur, rfl, hb, fun j hj => ?_⟩⟩
    obtain ⟨h5, h6⟩ := entCells_at es j hj
    rw [← h4, List.getElem?_take, if_pos (by omega), Array.getElem?_toList] at h5 h6
    exact ⟨h5, h6⟩

set_option maxRecDepth 100000 in
set_option maxHeartbeats 4000000 in
theorem rFind_calls {B : Nat} {w : World} {tb : Nat} {fs : Fs} {v : Value} (h : RTreeAt B w tb fs v) (hn : fs.length ≤ 1000) (p : List UInt8) :
    Calls Tryz.prog 22 #[Ptr tb, .string (ba p)] w fun e w' => ((∃ k, ∃ hk : k < fs.length, e = .returned (.int .i64 k) ∧ fs[k].1 = p) ∨ (Tf.hasP fs p = false ∧ e = .returned (.int .i64 (-1)))) ∧ w' = w := by
  have hc := h.cell
  obtain ⟨pa, cap, rfl, hcap, hin⟩ := FRow.of_owns h.row
  have zn : (fs.length : Int) ≤ 1000 := by omega
  clear h
  go_enter Tryz.func22, Tryz.ntmps22
  go_wp2
  go_loopw [5] (fun i wr => ∃ k : Nat, k ≤ fs.length ∧ i = .int .i64 k ∧ (∀ j (hj : j < fs.length), j < k → fs[j].1 ≠ p) ∧ wr = w) (fun i _ => fs.length - (intOf i).toNat)
  case atStart => exact ⟨0, by omega, rfl, fun j _ h => absurd h (Nat.not_lt_zero _), rfl⟩
  case round =>
    obtain ⟨k, hk, rfl, hno, rfl⟩ := hrel
    by_cases hlt : k < fs.length
    · obtain ⟨g, cur, rfl, hg, hcur⟩ := hin (by intro e; rw [e] at hlt; simp at hlt)
      have h1 := cell_of_row hg (hcur k hlt).1
      have c1 : (k : Int) < (fs.length : Int) := by omega
      have c0 : (0 : Int) ≤ (k : Int) := by omega
      clear hin hcur hg
      obtain ⟨x, hx⟩ : ∃ x, fs[k].1 = x := ⟨_, rfl⟩
      rw [hx] at h1
      by_cases e : x = p
      · subst e
        go_wp2
        go_ret
        exact ⟨.inl ⟨k, hlt, rfl, hx⟩, rfl⟩
      · have e' : (x == p) = false := by simpa using e
        go_wp2
        go_roundw
        case rel => exact ⟨k + 1, by omega, by go_num, fun j hj hjk => by
          rcases Nat.lt_or_ge j k with h2 | h2
          · exact hno j hj h2
          · obtain rfl : j = k := by omega
            rw [hx]; exact e, by first | rfl | trivial⟩
        case measure => simp [intOf]; omega
    · have c1 : (fs.length : Int) ≤ (k : Int) := by omega
      clear hin
      go_wp2
      go_ret
      refine ⟨.inr ⟨?_, rfl⟩, rfl⟩
      unfold Tf.hasP
      rw [List.any_eq_false]
      intro f hf e
      obtain ⟨j, hj, rfl⟩ := List.mem_iff_getElem.1 hf
      exact hno j hj (by omega) (by simpa using e)
end Go.Proofs.YtpkkhabiheobnaaGreatDoor
