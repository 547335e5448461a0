/- The document's answer's Put where nothing is put: the walks. -/
import Derived.Test.YtpkkhabiheobnaaGreatDoorRTree2
import Derived.Test.YtpkkhabiheobnaaGreatDoorRPath
namespace Go.Proofs.YtpkkhabiheobnaaGreatDoor
open Go.RowKit Go.Shelf Go.Lib Go.Maps
open Tf (Fs)

theorem isPath_hid (p : List UInt8) (hp : p.length ≤ 1000000) (x : Bool) (h : pathB p = x) (w : World) : Hid (Calls Tryz.prog 36 #[.string (ba p)] w fun e w' => e = .returned (.bool x) ∧ Below w.heap.size w w') := by
  have := IsPath_calls p hp w
  rw [← pathB_R, h] at this
  exact this

theorem rPut_name (w : World) (tb : Nat) (p b : List UInt8) (hp : p.length ≤ 1000000) (hn : pathB p = false) :
    Calls Tryz.prog 17 #[Ptr tb, .string (ba p), .string (ba b)] w fun e w' => e = .returned (.int .i64 4) ∧ Below w.heap.size w w' := by
  have HI := isPath_hid p hp false hn w
  clear hn
  go_enter Tryz.func17, Tryz.ntmps17
  go_wp2_with fail
  refine HI.out.mono ?_
  rintro e w1 ⟨rfl, g1⟩
  go_wp2
  go_ret
  exact ⟨rfl, g1⟩

theorem rPut_bound (w : World) (tb : Nat) (p b : List UInt8) (hp : p.length ≤ 1000000) (hn : pathB p = true) (hb : 2000 < b.length) :
    Calls Tryz.prog 17 #[Ptr tb, .string (ba p), .string (ba b)] w fun e w' => e = .returned (.int .i64 2) ∧ Below w.heap.size w w' := by
  have HI := isPath_hid p hp true hn w
  have z : (2000 : Int) < (b.length : Int) := by omega
  clear hn hb
  go_enter Tryz.func17, Tryz.ntmps17
  go_wp2_with fail
  refine HI.out.mono ?_
  rintro e w1 ⟨rfl, g1⟩
  go_wp2
  go_ret
  exact ⟨rfl, g1⟩

/-- The first file that stands in the way. -/
theorem first_clash : ∀ {fs : Fs} {p : List UInt8}, Tf.clash fs p = true → ∃ k, ∃ hk : k < fs.length, (Tf.above fs[k].1 p || Tf.above p fs[k].1) = true ∧ ∀ j (hj : j < fs.length), j < k → (Tf.above fs[j].1 p || Tf.above p fs[j].1) = false
  | f :: r, p, h => by
    cases hf : (Tf.above f.1 p || Tf.above p f.1) with
    | true => exact ⟨0, by simp, hf, fun j _ h => absurd h (Nat.not_lt_zero _)⟩
    | false =>
      have hr : Tf.clash r p = true := by
        unfold Tf.clash at h ⊢
        rw [List.any_cons, hf, Bool.false_or] at h
        exact h
      obtain ⟨k, hk, h1, h2⟩ := first_clash hr
      refine ⟨k + 1, by simpa using hk, h1, fun j hj hjk => ?_⟩
      cases j with
      | zero => exact hf
      | succ j => exact h2 j (by simpa using hj) (by omega)

set_option maxRecDepth 100000 in
set_option maxHeartbeats 4000000 in
theorem rPut_clash {B : Nat} {w : World} {tb : Nat} {fs : Fs} {v : Value} (h : RTreeAt B w tb fs v) (hlen : ∀ f ∈ fs, f.1.length ≤ 1000000) (hfew : fs.length ≤ 1000) (p b : List UInt8) (hp : p.length ≤ 1000000) (hn : pathB p = true) (hb : b.length ≤ 2000) (hc : Tf.clash fs p = true) :
    Calls Tryz.prog 17 #[Ptr tb, .string (ba p), .string (ba b)] w fun e w' => e = .returned (.int .i64 7) ∧ Below w.heap.size w w' := by
  have HI := isPath_hid p hp true hn w
  have HA : Hid (∀ (a c : List UInt8), a.length ≤ 1000000 → c.length ≤ 1000000 → ∀ W, Calls Tryz.prog 37 #[.string (ba a), .string (ba c)] W fun e w' => e = .returned (.bool (Tf.above a c)) ∧ w' = W) := fun a c ha hc W => rabove_calls a c ha hc W
  obtain ⟨k0, hk0, hcl, hno⟩ := first_clash hc
  have z : (b.length : Int) ≤ 2000 := by omega
  have zn : (fs.length : Int) ≤ 1000 := by omega
  clear hn hb hc
  go_enter Tryz.func17, Tryz.ntmps17
  go_wp2_with fail
  refine HI.out.mono ?_
  rintro e w1 ⟨rfl, g1⟩
  have h1 := h.below g1
  have hcell := h1.cell
  obtain ⟨pa, cap, rfl, hcap, hin⟩ := FRow.of_owns h1.row
  clear HI h h1
  go_wp2
  go_loopw [8] (fun i wr => ∃ k : Nat, k ≤ k0 ∧ i = .int .i64 k ∧ wr = w1) (fun i _ => k0 - (intOf i).toNat)
  case atStart => exact ⟨0, Nat.zero_le _, rfl, rfl⟩
  case round =>
    obtain ⟨k, hk, rfl, rfl⟩ := hrel
    have hlt : k < fs.length := by omega
    obtain ⟨g, cur, rfl, hg, hcur⟩ := hin (by intro e; rw [e] at hlt; simp at hlt)
    have hx := cell_of_row hg (hcur k hlt).1
    have hxl := hlen _ (List.getElem_mem hlt)
    have c1 : (k : Int) < (fs.length : Int) := by omega
    have c0 : (0 : Int) ≤ (k : Int) := by omega
    have A1 : Hid (∀ W, Calls Tryz.prog 37 #[.string (ba p), .string (ba fs[k].1)] W fun e w' => e = .returned (.bool (Tf.above p fs[k].1)) ∧ w' = W) := HA.out p _ hp hxl
    have A2 : Hid (∀ W, Calls Tryz.prog 37 #[.string (ba fs[k].1), .string (ba p)] W fun e w' => e = .returned (.bool (Tf.above fs[k].1 p)) ∧ w' = W) := HA.out _ p hxl hp
    have hor : (Tf.above fs[k].1 p || Tf.above p fs[k].1) = decide (k = k0) := by
      rcases Nat.lt_or_ge k k0 with h2 | h2
      · rw [hno k hlt h2]; simp; omega
      · obtain rfl : k = k0 := by omega
        rw [hcl]; simp
    clear hin hcur hg
    generalize fs[k].1 = x at *
    cases a1 : Tf.above p x with
    | true =>
      rw [a1] at A1 hor
      clear A2
      go_wp2_with fail
      refine (A1.out _).mono ?_
      rintro e w' ⟨rfl, rfl⟩
      go_wp2
      go_ret
      exact ⟨rfl, g1⟩
    | false =>
      rw [a1] at A1 hor
      cases a2 : Tf.above x p with
      | true =>
        rw [a2] at A2
        go_wp2_with fail
        refine (A1.out _).mono ?_
        rintro e w' ⟨rfl, rfl⟩
        go_wp2_with fail
        refine (A2.out _).mono ?_
        rintro e w' ⟨rfl, rfl⟩
        go_wp2
        go_ret
        exact ⟨rfl, g1⟩
      | false =>
        rw [a2] at A2 hor
        have hkk : k ≠ k0 := by intro e; subst e; simp at hor
        go_wp2_with fail
        refine (A1.out _).mono ?_
        rintro e w' ⟨rfl, rfl⟩
        go_wp2_with fail
        refine (A2.out _).mono ?_
        rintro e w' ⟨rfl, rfl⟩
        go_wp2
        go_roundw
        case rel => exact ⟨k + 1, by omega, by go_num, by first | rfl | trivial⟩
        case measure => simp [intOf]; omega
end Go.Proofs.YtpkkhabiheobnaaGreatDoor
