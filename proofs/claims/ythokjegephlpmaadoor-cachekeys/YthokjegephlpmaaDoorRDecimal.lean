/- The document's answer's Byte and Decimal. -/
import Derived.Test.YthokjegephlpmaaDoorTRowT
namespace Go.Proofs.YthokjegephlpmaaDoor
open Go.RowKit Go.Shelf Go.Lib Go.Maps

set_option maxRecDepth 100000 in
theorem Byte_calls (n : Nat) (hn : n < 256) (w : World) : Calls Tryd.prog 42 #[.int .i64 n] w fun e w' => e = .returned (.string (ba [UInt8.ofNat n])) ∧ Below w.heap.size w w' := by
  have z0 : (0 : Int) ≤ (n : Int) := by omega
  have z1 : (n : Int) < 256 := by omega
  have hk := (MapKept.heap_alloc w (.cells #[.int .u8 (n : Int)] 5)).1
  have hcv : (convert 50 9 (.slice (some ⟨w.heap.size, 0, none⟩) 1 1)).run Tryd.prog (w.alloc (.cells #[.int .u8 (n : Int)] 5)) = .ok (.string (ba [UInt8.ofNat n])) (w.alloc (.cells #[.int .u8 (n : Int)] 5)) := run_convert_bytes_back (P := Tryd.prog) (w.alloc (.cells #[.int .u8 (n : Int)] 5)) 50 9 5 ⟨w.heap.size, 0, none⟩ 1 [UInt8.ofNat n] Tryd.underlying50 Tryd.underlying5 Tryd.underlying9
    (fun j hj => by
      match j, hj with
      | 0, _ =>
        have e : ((UInt8.ofNat n).toNat : Int) = (n : Int) := by simp; omega
        show _ = some (Value.int .u8 ((UInt8.ofNat n).toNat : Int))
        rw [e]
        exact cell_of_row hk rfl)
  go_enter Tryd.func42, Tryd.ntmps42
  go_wp2
  go_ret
  exact ⟨rfl, (Below.refl _ w).alloc (Nat.le_refl _) _⟩

theorem add48 (n : Nat) : 48 + UInt8.ofNat n = UInt8.ofNat (48 + n) := (UInt8.ofNat_add 48 n).symm

theorem digits_len' (n : Nat) (h : n ≤ 1000000) : (Lib.decDigits n).length ≤ 21 := by
  have := Lib.itoa_length_le (n : Int) (by omega) (by omega)
  rwa [Lib.itoa_nonneg] at this

set_option maxRecDepth 100000 in
set_option maxHeartbeats 2000000 in
theorem rbelow_calls : ∀ (n : Nat), n ≤ 1000000 → ∀ (w : World), Calls Tryd.prog 35 #[.int .i64 (-(n : Int))] w fun e w' => e = .returned (.string (ba (Lib.decDigits n))) ∧ Below w.heap.size w w' := by
  intro n
  induction n using Nat.strongRecOn with
  | _ n ih =>
    intro hn w
    rw [Lib.decDigits]
    by_cases h : n < 10
    · rw [dif_pos h]
      have HB : Hid (∀ W, Calls Tryd.prog 42 #[.int .i64 (48 + (n : Int))] W fun e w' => e = .returned (.string (ba [UInt8.ofNat (48 + n)])) ∧ Below W.heap.size W w') := fun W => by
        have := Byte_calls (48 + n) (by omega) W
        rwa [show ((48 + n : Nat) : Int) = 48 + (n : Int) by omega] at this
      have z1 : (-10 : Int) < -(n : Int) := by omega
      have z2 : (0 : Int) ≤ (n : Int) := by omega
      have z3 : (n : Int) < 10 := by omega
      clear ih
      go_enter Tryd.func35, Tryd.ntmps35
      go_wp2_with fail
      refine (HB.out _).mono ?_
      rintro e w1 ⟨rfl, g1⟩
      go_wp2
      go_ret
      exact ⟨congrArg (fun x => Ending.returned (.string (ba x))) (show [48 + UInt8.ofNat n] = [UInt8.ofNat (48 + n)] by rw [add48]), g1⟩
    · rw [dif_neg h]
      have HR : Hid (∀ W, Calls Tryd.prog 35 #[.int .i64 (-((n / 10 : Nat) : Int))] W fun e w' => e = .returned (.string (ba (Lib.decDigits (n / 10)))) ∧ Below W.heap.size W w') := fun W => ih (n / 10) (by omega) (by omega) W
      have HB : Hid (∀ W, Calls Tryd.prog 42 #[.int .i64 (48 + ((n % 10 : Nat) : Int))] W fun e w' => e = .returned (.string (ba [UInt8.ofNat (48 + n % 10)])) ∧ Below W.heap.size W w') := fun W => by
        have := Byte_calls (48 + n % 10) (by omega) W
        rwa [show ((48 + n % 10 : Nat) : Int) = 48 + ((n % 10 : Nat) : Int) by omega] at this
      have z1 : ¬ (-10 : Int) < -(n : Int) := by omega
      have z1' : -(n : Int) ≤ -10 := by omega
      have z2 : (0 : Int) ≤ (n : Int) := by omega
      have z3 : (n : Int) ≤ 1000000 := by omega
      have q1 : (-(n : Int)).tdiv 10 = -((n / 10 : Nat) : Int) := by rw [Int.neg_tdiv]; rfl
      have q2 : (-(n : Int)).tmod 10 = -((n % 10 : Nat) : Int) := by rw [Int.neg_tmod]; rfl
      have q3 : ((n / 10 : Nat) : Int) ≤ 100000 := by omega
      have q4 : (0 : Int) ≤ ((n / 10 : Nat) : Int) := by omega
      have q5 : ((n % 10 : Nat) : Int) < 10 := by omega
      have q6 : (0 : Int) ≤ ((n % 10 : Nat) : Int) := by omega
      have hlen := digits_len' (n / 10) (by omega)
      clear ih
      go_enter Tryd.func35, Tryd.ntmps35
      go_wp2_with fail
      refine (HR.out _).mono ?_
      rintro e w1 ⟨rfl, g1⟩
      go_wp2_with fail
      refine (HB.out _).mono ?_
      rintro e w2 ⟨rfl, g2⟩
      go_wp2
      go_ret
      exact ⟨congrArg (fun x => Ending.returned (.string (ba x))) (show Lib.decDigits (n / 10) ++ [48 + UInt8.ofNat (n % 10)] = Lib.decDigits (n / 10) ++ [UInt8.ofNat (48 + n % 10)] by rw [add48]), g1.trans (g2.mono g1.size)⟩

theorem Decimal_calls (n : Nat) (hn : n ≤ 1000000) (w : World) : Calls Tryd.prog 27 #[.int .i64 (n : Int)] w fun e w' => e = .returned (.string (ba (Lib.decDigits n))) ∧ Below w.heap.size w w' := by
  have HB : Hid (∀ W, Calls Tryd.prog 35 #[.int .i64 (-(n : Int))] W fun e w' => e = .returned (.string (ba (Lib.decDigits n))) ∧ Below W.heap.size W w') := fun W => rbelow_calls n hn W
  have z1 : ¬ (n : Int) < 0 := by omega
  have z2 : (0 : Int) ≤ (n : Int) := by omega
  have z3 : (n : Int) ≤ 1000000 := by omega
  go_enter Tryd.func27, Tryd.ntmps27
  go_wp2_with fail
  refine (HB.out _).mono ?_
  rintro e w1 ⟨rfl, g1⟩
  go_wp2
  go_ret
  exact ⟨rfl, g1⟩
end Go.Proofs.YthokjegephlpmaaDoor
