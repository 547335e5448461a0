import Derived.Test.YthchjnopgagilaaGreatDoorPA18
set_option maxRecDepth 100000
set_option maxHeartbeats 8000000
namespace Go.Proofs.YthchjnopgagilaaGreatDoor
open Go.RowKit Go.Shelf Go.Lib
open Af (Kd)
theorem isSwap_cut (wd : List UInt8) : Af.isSwap wd = (decide ((cutB 61 wd).length = 2) && !(wd.head? == some 61)) := by
 unfold Af.isSwap Lib.cut
 rw [Lib.index_one]
 by_cases h : Lib.indexByte wd 61 = -1
 ·have hc := cutB_none 61 wd h
  rw [h,hc]
  simp
 ·have hge := Lib.indexByte_ge wd 61
  obtain ⟨i,hi⟩ : ∃ i : Nat,Lib.indexByte wd 61 = (i : Int) := ⟨(Lib.indexByte wd 61).toNat,by omega⟩
  obtain ⟨e1,e2⟩ := cutB_some 61 wd i hi
  obtain ⟨hs1,hs2⟩ := Lib.indexByte_some hi
  rw [hi,e1]
  simp only [Int.natCast_nonneg,if_true,Int.toNat_natCast,List.length_cons,List.length_nil,Nat.zero_add,Bool.true_and]
  have hlen : decide ((cutB 61 (wd.drop (i + 1))).length + 1 = 2) = !(Lib.contains (wd.drop (i + 1)) [61]) := by
   unfold Lib.contains
   rw [Lib.index_one]
   by_cases h2 : Lib.indexByte (wd.drop (i + 1)) 61 = -1
   ·rw [cutB_none 61 _ h2,h2];rfl
   ·have hge2 := Lib.indexByte_ge (wd.drop (i + 1)) 61
    obtain ⟨j,hj⟩ : ∃ j : Nat,Lib.indexByte (wd.drop (i + 1)) 61 = (j : Int) := ⟨(Lib.indexByte (wd.drop (i + 1)) 61).toNat,by omega⟩
    obtain ⟨f1,_⟩ := cutB_some 61 _ j hj
    have hne := cutB_ne 61 ((wd.drop (i + 1)).drop (j + 1))
    have h0 : 0 < (cutB 61 ((wd.drop (i + 1)).drop (j + 1))).length := List.length_pos_iff.2 hne
    have hx : ¬ ((cutB 61 ((wd.drop (i + 1)).drop (j + 1))).length + 1 + 1 = 2) := by omega
    rw [f1,hj,List.length_cons,decide_eq_false hx,decide_eq_true (show (0 : Int) ≤ (j : Int) by omega)]
    rfl
  have hhead : (wd.take i).isEmpty = (wd.head? == some 61) := by
   cases wd with
   | nil => simp at e2
   | cons c r =>
    cases i with
    | zero =>
     have : c = 61 := by simpa using hs1
     simp [this]
    | succ i =>
     have := hs2 0 (by omega)
     have hc : c ≠ 61 := by simpa using this
     simp [hc]
  rw [hlen,hhead,Bool.and_comm]
theorem actErr_write_t (wd : List UInt8) (n : Int) (hl : wd.length ≤ 1000000) (w : World) :
  Calls Tryz.prog 39 #[.string ⟨#[119,114,105,116,101]⟩,.string (ba wd),.int .i64 n] w fun e w' => e = .returned (.int .i64 (if n < 0 ∨ (0 : Int) < n ∨ true = false then 3 else if 100 < wd.length then 10 else 0)) ∧ Below w.heap.size w w' := by
 have zl : (wd.length : Int) ≤ 1000000 := by omega
 generalize hr : (if n < 0 ∨ (0 : Int) < n ∨ true = false then (3 : Int) else if 100 < wd.length then 10 else 0) = r
 have HR := hid1 hr
 clear hr
 by_cases h1 : n < 0
 ·have d1 : decide (n < (0 : Int)) = true := decide_eq_true h1
  go_enter Tryz.func39,Tryz.ntmps39
  go_wp2
  go_ret
  exact ⟨ret_eq (by rw [← HR.out,if_pos (.inl h1)];rfl),Below.refl _ _⟩
 have d1 : decide (n < (0 : Int)) = false := decide_eq_false h1
 by_cases h2 : (0 : Int) < n
 ·have d2 : decide ((0 : Int) < n) = true := decide_eq_true h2
  go_enter Tryz.func39,Tryz.ntmps39
  go_wp2
  go_ret
  exact ⟨ret_eq (by rw [← HR.out,if_pos (.inr (.inl h2))];rfl),Below.refl _ _⟩
 have d2 : decide ((0 : Int) < n) = false := decide_eq_false h2
 have hno : ¬ (n < 0 ∨ (0 : Int) < n ∨ true = false) := by simp;omega
 by_cases h4 : 100 < wd.length
 ·have d4 : decide ((100 : Int) < (wd.length : Int)) = true := decide_eq_true (by omega)
  go_enter Tryz.func39,Tryz.ntmps39
  go_wp2
  go_ret
  exact ⟨ret_eq (by rw [← HR.out,if_neg hno,if_pos h4];rfl),Below.refl _ _⟩
 ·have d4 : decide ((100 : Int) < (wd.length : Int)) = false := decide_eq_false (by omega)
  go_enter Tryz.func39,Tryz.ntmps39
  go_wp2
  go_ret
  exact ⟨ret_eq (by rw [← HR.out,if_neg hno,if_neg h4];rfl),Below.refl _ _⟩
theorem actErr_join_t (wd : List UInt8) (n : Int) (hl : wd.length ≤ 1000000) (w : World) :
  Calls Tryz.prog 39 #[.string ⟨#[106,111,105,110]⟩,.string (ba wd),.int .i64 n] w fun e w' => e = .returned (.int .i64 (if n < 1 ∨ (8 : Int) < n ∨ true = false then 3 else if 100 < wd.length then 10 else 0)) ∧ Below w.heap.size w w' := by
 have zl : (wd.length : Int) ≤ 1000000 := by omega
 generalize hr : (if n < 1 ∨ (8 : Int) < n ∨ true = false then (3 : Int) else if 100 < wd.length then 10 else 0) = r
 have HR := hid1 hr
 clear hr
 by_cases h1 : n < 1
 ·have d1 : decide (n < (1 : Int)) = true := decide_eq_true h1
  go_enter Tryz.func39,Tryz.ntmps39
  go_wp2
  go_ret
  exact ⟨ret_eq (by rw [← HR.out,if_pos (.inl h1)];rfl),Below.refl _ _⟩
 have d1 : decide (n < (1 : Int)) = false := decide_eq_false h1
 by_cases h2 : (8 : Int) < n
 ·have d2 : decide ((8 : Int) < n) = true := decide_eq_true h2
  go_enter Tryz.func39,Tryz.ntmps39
  go_wp2
  go_ret
  exact ⟨ret_eq (by rw [← HR.out,if_pos (.inr (.inl h2))];rfl),Below.refl _ _⟩
 have d2 : decide ((8 : Int) < n) = false := decide_eq_false h2
 have hno : ¬ (n < 1 ∨ (8 : Int) < n ∨ true = false) := by simp;omega
 by_cases h4 : 100 < wd.length
 ·have d4 : decide ((100 : Int) < (wd.length : Int)) = true := decide_eq_true (by omega)
  go_enter Tryz.func39,Tryz.ntmps39
  go_wp2
  go_ret
  exact ⟨ret_eq (by rw [← HR.out,if_neg hno,if_pos h4];rfl),Below.refl _ _⟩
 ·have d4 : decide ((100 : Int) < (wd.length : Int)) = false := decide_eq_false (by omega)
  go_enter Tryz.func39,Tryz.ntmps39
  go_wp2
  go_ret
  exact ⟨ret_eq (by rw [← HR.out,if_neg hno,if_neg h4];rfl),Below.refl _ _⟩
theorem actErr_lines_t (wd : List UInt8) (n : Int) (hl : wd.length ≤ 1000000) (w : World) :
  Calls Tryz.prog 39 #[.string ⟨#[108,105,110,101,115]⟩,.string (ba wd),.int .i64 n] w fun e w' => e = .returned (.int .i64 (if n < 1 ∨ (1 : Int) < n ∨ true = false then 3 else if 100 < wd.length then 10 else 0)) ∧ Below w.heap.size w w' := by
 have zl : (wd.length : Int) ≤ 1000000 := by omega
 generalize hr : (if n < 1 ∨ (1 : Int) < n ∨ true = false then (3 : Int) else if 100 < wd.length then 10 else 0) = r
 have HR := hid1 hr
 clear hr
 by_cases h1 : n < 1
 ·have d1 : decide (n < (1 : Int)) = true := decide_eq_true h1
  go_enter Tryz.func39,Tryz.ntmps39
  go_wp2
  go_ret
  exact ⟨ret_eq (by rw [← HR.out,if_pos (.inl h1)];rfl),Below.refl _ _⟩
 have d1 : decide (n < (1 : Int)) = false := decide_eq_false h1
 by_cases h2 : (1 : Int) < n
 ·have d2 : decide ((1 : Int) < n) = true := decide_eq_true h2
  go_enter Tryz.func39,Tryz.ntmps39
  go_wp2
  go_ret
  exact ⟨ret_eq (by rw [← HR.out,if_pos (.inr (.inl h2))];rfl),Below.refl _ _⟩
 have d2 : decide ((1 : Int) < n) = false := decide_eq_false h2
 have hno : ¬ (n < 1 ∨ (1 : Int) < n ∨ true = false) := by simp;omega
 by_cases h4 : 100 < wd.length
 ·have d4 : decide ((100 : Int) < (wd.length : Int)) = true := decide_eq_true (by omega)
  go_enter Tryz.func39,Tryz.ntmps39
  go_wp2
  go_ret
  exact ⟨ret_eq (by rw [← HR.out,if_neg hno,if_pos h4];rfl),Below.refl _ _⟩
 ·have d4 : decide ((100 : Int) < (wd.length : Int)) = false := decide_eq_false (by omega)
  go_enter Tryz.func39,Tryz.ntmps39
  go_wp2
  go_ret
  exact ⟨ret_eq (by rw [← HR.out,if_neg hno,if_neg h4];rfl),Below.refl _ _⟩
theorem actErr_upper_t (wd : List UInt8) (n : Int) (hl : wd.length ≤ 1000000) (w : World) (he : wd = []) :
  Calls Tryz.prog 39 #[.string ⟨#[117,112,112,101,114]⟩,.string (ba wd),.int .i64 n] w fun e w' => e = .returned (.int .i64 (if n < 1 ∨ (1 : Int) < n ∨ true = false then 3 else if 100 < wd.length then 10 else 0)) ∧ Below w.heap.size w w' := by
 have zl : (wd.length : Int) ≤ 1000000 := by omega
 have q0 : wd.isEmpty = true := by rw [he];rfl
 clear he
 generalize hr : (if n < 1 ∨ (1 : Int) < n ∨ true = false then (3 : Int) else if 100 < wd.length then 10 else 0) = r
 have HR := hid1 hr
 clear hr
 by_cases h1 : n < 1
 ·have d1 : decide (n < (1 : Int)) = true := decide_eq_true h1
  go_enter Tryz.func39,Tryz.ntmps39
  go_wp2
  go_ret
  exact ⟨ret_eq (by rw [← HR.out,if_pos (.inl h1)];rfl),Below.refl _ _⟩
 have d1 : decide (n < (1 : Int)) = false := decide_eq_false h1
 by_cases h2 : (1 : Int) < n
 ·have d2 : decide ((1 : Int) < n) = true := decide_eq_true h2
  go_enter Tryz.func39,Tryz.ntmps39
  go_wp2
  go_ret
  exact ⟨ret_eq (by rw [← HR.out,if_pos (.inr (.inl h2))];rfl),Below.refl _ _⟩
 have d2 : decide ((1 : Int) < n) = false := decide_eq_false h2
 have hno : ¬ (n < 1 ∨ (1 : Int) < n ∨ true = false) := by simp;omega
 by_cases h4 : 100 < wd.length
 ·have d4 : decide ((100 : Int) < (wd.length : Int)) = true := decide_eq_true (by omega)
  go_enter Tryz.func39,Tryz.ntmps39
  go_wp2
  go_ret
  exact ⟨ret_eq (by rw [← HR.out,if_neg hno,if_pos h4];rfl),Below.refl _ _⟩
 ·have d4 : decide ((100 : Int) < (wd.length : Int)) = false := decide_eq_false (by omega)
  go_enter Tryz.func39,Tryz.ntmps39
  go_wp2
  go_ret
  exact ⟨ret_eq (by rw [← HR.out,if_neg hno,if_neg h4];rfl),Below.refl _ _⟩
theorem actErr_upper_f (wd : List UInt8) (n : Int) (hl : wd.length ≤ 1000000) (w : World) (he : wd ≠ []) :
  Calls Tryz.prog 39 #[.string ⟨#[117,112,112,101,114]⟩,.string (ba wd),.int .i64 n] w fun e w' => e = .returned (.int .i64 (if n < 1 ∨ (1 : Int) < n ∨ false = false then 3 else if 100 < wd.length then 10 else 0)) ∧ Below w.heap.size w w' := by
 have zl : (wd.length : Int) ≤ 1000000 := by omega
 have q0 : wd.isEmpty = false := empty_not he
 generalize hr : (if n < 1 ∨ (1 : Int) < n ∨ false = false then (3 : Int) else if 100 < wd.length then 10 else 0) = r
 have HR := hid1 hr
 clear hr
 by_cases h1 : n < 1
 ·have d1 : decide (n < (1 : Int)) = true := decide_eq_true h1
  go_enter Tryz.func39,Tryz.ntmps39
  go_wp2
  go_ret
  exact ⟨ret_eq (by rw [← HR.out,if_pos (.inl h1)];rfl),Below.refl _ _⟩
 have d1 : decide (n < (1 : Int)) = false := decide_eq_false h1
 by_cases h2 : (1 : Int) < n
 ·have d2 : decide ((1 : Int) < n) = true := decide_eq_true h2
  go_enter Tryz.func39,Tryz.ntmps39
  go_wp2
  go_ret
  exact ⟨ret_eq (by rw [← HR.out,if_pos (.inr (.inl h2))];rfl),Below.refl _ _⟩
 have d2 : decide ((1 : Int) < n) = false := decide_eq_false h2
 go_enter Tryz.func39,Tryz.ntmps39
 go_wp2
 go_ret
 exact ⟨ret_eq (by rw [← HR.out,if_pos (.inr (.inr trivial))];rfl),Below.refl _ _⟩
theorem actErr_count_t (wd : List UInt8) (n : Int) (hl : wd.length ≤ 1000000) (w : World) (he : wd = []) :
  Calls Tryz.prog 39 #[.string ⟨#[99,111,117,110,116]⟩,.string (ba wd),.int .i64 n] w fun e w' => e = .returned (.int .i64 (if n < 1 ∨ (8 : Int) < n ∨ true = false then 3 else if 100 < wd.length then 10 else 0)) ∧ Below w.heap.size w w' := by
 have zl : (wd.length : Int) ≤ 1000000 := by omega
 have q0 : wd.isEmpty = true := by rw [he];rfl
 clear he
 generalize hr : (if n < 1 ∨ (8 : Int) < n ∨ true = false then (3 : Int) else if 100 < wd.length then 10 else 0) = r
 have HR := hid1 hr
 clear hr
 by_cases h1 : n < 1
 ·have d1 : decide (n < (1 : Int)) = true := decide_eq_true h1
  go_enter Tryz.func39,Tryz.ntmps39
  go_wp2
  go_ret
  exact ⟨ret_eq (by rw [← HR.out,if_pos (.inl h1)];rfl),Below.refl _ _⟩
 have d1 : decide (n < (1 : Int)) = false := decide_eq_false h1
 by_cases h2 : (8 : Int) < n
 ·have d2 : decide ((8 : Int) < n) = true := decide_eq_true h2
  go_enter Tryz.func39,Tryz.ntmps39
  go_wp2
  go_ret
  exact ⟨ret_eq (by rw [← HR.out,if_pos (.inr (.inl h2))];rfl),Below.refl _ _⟩
 have d2 : decide ((8 : Int) < n) = false := decide_eq_false h2
 have hno : ¬ (n < 1 ∨ (8 : Int) < n ∨ true = false) := by simp;omega
 by_cases h4 : 100 < wd.length
 ·have d4 : decide ((100 : Int) < (wd.length : Int)) = true := decide_eq_true (by omega)
  go_enter Tryz.func39,Tryz.ntmps39
  go_wp2
  go_ret
  exact ⟨ret_eq (by rw [← HR.out,if_neg hno,if_pos h4];rfl),Below.refl _ _⟩
 ·have d4 : decide ((100 : Int) < (wd.length : Int)) = false := decide_eq_false (by omega)
  go_enter Tryz.func39,Tryz.ntmps39
  go_wp2
  go_ret
  exact ⟨ret_eq (by rw [← HR.out,if_neg hno,if_neg h4];rfl),Below.refl _ _⟩
theorem actErr_count_f (wd : List UInt8) (n : Int) (hl : wd.length ≤ 1000000) (w : World) (he : wd ≠ []) :
  Calls Tryz.prog 39 #[.string ⟨#[99,111,117,110,116]⟩,.string (ba wd),.int .i64 n] w fun e w' => e = .returned (.int .i64 (if n < 1 ∨ (8 : Int) < n ∨ false = false then 3 else if 100 < wd.length then 10 else 0)) ∧ Below w.heap.size w w' := by
 have zl : (wd.length : Int) ≤ 1000000 := by omega
 have q0 : wd.isEmpty = false := empty_not he
 generalize hr : (if n < 1 ∨ (8 : Int) < n ∨ false = false then (3 : Int) else if 100 < wd.length then 10 else 0) = r
 have HR := hid1 hr
 clear hr
 by_cases h1 : n < 1
 ·have d1 : decide (n < (1 : Int)) = true := decide_eq_true h1
  go_enter Tryz.func39,Tryz.ntmps39
  go_wp2
  go_ret
  exact ⟨ret_eq (by rw [← HR.out,if_pos (.inl h1)];rfl),Below.refl _ _⟩
 have d1 : decide (n < (1 : Int)) = false := decide_eq_false h1
 by_cases h2 : (8 : Int) < n
 ·have d2 : decide ((8 : Int) < n) = true := decide_eq_true h2
  go_enter Tryz.func39,Tryz.ntmps39
  go_wp2
  go_ret
  exact ⟨ret_eq (by rw [← HR.out,if_pos (.inr (.inl h2))];rfl),Below.refl _ _⟩
 have d2 : decide ((8 : Int) < n) = false := decide_eq_false h2
 go_enter Tryz.func39,Tryz.ntmps39
 go_wp2
 go_ret
 exact ⟨ret_eq (by rw [← HR.out,if_pos (.inr (.inr trivial))];rfl),Below.refl _ _⟩
theorem actErr_sort_t (wd : List UInt8) (n : Int) (hl : wd.length ≤ 1000000) (w : World) (he : wd = []) :
  Calls Tryz.prog 39 #[.string ⟨#[115,111,114,116]⟩,.string (ba wd),.int .i64 n] w fun e w' => e = .returned (.int .i64 (if n < 1 ∨ (8 : Int) < n ∨ true = false then 3 else if 100 < wd.length then 10 else 0)) ∧ Below w.heap.size w w' := by
 have zl : (wd.length : Int) ≤ 1000000 := by omega
 have q0 : wd.isEmpty = true := by rw [he];rfl
 clear he
 generalize hr : (if n < 1 ∨ (8 : Int) < n ∨ true = false then (3 : Int) else if 100 < wd.length then 10 else 0) = r
 have HR := hid1 hr
 clear hr
 by_cases h1 : n < 1
 ·have d1 : decide (n < (1 : Int)) = true := decide_eq_true h1
  go_enter Tryz.func39,Tryz.ntmps39
  go_wp2
  go_ret
  exact ⟨ret_eq (by rw [← HR.out,if_pos (.inl h1)];rfl),Below.refl _ _⟩
 have d1 : decide (n < (1 : Int)) = false := decide_eq_false h1
 by_cases h2 : (8 : Int) < n
 ·have d2 : decide ((8 : Int) < n) = true := decide_eq_true h2
  go_enter Tryz.func39,Tryz.ntmps39
  go_wp2
  go_ret
  exact ⟨ret_eq (by rw [← HR.out,if_pos (.inr (.inl h2))];rfl),Below.refl _ _⟩
 have d2 : decide ((8 : Int) < n) = false := decide_eq_false h2
 have hno : ¬ (n < 1 ∨ (8 : Int) < n ∨ true = false) := by simp;omega
 by_cases h4 : 100 < wd.length
 ·have d4 : decide ((100 : Int) < (wd.length : Int)) = true := decide_eq_true (by omega)
  go_enter Tryz.func39,Tryz.ntmps39
  go_wp2
  go_ret
  exact ⟨ret_eq (by rw [← HR.out,if_neg hno,if_pos h4];rfl),Below.refl _ _⟩
 ·have d4 : decide ((100 : Int) < (wd.length : Int)) = false := decide_eq_false (by omega)
  go_enter Tryz.func39,Tryz.ntmps39
  go_wp2
  go_ret
  exact ⟨ret_eq (by rw [← HR.out,if_neg hno,if_neg h4];rfl),Below.refl _ _⟩
theorem actErr_sort_o (wd : List UInt8) (n : Int) (hl : wd.length ≤ 1000000) (w : World) (he : wd = oncew) :
  Calls Tryz.prog 39 #[.string ⟨#[115,111,114,116]⟩,.string (ba wd),.int .i64 n] w fun e w' => e = .returned (.int .i64 (if n < 1 ∨ (8 : Int) < n ∨ true = false then 3 else if 100 < wd.length then 10 else 0)) ∧ Below w.heap.size w w' := by
 have zl : (wd.length : Int) ≤ 1000000 := by omega
 have q0 : wd.isEmpty = false := by rw [he];rfl
 have q1 : (wd == [111,110,99,101]) = true := by rw [he];rfl
 clear he
 generalize hr : (if n < 1 ∨ (8 : Int) < n ∨ true = false then (3 : Int) else if 100 < wd.length then 10 else 0) = r
 have HR := hid1 hr
 clear hr
 by_cases h1 : n < 1
 ·have d1 : decide (n < (1 : Int)) = true := decide_eq_true h1
  go_enter Tryz.func39,Tryz.ntmps39
  go_wp2
  go_ret
  exact ⟨ret_eq (by rw [← HR.out,if_pos (.inl h1)];rfl),Below.refl _ _⟩
 have d1 : decide (n < (1 : Int)) = false := decide_eq_false h1
 by_cases h2 : (8 : Int) < n
 ·have d2 : decide ((8 : Int) < n) = true := decide_eq_true h2
  go_enter Tryz.func39,Tryz.ntmps39
  go_wp2
  go_ret
  exact ⟨ret_eq (by rw [← HR.out,if_pos (.inr (.inl h2))];rfl),Below.refl _ _⟩
 have d2 : decide ((8 : Int) < n) = false := decide_eq_false h2
 have hno : ¬ (n < 1 ∨ (8 : Int) < n ∨ true = false) := by simp;omega
 by_cases h4 : 100 < wd.length
 ·have d4 : decide ((100 : Int) < (wd.length : Int)) = true := decide_eq_true (by omega)
  go_enter Tryz.func39,Tryz.ntmps39
  go_wp2
  go_ret
  exact ⟨ret_eq (by rw [← HR.out,if_neg hno,if_pos h4];rfl),Below.refl _ _⟩
 ·have d4 : decide ((100 : Int) < (wd.length : Int)) = false := decide_eq_false (by omega)
  go_enter Tryz.func39,Tryz.ntmps39
  go_wp2
  go_ret
  exact ⟨ret_eq (by rw [← HR.out,if_neg hno,if_neg h4];rfl),Below.refl _ _⟩
theorem actErr_sort_f (wd : List UInt8) (n : Int) (hl : wd.length ≤ 1000000) (w : World) (he : wd ≠ []) (ho : wd ≠ oncew) :
  Calls Tryz.prog 39 #[.string ⟨#[115,111,114,116]⟩,.string (ba wd),.int .i64 n] w fun e w' => e = .returned (.int .i64 (if n < 1 ∨ (8 : Int) < n ∨ false = false then 3 else if 100 < wd.length then 10 else 0)) ∧ Below w.heap.size w w' := by
 have zl : (wd.length : Int) ≤ 1000000 := by omega
 have q0 : wd.isEmpty = false := empty_not he
 have q1 : (wd == [111,110,99,101]) = false := by simpa using ho
 generalize hr : (if n < 1 ∨ (8 : Int) < n ∨ false = false then (3 : Int) else if 100 < wd.length then 10 else 0) = r
 have HR := hid1 hr
 clear hr
 by_cases h1 : n < 1
 ·have d1 : decide (n < (1 : Int)) = true := decide_eq_true h1
  go_enter Tryz.func39,Tryz.ntmps39
  go_wp2
  go_ret
  exact ⟨ret_eq (by rw [← HR.out,if_pos (.inl h1)];rfl),Below.refl _ _⟩
 have d1 : decide (n < (1 : Int)) = false := decide_eq_false h1
 by_cases h2 : (8 : Int) < n
 ·have d2 : decide ((8 : Int) < n) = true := decide_eq_true h2
  go_enter Tryz.func39,Tryz.ntmps39
  go_wp2
  go_ret
  exact ⟨ret_eq (by rw [← HR.out,if_pos (.inr (.inl h2))];rfl),Below.refl _ _⟩
 have d2 : decide ((8 : Int) < n) = false := decide_eq_false h2
 go_enter Tryz.func39,Tryz.ntmps39
 go_wp2
 go_ret
 exact ⟨ret_eq (by rw [← HR.out,if_pos (.inr (.inr trivial))];rfl),Below.refl _ _⟩
theorem actErr_head_t (wd : List UInt8) (n : Int) (hl : wd.length ≤ 1000000) (w : World) (he : decide ((0 : Int) ≤ numJ wd) = true) :
  Calls Tryz.prog 39 #[.string ⟨#[104,101,97,100]⟩,.string (ba wd),.int .i64 n] w fun e w' => e = .returned (.int .i64 (if n < 1 ∨ (1 : Int) < n ∨ true = false then 3 else if 100 < wd.length then 10 else 0)) ∧ Below w.heap.size w w' := by
 have zl : (wd.length : Int) ≤ 1000000 := by omega
 have HC := hid1 (NumberOf3_calls wd hl w)
 generalize numJ wd = nj at *
 generalize hr : (if n < 1 ∨ (1 : Int) < n ∨ true = false then (3 : Int) else if 100 < wd.length then 10 else 0) = r
 have HR := hid1 hr
 clear hr
 by_cases h1 : n < 1
 ·have d1 : decide (n < (1 : Int)) = true := decide_eq_true h1
  go_enter Tryz.func39,Tryz.ntmps39
  go_wp2_with fail
  refine Calls.mono (HC.out) ?_
  rintro e w1 ⟨rfl,rfl⟩
  go_wp2
  go_ret
  exact ⟨ret_eq (by rw [← HR.out,if_pos (.inl h1)];rfl),Below.refl _ _⟩
 have d1 : decide (n < (1 : Int)) = false := decide_eq_false h1
 by_cases h2 : (1 : Int) < n
 ·have d2 : decide ((1 : Int) < n) = true := decide_eq_true h2
  go_enter Tryz.func39,Tryz.ntmps39
  go_wp2_with fail
  refine Calls.mono (HC.out) ?_
  rintro e w1 ⟨rfl,rfl⟩
  go_wp2
  go_ret
  exact ⟨ret_eq (by rw [← HR.out,if_pos (.inr (.inl h2))];rfl),Below.refl _ _⟩
 have d2 : decide ((1 : Int) < n) = false := decide_eq_false h2
 have hno : ¬ (n < 1 ∨ (1 : Int) < n ∨ true = false) := by simp;omega
 by_cases h4 : 100 < wd.length
 ·have d4 : decide ((100 : Int) < (wd.length : Int)) = true := decide_eq_true (by omega)
  go_enter Tryz.func39,Tryz.ntmps39
  go_wp2_with fail
  refine Calls.mono (HC.out) ?_
  rintro e w1 ⟨rfl,rfl⟩
  go_wp2
  go_ret
  exact ⟨ret_eq (by rw [← HR.out,if_neg hno,if_pos h4];rfl),Below.refl _ _⟩
 ·have d4 : decide ((100 : Int) < (wd.length : Int)) = false := decide_eq_false (by omega)
  go_enter Tryz.func39,Tryz.ntmps39
  go_wp2_with fail
  refine Calls.mono (HC.out) ?_
  rintro e w1 ⟨rfl,rfl⟩
  go_wp2
  go_ret
  exact ⟨ret_eq (by rw [← HR.out,if_neg hno,if_neg h4];rfl),Below.refl _ _⟩
theorem actErr_head_f (wd : List UInt8) (n : Int) (hl : wd.length ≤ 1000000) (w : World) (he : decide ((0 : Int) ≤ numJ wd) = false) :
  Calls Tryz.prog 39 #[.string ⟨#[104,101,97,100]⟩,.string (ba wd),.int .i64 n] w fun e w' => e = .returned (.int .i64 (if n < 1 ∨ (1 : Int) < n ∨ false = false then 3 else if 100 < wd.length then 10 else 0)) ∧ Below w.heap.size w w' := by
 have zl : (wd.length : Int) ≤ 1000000 := by omega
 have HC := hid1 (NumberOf3_calls wd hl w)
 generalize numJ wd = nj at *
 generalize hr : (if n < 1 ∨ (1 : Int) < n ∨ false = false then (3 : Int) else if 100 < wd.length then 10 else 0) = r
 have HR := hid1 hr
 clear hr
 by_cases h1 : n < 1
 ·have d1 : decide (n < (1 : Int)) = true := decide_eq_true h1
  go_enter Tryz.func39,Tryz.ntmps39
  go_wp2_with fail
  refine Calls.mono (HC.out) ?_
  rintro e w1 ⟨rfl,rfl⟩
  go_wp2
  go_ret
  exact ⟨ret_eq (by rw [← HR.out,if_pos (.inl h1)];rfl),Below.refl _ _⟩
 have d1 : decide (n < (1 : Int)) = false := decide_eq_false h1
 by_cases h2 : (1 : Int) < n
 ·have d2 : decide ((1 : Int) < n) = true := decide_eq_true h2
  go_enter Tryz.func39,Tryz.ntmps39
  go_wp2_with fail
  refine Calls.mono (HC.out) ?_
  rintro e w1 ⟨rfl,rfl⟩
  go_wp2
  go_ret
  exact ⟨ret_eq (by rw [← HR.out,if_pos (.inr (.inl h2))];rfl),Below.refl _ _⟩
 have d2 : decide ((1 : Int) < n) = false := decide_eq_false h2
 go_enter Tryz.func39,Tryz.ntmps39
 go_wp2_with fail
 refine Calls.mono (HC.out) ?_
 rintro e w1 ⟨rfl,rfl⟩
 go_wp2
 go_ret
 exact ⟨ret_eq (by rw [← HR.out,if_pos (.inr (.inr trivial))];rfl),Below.refl _ _⟩
theorem actErr_swap_n (wd : List UInt8) (n : Int) (hl : wd.length ≤ 1000000) (w : World) (he : (cutB 61 wd).length ≠ 2) :
  Calls Tryz.prog 39 #[.string ⟨#[115,119,97,112]⟩,.string (ba wd),.int .i64 n] w fun e w' => e = .returned (.int .i64 (if n < 1 ∨ (1 : Int) < n ∨ false = false then 3 else if 100 < wd.length then 10 else 0)) ∧ Below w.heap.size w w' := by
 have zl : (wd.length : Int) ≤ 1000000 := by omega
 have HC : Hid (Calls Tryz.prog 118 #[.string (ba wd),.int .u8 61] w fun e w' => ∃ p c,e = .returned (.slice p (cutB 61 wd).length c) ∧ Below w.heap.size w w') := by
  refine hid1 ((rCut_calls wd hl 61 61 rfl w).mono ?_)
  rintro e w' ⟨v,rfl,ho,hb⟩
  obtain ⟨p,c,rfl,_,_⟩ := TRow.of_owns ho
  exact ⟨p,c,rfl,hb⟩
 have hcl := cutB_len 61 wd
 generalize (cutB 61 wd).length = nc at *
 have q0 : ((nc : Int) == 2) = false := by
  rw [beq_eq_false_iff_ne]
  omega
 generalize hr : (if n < 1 ∨ (1 : Int) < n ∨ false = false then (3 : Int) else if 100 < wd.length then 10 else 0) = r
 have HR := hid1 hr
 clear hr
 by_cases h1 : n < 1
 ·have d1 : decide (n < (1 : Int)) = true := decide_eq_true h1
  go_enter Tryz.func39,Tryz.ntmps39
  go_wp2_with fail
  refine Calls.mono (HC.out) ?_
  rintro e w1 ⟨p,c,rfl,g1⟩
  go_wp2
  go_ret
  exact ⟨ret_eq (by rw [← HR.out,if_pos (.inl h1)];rfl),g1⟩
 have d1 : decide (n < (1 : Int)) = false := decide_eq_false h1
 by_cases h2 : (1 : Int) < n
 ·have d2 : decide ((1 : Int) < n) = true := decide_eq_true h2
  go_enter Tryz.func39,Tryz.ntmps39
  go_wp2_with fail
  refine Calls.mono (HC.out) ?_
  rintro e w1 ⟨p,c,rfl,g1⟩
  go_wp2
  go_ret
  exact ⟨ret_eq (by rw [← HR.out,if_pos (.inr (.inl h2))];rfl),g1⟩
 have d2 : decide ((1 : Int) < n) = false := decide_eq_false h2
 go_enter Tryz.func39,Tryz.ntmps39
 go_wp2_with fail
 refine Calls.mono (HC.out) ?_
 rintro e w1 ⟨p,c,rfl,g1⟩
 go_wp2
 go_ret
 exact ⟨ret_eq (by rw [← HR.out,if_pos (.inr (.inr trivial))];rfl),g1⟩
theorem actErr_swap_e (wd : List UInt8) (n : Int) (hl : wd.length ≤ 1000000) (w : World) (he : (cutB 61 wd).length = 2) (hh : wd.head? = some 61) :
  Calls Tryz.prog 39 #[.string ⟨#[115,119,97,112]⟩,.string (ba wd),.int .i64 n] w fun e w' => e = .returned (.int .i64 (if n < 1 ∨ (1 : Int) < n ∨ false = false then 3 else if 100 < wd.length then 10 else 0)) ∧ Below w.heap.size w w' := by
 have zl : (wd.length : Int) ≤ 1000000 := by omega
 have HC : Hid (Calls Tryz.prog 118 #[.string (ba wd),.int .u8 61] w fun e w' => ∃ p c,e = .returned (.slice p (cutB 61 wd).length c) ∧ Below w.heap.size w w') := by
  refine hid1 ((rCut_calls wd hl 61 61 rfl w).mono ?_)
  rintro e w' ⟨v,rfl,ho,hb⟩
  obtain ⟨p,c,rfl,_,_⟩ := TRow.of_owns ho
  exact ⟨p,c,rfl,hb⟩
 have hcl := cutB_len 61 wd
 have hlen0 : 0 < wd.length := by omega
 generalize (cutB 61 wd).length = nc at *
 obtain ⟨bs,eb,T⟩ := txt wd
 rw [eb] at HC ⊢
 clear eb
 have zb : (bs.size : Int) ≤ 1000000 := by rw [T.size];omega
 have n0 : 0 < bs.size := by rw [T.size];exact hlen0
 have z0 : (0 : Int) < (bs.size : Int) := by omega
 have hg0 := T.get 0 hlen0 n0
 have q0 : ((nc : Int) == 2) = true := by
  rw [he];rfl
 have q2 : ((bs[0].toNat : Int) == 61) = true := by
  rw [hg0]
  have : wd[0] = 61 := by
   rw [List.head?_eq_getElem?,List.getElem?_eq_getElem hlen0] at hh
   exact Option.some.inj hh
  rw [this];rfl
 have q3 : ((bs[0].toNat : Int) != 61) = false := by rw [bne,q2];rfl
 clear hg0
 generalize hr : (if n < 1 ∨ (1 : Int) < n ∨ false = false then (3 : Int) else if 100 < wd.length then 10 else 0) = r
 have HR := hid1 hr
 clear hr
 by_cases h1 : n < 1
 ·have d1 : decide (n < (1 : Int)) = true := decide_eq_true h1
  go_enter Tryz.func39,Tryz.ntmps39
  go_wp2_with fail
  refine Calls.mono (HC.out) ?_
  rintro e w1 ⟨p,c,rfl,g1⟩
  go_wp2
  go_ret
  exact ⟨ret_eq (by rw [← HR.out,if_pos (.inl h1)];rfl),g1⟩
 have d1 : decide (n < (1 : Int)) = false := decide_eq_false h1
 by_cases h2 : (1 : Int) < n
 ·have d2 : decide ((1 : Int) < n) = true := decide_eq_true h2
  go_enter Tryz.func39,Tryz.ntmps39
  go_wp2_with fail
  refine Calls.mono (HC.out) ?_
  rintro e w1 ⟨p,c,rfl,g1⟩
  go_wp2
  go_ret
  exact ⟨ret_eq (by rw [← HR.out,if_pos (.inr (.inl h2))];rfl),g1⟩
 have d2 : decide ((1 : Int) < n) = false := decide_eq_false h2
 go_enter Tryz.func39,Tryz.ntmps39
 go_wp2_with fail
 refine Calls.mono (HC.out) ?_
 rintro e w1 ⟨p,c,rfl,g1⟩
 go_wp2
 go_ret
 exact ⟨ret_eq (by rw [← HR.out,if_pos (.inr (.inr trivial))];rfl),g1⟩
theorem actErr_swap_t (wd : List UInt8) (n : Int) (hl : wd.length ≤ 1000000) (w : World) (he : (cutB 61 wd).length = 2) (hh : wd.head? ≠ some 61) :
  Calls Tryz.prog 39 #[.string ⟨#[115,119,97,112]⟩,.string (ba wd),.int .i64 n] w fun e w' => e = .returned (.int .i64 (if n < 1 ∨ (1 : Int) < n ∨ true = false then 3 else if 100 < wd.length then 10 else 0)) ∧ Below w.heap.size w w' := by
 have zl : (wd.length : Int) ≤ 1000000 := by omega
 have HC : Hid (Calls Tryz.prog 118 #[.string (ba wd),.int .u8 61] w fun e w' => ∃ p c,e = .returned (.slice p (cutB 61 wd).length c) ∧ Below w.heap.size w w') := by
  refine hid1 ((rCut_calls wd hl 61 61 rfl w).mono ?_)
  rintro e w' ⟨v,rfl,ho,hb⟩
  obtain ⟨p,c,rfl,_,_⟩ := TRow.of_owns ho
  exact ⟨p,c,rfl,hb⟩
 have hcl := cutB_len 61 wd
 have hlen0 : 0 < wd.length := by omega
 generalize (cutB 61 wd).length = nc at *
 obtain ⟨bs,eb,T⟩ := txt wd
 rw [eb] at HC ⊢
 clear eb
 have zb : (bs.size : Int) ≤ 1000000 := by rw [T.size];omega
 have n0 : 0 < bs.size := by rw [T.size];exact hlen0
 have z0 : (0 : Int) < (bs.size : Int) := by omega
 have hg0 := T.get 0 hlen0 n0
 have q0 : ((nc : Int) == 2) = true := by
  rw [he];rfl
 have q2 : ((bs[0].toNat : Int) == 61) = false := by
  rw [hg0,beq_eq_false_iff_ne]
  intro e
  refine hh ?_
  rw [List.head?_eq_getElem?,List.getElem?_eq_getElem hlen0,UInt8.toNat_inj.1 (show wd[0].toNat = (61 : UInt8).toNat by show _ = 61;omega)]
 have q3 : ((bs[0].toNat : Int) != 61) = true := by rw [bne,q2];rfl
 clear hg0
 generalize hr : (if n < 1 ∨ (1 : Int) < n ∨ true = false then (3 : Int) else if 100 < wd.length then 10 else 0) = r
 have HR := hid1 hr
 clear hr
 by_cases h1 : n < 1
 ·have d1 : decide (n < (1 : Int)) = true := decide_eq_true h1
  go_enter Tryz.func39,Tryz.ntmps39
  go_wp2_with fail
  refine Calls.mono (HC.out) ?_
  rintro e w1 ⟨p,c,rfl,g1⟩
  go_wp2
  go_ret
  exact ⟨ret_eq (by rw [← HR.out,if_pos (.inl h1)];rfl),g1⟩
 have d1 : decide (n < (1 : Int)) = false := decide_eq_false h1
 by_cases h2 : (1 : Int) < n
 ·have d2 : decide ((1 : Int) < n) = true := decide_eq_true h2
  go_enter Tryz.func39,Tryz.ntmps39
  go_wp2_with fail
  refine Calls.mono (HC.out) ?_
  rintro e w1 ⟨p,c,rfl,g1⟩
  go_wp2
  go_ret
  exact ⟨ret_eq (by rw [← HR.out,if_pos (.inr (.inl h2))];rfl),g1⟩
 have d2 : decide ((1 : Int) < n) = false := decide_eq_false h2
 have hno : ¬ (n < 1 ∨ (1 : Int) < n ∨ true = false) := by simp;omega
 by_cases h4 : 100 < wd.length
 ·have d4 : decide ((100 : Int) < (wd.length : Int)) = true := decide_eq_true (by omega)
  have d4b : decide ((100 : Int) < (bs.size : Int)) = true := by rw [T.size];exact d4
  go_enter Tryz.func39,Tryz.ntmps39
  go_wp2_with fail
  refine Calls.mono (HC.out) ?_
  rintro e w1 ⟨p,c,rfl,g1⟩
  go_wp2
  go_ret
  exact ⟨ret_eq (by rw [← HR.out,if_neg hno,if_pos h4];rfl),g1⟩
 ·have d4 : decide ((100 : Int) < (wd.length : Int)) = false := decide_eq_false (by omega)
  have d4b : decide ((100 : Int) < (bs.size : Int)) = false := by rw [T.size];exact d4
  go_enter Tryz.func39,Tryz.ntmps39
  go_wp2_with fail
  refine Calls.mono (HC.out) ?_
  rintro e w1 ⟨p,c,rfl,g1⟩
  go_wp2
  go_ret
  exact ⟨ret_eq (by rw [← HR.out,if_neg hno,if_neg h4];rfl),g1⟩
theorem kindOf_none_ne {nm : List UInt8} (h : Af.kindOf nm = none) (k : Kd) : (nm == k.name) = false := by
 rw [beq_eq_false_iff_ne]
 rintro rfl
 rw [Af.kindOf_name] at h
 cases h
theorem actErr_none (nm wd : List UInt8) (n : Int) (w : World) (h : Af.kindOf nm = none) :
  Calls Tryz.prog 39 #[.string (ba nm),.string (ba wd),.int .i64 n] w fun e w' => e = .returned (.int .i64 5) ∧ Below w.heap.size w w' := by
 have h1 := kindOf_none_ne h .write
 have h2 := kindOf_none_ne h .join
 have h3 := kindOf_none_ne h .upper
 have h4 := kindOf_none_ne h .lines
 have h5 := kindOf_none_ne h .sort
 have h6 := kindOf_none_ne h .count
 have h7 := kindOf_none_ne h .swap
 have h8 := kindOf_none_ne h .head
 simp only [Af.Kd.name] at h1 h2 h3 h4 h5 h6 h7 h8
 clear h
 go_enter Tryz.func39,Tryz.ntmps39
 go_wp2
 go_ret
 exact ⟨rfl,Below.refl _ _⟩
theorem actE_kind (k : Kd) (wd : List UInt8) (n : Int) : Af.actE k.name wd n = (if n < k.least ∨ (k.most : Int) < n ∨ k.takes wd = false then 3 else if 100 < wd.length then 10 else 0) := by
 simp [Af.actE,Af.kindOf_name]
theorem as_nat (p q : Prop) [Decidable p] [Decidable q] : (if p then (3 : Int) else if q then 10 else 0) = ((if p then 3 else if q then 10 else 0 : Nat) : Int) := by
 split
 ·rfl
 ·split <;> rfl
theorem ActError_calls (nm wd : List UInt8) (n : Int) (hl : wd.length ≤ 1000000) (w : World) :
  Calls Tryz.prog 39 #[.string (ba nm),.string (ba wd),.int .i64 n] w fun e w' => e = .returned (.int .i64 (Af.actE nm wd n : Nat)) ∧ Below w.heap.size w w' := by
 cases hk : Af.kindOf nm with
 | none =>
  have e : Af.actE nm wd n = 5 := by simp [Af.actE,hk]
  rw [e]
  exact actErr_none nm wd n w hk
 | some k =>
  obtain rfl := Af.kindOf_some hk
  rw [actE_kind]
  have key : ∀ (b : Bool) (lo hi : Int),k.takes wd = b → (k.least : Int) = lo → (k.most : Int) = hi →
    (Calls Tryz.prog 39 #[.string (ba k.name),.string (ba wd),.int .i64 n] w fun e w' => e = .returned (.int .i64 (if n < lo ∨ hi < n ∨ b = false then 3 else if 100 < wd.length then 10 else 0)) ∧ Below w.heap.size w w') →
    Calls Tryz.prog 39 #[.string (ba k.name),.string (ba wd),.int .i64 n] w fun e w' => e = .returned (.int .i64 ((if n < k.least ∨ (k.most : Int) < n ∨ k.takes wd = false then 3 else if 100 < wd.length then 10 else 0 : Nat) : Int)) ∧ Below w.heap.size w w' := by
   intro b lo hi e1 e2 e3 H
   rw [e1,e2,e3,← as_nat]
   exact H
  cases k
  ·exact key true 0 0 rfl rfl rfl (actErr_write_t wd n hl w)
  ·exact key true 1 8 rfl rfl rfl (actErr_join_t wd n hl w)
  ·by_cases he : wd = []
   ·exact key true 1 1 (by subst he;rfl) rfl rfl (actErr_upper_t wd n hl w he)
   ·exact key false 1 1 (by simp [Af.Kd.takes,he]) rfl rfl (actErr_upper_f wd n hl w he)
  ·exact key true 1 1 rfl rfl rfl (actErr_lines_t wd n hl w)
  ·by_cases he : wd = []
   ·exact key true 1 8 (by subst he;rfl) rfl rfl (actErr_sort_t wd n hl w he)
   ·by_cases ho : wd = oncew
    ·exact key true 1 8 (by subst ho;rfl) rfl rfl (actErr_sort_o wd n hl w ho)
    ·exact key false 1 8 (by simp [Af.Kd.takes,he,ho]) rfl rfl (actErr_sort_f wd n hl w he ho)
  ·by_cases he : wd = []
   ·exact key true 1 8 (by subst he;rfl) rfl rfl (actErr_count_t wd n hl w he)
   ·exact key false 1 8 (by simp [Af.Kd.takes,he]) rfl rfl (actErr_count_f wd n hl w he)
  ·have hs := isSwap_cut wd
   by_cases he : (cutB 61 wd).length = 2
   ·by_cases hh : wd.head? = some 61
    ·exact key false 1 1 (by show Af.isSwap wd = false;rw [hs,he,hh];rfl) rfl rfl (actErr_swap_e wd n hl w he hh)
    ·exact key true 1 1 (by show Af.isSwap wd = true;rw [hs];simp [he,hh]) rfl rfl (actErr_swap_t wd n hl w he hh)
   ·exact key false 1 1 (by show Af.isSwap wd = false;rw [hs];simp [he]) rfl rfl (actErr_swap_n wd n hl w he)
  ·have hm := numJ_many wd
   cases hd : decide ((0 : Int) ≤ numJ wd) with
   | true => exact key true 1 1 (by show (numM 3 wd).isSome = true;rw [← hm];exact hd) rfl rfl (actErr_head_t wd n hl w hd)
   | false => exact key false 1 1 (by show (numM 3 wd).isSome = false;rw [← hm];exact hd) rfl rfl (actErr_head_f wd n hl w hd)
end Go.Proofs.YthchjnopgagilaaGreatDoor
