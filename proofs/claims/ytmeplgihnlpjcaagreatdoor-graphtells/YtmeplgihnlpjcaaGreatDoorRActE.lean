/- The document's answer's ActError, at whatever command. -/
import Derived.Test.YtmeplgihnlpjcaaGreatDoorRActErr
import Derived.Test.YtmeplgihnlpjcaaGreatDoorMG7
namespace Go.Proofs.YtmeplgihnlpjcaaGreatDoor
open Go.RowKit Go.Shelf Go.Lib
open Af (Kd)

theorem kindOf_none_ne {nm : List UInt8} (h : Af.kindOf nm = none) (k : Kd) : (nm == k.name) = false := by
  rw [beq_eq_false_iff_ne]
  rintro rfl
  rw [Af.kindOf_name] at h
  cases h

set_option maxRecDepth 100000 in
set_option maxHeartbeats 8000000 in
theorem actErr_none (nm wd : List UInt8) (n : Int) (w : World) (h : Af.kindOf nm = none) :
    Calls Tryz.prog 53 #[.string (ba nm), .string (ba wd), .int .i64 n] w fun e w' => e = .returned (.int .i64 5) ∧ Below w.heap.size w w' := by
  have h1 := kindOf_none_ne h .write
  have h2 := kindOf_none_ne h .join
  have h3 := kindOf_none_ne h .upper
  have h4 := kindOf_none_ne h .lines
  have h5 := kindOf_none_ne h .sort
  have h6 := kindOf_none_ne h .count
  have h7 := kindOf_none_ne h .swap
  have h8 := kindOf_none_ne h .head
  simp only [Af.Kd.name] at h1 h2 h3 h4 h5 h6 h7 h8
  clear h
  go_enter Tryz.func53, Tryz.ntmps53
  go_wp2
  go_ret
  exact ⟨rfl, Below.refl _ _⟩

theorem actE_kind (k : Kd) (wd : List UInt8) (n : Int) : Af.actE k.name wd n = (if n < k.least ∨ (k.most : Int) < n ∨ k.takes wd = false then 3 else if 100 < wd.length then 10 else 0) := by
  simp [Af.actE, Af.kindOf_name]
theorem as_nat (p q : Prop) [Decidable p] [Decidable q] : (if p then (3 : Int) else if q then 10 else 0) = ((if p then 3 else if q then 10 else 0 : Nat) : Int) := by
  split
  · rfl
  · split <;> rfl

theorem ActError_calls (nm wd : List UInt8) (n : Int) (hl : wd.length ≤ 1000000) (w : World) :
    Calls Tryz.prog 53 #[.string (ba nm), .string (ba wd), .int .i64 n] w fun e w' => e = .returned (.int .i64 (Af.actE nm wd n : Nat)) ∧ Below w.heap.size w w' := by
  cases hk : Af.kindOf nm with
  | none =>
    have e : Af.actE nm wd n = 5 := by simp [Af.actE, hk]
    rw [e]
    exact actErr_none nm wd n w hk
  | some k =>
    obtain rfl := Af.kindOf_some hk
    rw [actE_kind]
    have key : ∀ (b : Bool) (lo hi : Int), k.takes wd = b → (k.least : Int) = lo → (k.most : Int) = hi →
        (Calls Tryz.prog 53 #[.string (ba k.name), .string (ba wd), .int .i64 n] w fun e w' => e = .returned (.int .i64 (if n < lo ∨ hi < n ∨ b = false then 3 else if 100 < wd.length then 10 else 0)) ∧ Below w.heap.size w w') →
        Calls Tryz.prog 53 #[.string (ba k.name), .string (ba wd), .int .i64 n] w fun e w' => e = .returned (.int .i64 ((if n < k.least ∨ (k.most : Int) < n ∨ k.takes wd = false then 3 else if 100 < wd.length then 10 else 0 : Nat) : Int)) ∧ Below w.heap.size w w' := by
      intro b lo hi e1 e2 e3 H
      rw [e1, e2, e3, ← as_nat]
      exact H
    cases k
    · exact key true 0 0 rfl rfl rfl (actErr_write_t wd n hl w)
    · exact key true 1 8 rfl rfl rfl (actErr_join_t wd n hl w)
    · by_cases he : wd = []
      · exact key true 1 1 (by subst he; rfl) rfl rfl (actErr_upper_t wd n hl w he)
      · exact key false 1 1 (by simp [Af.Kd.takes, he]) rfl rfl (actErr_upper_f wd n hl w he)
    · exact key true 1 1 rfl rfl rfl (actErr_lines_t wd n hl w)
    · by_cases he : wd = []
      · exact key true 1 8 (by subst he; rfl) rfl rfl (actErr_sort_t wd n hl w he)
      · by_cases ho : wd = oncew
        · exact key true 1 8 (by subst ho; rfl) rfl rfl (actErr_sort_o wd n hl w ho)
        · exact key false 1 8 (by simp [Af.Kd.takes, he, ho]) rfl rfl (actErr_sort_f wd n hl w he ho)
    · by_cases he : wd = []
      · exact key true 1 8 (by subst he; rfl) rfl rfl (actErr_count_t wd n hl w he)
      · exact key false 1 8 (by simp [Af.Kd.takes, he]) rfl rfl (actErr_count_f wd n hl w he)
    · have hs := isSwap_cut wd
      by_cases he : (cutB 61 wd).length = 2
      · by_cases hh : wd.head? = some 61
        · exact key false 1 1 (by show Af.isSwap wd = false; rw [hs, he, hh]; rfl) rfl rfl (actErr_swap_e wd n hl w he hh)
        · exact key true 1 1 (by show Af.isSwap wd = true; rw [hs]; simp [he, hh]) rfl rfl (actErr_swap_t wd n hl w he hh)
      · exact key false 1 1 (by show Af.isSwap wd = false; rw [hs]; simp [he]) rfl rfl (actErr_swap_n wd n hl w he)
    · have hm := numJ_many wd
      cases hd : decide ((0 : Int) ≤ numJ wd) with
      | true => exact key true 1 1 (by show (numM 3 wd).isSome = true; rw [← hm]; exact hd) rfl rfl (actErr_head_t wd n hl w hd)
      | false => exact key false 1 1 (by show (numM 3 wd).isSome = false; rw [← hm]; exact hd) rfl rfl (actErr_head_f wd n hl w hd)
end Go.Proofs.YtmeplgihnlpjcaaGreatDoor
