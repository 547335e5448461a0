/- Walks of package path's small functions: isLetter, madeOf, isName: a part is a name just where 'nameB' says so. -/
import Derived.RangeFuncNested
import Derived.RangeFuncBound
import Derived.RangeFuncCalls
import Derived.RangeFuncLeaves
import Derived.Shelf.Abstract
import Derived.Shelf.RegionOpen
import Derived.WalkKit
import Derived.OwnWalkIn
import Derived.TacticsInMore
import Derived.LoopNIn
import Derived.LoopIn
import Derived.Deep.QuietTactic
import Derived.BigQuiet
import Derived.Maps.AppendAt
import Derived.WalkLawsBesides
import Derived.Test.YtigcogfjclohjaaGreatDoorShelf
import Derived.Test.YtigcogfjclohjaaGreatDoorSpec
namespace Go.Proofs.YtigcogfjclohjaaGreatDoor
open Go.RowKit Go.Shelf Go.Lib

/-- A letter of a name. -/
def letter (x : Nat) : Bool := x == 45 || x == 46 || x == 95 || (decide (97 ≤ x) && decide (x ≤ 122)) || (decide (48 ≤ x) && decide (x ≤ 57))

theorem ret_bool {a b : Bool} (h : a = b) : Ending.returned (.bool a) = .returned (.bool b) := by rw [h]

set_option maxHeartbeats 1000000 in
theorem isLetter_calls (x : Nat) (w : World) :
    Calls Tryz.prog 95 #[.int .i32 x] w fun e w' => e = .returned (.bool (letter x)) ∧ ∃ q, w' = w.drewN q := by
  by_cases h1 : x = 45
  · subst h1
    go_enter Tryz.func95, Tryz.ntmps95
    go_wp2
    go_ret
    exact ⟨rfl, 0, rfl⟩
  by_cases h2 : x = 46
  · subst h2
    go_enter Tryz.func95, Tryz.ntmps95
    go_wp2
    go_ret
    exact ⟨rfl, 0, rfl⟩
  by_cases h3 : x = 95
  · subst h3
    go_enter Tryz.func95, Tryz.ntmps95
    go_wp2
    go_ret
    exact ⟨rfl, 0, rfl⟩
  have b1 : ((x : Int) == 45) = false := by simp; omega
  have b2 : ((x : Int) == 46) = false := by simp; omega
  have b3 : ((x : Int) == 95) = false := by simp; omega
  have fin : ∀ b : Bool, b = letter x → Ending.returned (.bool b) = .returned (.bool (letter x)) := fun b h => by rw [h]
  by_cases h4 : 97 ≤ x
  · have b4 : decide ((97 : Int) ≤ (x : Int)) = true := by simp; omega
    by_cases h5 : x ≤ 122
    · have b5 : decide ((x : Int) ≤ 122) = true := by simp; omega
      have e : letter x = true := by simp [letter]; omega
      go_enter Tryz.func95, Tryz.ntmps95
      go_wp2
      go_ret
      exact ⟨fin _ e.symm, 0, rfl⟩
    · have b5 : decide ((x : Int) ≤ 122) = false := by simp; omega
      have b6 : decide ((48 : Int) ≤ (x : Int)) = true := by simp; omega
      have b7 : decide ((x : Int) ≤ 57) = false := by simp; omega
      have e : letter x = false := by simp [letter]; omega
      go_enter Tryz.func95, Tryz.ntmps95
      go_wp2
      go_ret
      exact ⟨fin _ e.symm, 0, rfl⟩
  · have b4 : decide ((97 : Int) ≤ (x : Int)) = false := by simp; omega
    by_cases h6 : 48 ≤ x
    · have b6 : decide ((48 : Int) ≤ (x : Int)) = true := by simp; omega
      by_cases h7 : x ≤ 57
      · have b7 : decide ((x : Int) ≤ 57) = true := by simp; omega
        have e : letter x = true := by simp [letter]; omega
        go_enter Tryz.func95, Tryz.ntmps95
        go_wp2
        go_ret
        exact ⟨fin _ e.symm, 0, rfl⟩
      · have b7 : decide ((x : Int) ≤ 57) = false := by simp; omega
        have e : letter x = false := by simp [letter]; omega
        go_enter Tryz.func95, Tryz.ntmps95
        go_wp2
        go_ret
        exact ⟨fin _ e.symm, 0, rfl⟩
    · have b6 : decide ((48 : Int) ≤ (x : Int)) = false := by simp; omega
      have e : letter x = false := by simp [letter]; omega
      go_enter Tryz.func95, Tryz.ntmps95
      go_wp2
      go_ret
      exact ⟨fin _ e.symm, 0, rfl⟩

/-- A kind of letters, as a function value that captures nothing. -/
def KindIs (g : Nat) (p : Nat → Bool) : Prop :=
  (∀ args w, (callFunc g args).run Tryz.prog w = .ok (.enter g args) w) ∧
  ∀ (x : Nat) (W : World), Calls Tryz.prog g #[.int .i32 x] W fun e w' => e = .returned (.bool (p x)) ∧ ∃ q, w' = W.drewN q

theorem letter_kind : KindIs 95 letter := ⟨enters_of Tryz.func95 (by kernel_rfl) rfl, isLetter_calls⟩

set_option maxHeartbeats 1000000 in
theorem madeOf1_calls (g : Nat) (p : Nat → Bool) (hk : KindIs g p) (b : Nat) (x : Nat) (W : World) (hb : W.cell? ⟨b, 0, none⟩ = some (.func (.func g) #[] #[])) :
    Calls Tryz.prog 136 #[.int .i32 x, .pointer (some ⟨b, 0, none⟩)] W fun e w' => e = .returned (.bool !(p x)) ∧ ∃ q, w' = W.drewN q := by
  have eg := hk.1
  go_enter Tryz.func136, Tryz.ntmps136
  go_wp2_with fail
  refine (hk.2 x _).mono ?_
  rintro e w' ⟨rfl, q, rfl⟩
  go_wp2
  go_ret
  exact ⟨rfl, q, rfl⟩

/-- A part is a name of such letters. -/
def nameK (p : Nat → Bool) (s : ByteArray) : Bool :=
  !(decide (s.toList = [])) && decide (s.size ≤ 12) && !(decide (s.toList = [46])) && !(decide (s.toList = [46, 46])) && !(decide (0 ≤ Lib.idxFunc (fun x => !p x) true s))

set_option maxHeartbeats 1000000 in
theorem madeOf_calls (g : Nat) (p : Nat → Bool) (hk : KindIs g p) (s : ByteArray) (w : World) :
    Calls Tryz.prog 93 #[.string s, .func (.func g) #[] #[]] w fun e w' => e = .returned (.bool (nameK p s)) ∧ Below w.heap.size w w' := by
  have hB : Below w.heap.size w (w.alloc (.cells #[.func (.func g) #[] #[]] 154)) := (Below.refl _ w).alloc (Nat.le_refl _) _
  by_cases h1 : s.toList = []
  · have e : nameK p s = false := by simp [nameK, h1]
    go_enter Tryz.func93, Tryz.ntmps93
    go_wp2_with fail
    go_ret
    exact ⟨ret_bool e.symm, hB⟩
  have c1 : s.toList.isEmpty = false := by simpa using h1
  by_cases h2 : ¬ s.size ≤ 12
  · have e : nameK p s = false := by simp [nameK]; intros; omega
    have h2' : 12 < (s.size : Int) := by omega
    go_enter Tryz.func93, Tryz.ntmps93
    go_wp2_with fail
    go_ret
    exact ⟨ret_bool e.symm, hB⟩
  have h2 : s.size ≤ 12 := by omega
  have h2' : (s.size : Int) ≤ 12 := by omega
  by_cases h3 : s.toList = [46]
  · have e : nameK p s = false := by simp [nameK, h3]
    go_enter Tryz.func93, Tryz.ntmps93
    go_wp2_with fail
    go_ret
    exact ⟨ret_bool e.symm, hB⟩
  have c3 : (s.toList == [46]) = false := by simpa using h3
  by_cases h4 : s.toList = [46, 46]
  · have e : nameK p s = false := by simp [nameK, h4]
    have c4 : (s.toList == [46, 46]) = true := by simpa using h4
    go_enter Tryz.func93, Tryz.ntmps93
    go_wp2_with fail
    go_ret
    exact ⟨ret_bool e.symm, hB⟩
  have c4 : (s.toList == [46, 46]) = false := by simpa using h4
  have H : nameK p s = !(decide (0 ≤ Lib.idxFunc (fun x => !p x) true s)) := by simp [nameK, h1, h2, h3, h4]
  have HH : Hid (nameK p s = !(decide (0 ≤ Lib.idxFunc (fun x => !p x) true s))) := H
  clear H
  go_enter Tryz.func93, Tryz.ntmps93
  go_wp2_with fail
  refine (Tryz.strings_ContainsFunc_runes 136 #[.pointer (some ⟨w.heap.size, 0, none⟩)] (enters_of Tryz.func136 (by kernel_rfl) rfl) (fun x => !p x) s _ ?_).mono ?_
  · intro W x _ hb
    refine madeOf1_calls g p hk w.heap.size x W ?_
    rw [hb.cell (p := ⟨w.heap.size, 0, none⟩) (by simp)]
    simp
  · rintro e w' ⟨rfl, hb⟩
    go_wp2
    go_ret
    exact ⟨ret_bool HH.out.symm, hB.trans (hb.mono (by simp))⟩

theorem isName_calls (s : ByteArray) (w : World) :
    Calls Tryz.prog 88 #[.string s] w fun e w' => e = .returned (.bool (nameK letter s)) ∧ Below w.heap.size w w' := by
  go_enter Tryz.func88, Tryz.ntmps88
  go_wp2_with fail
  refine (madeOf_calls 95 letter letter_kind s _).mono ?_
  rintro e w' ⟨rfl, hb⟩
  go_wp2
  go_ret
  exact ⟨rfl, hb⟩
end Go.Proofs.YtigcogfjclohjaaGreatDoor
