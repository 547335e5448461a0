/- Walks of package path's Check; small laws on worlds. -/
import Derived.Test.YtigcogfjclohjaaGreatDoorCheck
import Derived.WalkSmall
namespace Go.Proofs.YtigcogfjclohjaaGreatDoor
open Go.RowKit Go.Shelf Go.Lib

attribute [local go_sem] Oper.semAt_some

/-- A text is a path. -/
def pathB (s : List UInt8) : Bool := allB (nameK letter) (Kf.parts s)

theorem lt_of_cell {w : World} {a : Addr} {v : Value} (h : w.cell? a = some v) : a.block < w.heap.size := by
  rcases Nat.lt_or_ge a.block w.heap.size with h' | h'
  · exact h'
  · simp [World.cell?, Array.getElem?_eq_none h'] at h

theorem Check_yes (s : List UInt8) (hs : s.length ≤ 1000000) (h : pathB s = true) (w : World) :
    Calls Tryz.prog 62 #[.string (ba s)] w fun e w' => e = .returned .nilIface ∧ Below w.heap.size w w' := by
  have H : Hid (allB (nameK letter) (Kf.parts s) = true) := h
  clear h
  go_enter Tryz.func62, Tryz.ntmps62
  go_wp2_with fail
  refine (callsIn_wide.1 (allParts_in 3 (by omega) 88 (nameK letter) isName_well s hs _)).mono ?_
  rintro e w' ⟨rfl, hb⟩
  rw [H.out]
  go_wp2
  go_ret
  exact ⟨rfl, hb⟩

theorem Check_no (s : List UInt8) (hs : s.length ≤ 1000000) (h : pathB s = false) (w : World) (t : TypeId) (u : Value) (hg : w.cell? ⟨5, 0, none⟩ = some (.iface t u)) :
    Calls Tryz.prog 62 #[.string (ba s)] w fun e w' => e = .returned (.iface t u) ∧ Below w.heap.size w w' := by
  have H : Hid (allB (nameK letter) (Kf.parts s) = false) := h
  clear h
  go_enter Tryz.func62, Tryz.ntmps62
  go_wp2_with fail
  refine (callsIn_wide.1 (allParts_in 3 (by omega) 88 (nameK letter) isName_well s hs _)).mono ?_
  rintro e w' ⟨rfl, hb⟩
  rw [H.out]
  have hg' := (hb.cell (p := ⟨5, 0, none⟩) (lt_of_cell hg)).trans hg
  go_wp2
  go_ret
  exact ⟨rfl, hb⟩

theorem ba_append (a b : List UInt8) : ba a ++ ba b = ba (a ++ b) := ba_eq (by simp)
theorem cell_below' {w w' : World} {a : Addr} {v : Value} (h : w.cell? a = some v) (hb : Below w.heap.size w w') : w'.cell? a = some v := (hb.cell (p := a) (lt_of_cell h)).trans h
theorem below_draws {B : Nat} {a w : World} (h : Below B a w) (q : Nat) : Below B a (w.drewN q) := h.trans ⟨rfl, rfl, rfl, Nat.le_refl _, fun _ _ => rfl⟩
end Go.Proofs.YtigcogfjclohjaaGreatDoor
