/- The walk of package path's fitParts where no pattern is left, where it begins with two stars alone, and where no name is left. -/
import Derived.Test.YtpkkhabiheobnaaDoorFitRow
namespace Go.Proofs.YtpkkhabiheobnaaDoor
open Go.RowKit Go.Shelf Go.Lib

set_option maxHeartbeats 4000000 in
theorem fit_none (p : List UInt8) (ps : List (List UInt8)) (g o cap g' o' cap' : Nat) (w : World)
    (hb : (p == [42, 42]) = false) (hpl : ps.length ≤ 1000)
    (hc0 : w.cell? ⟨g, o, none⟩ = some (.string (ba p))) :
    Calls Tryd.prog 33 #[.slice (some ⟨g, o, none⟩) (ps.length + 1) cap, .slice (some ⟨g', o', none⟩) 0 cap'] w fun e w' => e = .returned (.bool false) ∧ Below w.heap.size w w' := by
  have hpl0 : (((ps.length : Int) + 1) == 0) = false := by simp; omega
  go_enter Tryd.func33, Tryd.ntmps33
  go_wp2
  go_quiet (fail)
  go_wp2
  go_ret
  exact ⟨rfl, below_draws (Below.refl _ _) _⟩

set_option maxHeartbeats 4000000 in
theorem fit_nil (nl : Nat) (g o cap g' o' cap' : Nat) (w : World) :
    Calls Tryd.prog 33 #[.slice (some ⟨g, o, none⟩) 0 cap, .slice (some ⟨g', o', none⟩) nl cap'] w fun e w' => e = .returned (.bool (decide (nl = 0))) ∧ Below w.heap.size w w' := by
  by_cases h : nl = 0
  · subst h
    go_enter Tryd.func33, Tryd.ntmps33
    go_wp2
    go_ret
    exact ⟨rfl, Below.refl _ _⟩
  · have hl : ((nl : Int) == 0) = false := by simp; omega
    have HD : Hid (decide (nl = 0) = false) := by
      show decide (nl = 0) = false
      simpa using h
    clear h
    go_enter Tryd.func33, Tryd.ntmps33
    go_wp2
    go_ret
    exact ⟨ret_bool HD.out.symm, Below.refl _ _⟩

/-- Where a slice begins behind its first element. -/
def At1 (o cap o1 : Nat) : Prop := (cap = 1 ∧ o1 = o) ∨ (¬ cap = 1 ∧ o1 = o + 1)
theorem at1 (o cap : Nat) : ∃ o1, At1 o cap o1 := by
  by_cases h : cap = 1
  · exact ⟨o, .inl ⟨h, rfl⟩⟩
  · exact ⟨o + 1, .inr ⟨h, rfl⟩⟩

set_option maxHeartbeats 4000000 in
theorem fit_stars_yes (pn nl : Nat) (g o cap o1 g' o' cap' : Nat) (ho : At1 o cap o1) (w : World)
    (pc : pn + 1 ≤ cap) (hpl : pn ≤ 1000)
    (hc0 : w.cell? ⟨g, o, none⟩ = some (.string (ba [42, 42])))
    (HI : Hid (Calls Tryd.prog 33 #[.slice (some ⟨g, o1, none⟩) pn (cap - 1), .slice (some ⟨g', o', none⟩) nl cap'] w fun e w' => e = .returned (.bool true) ∧ Below w.heap.size w w')) :
    Calls Tryd.prog 33 #[.slice (some ⟨g, o, none⟩) (pn + 1) cap, .slice (some ⟨g', o', none⟩) nl cap'] w fun e w' => e = .returned (.bool true) ∧ Below w.heap.size w w' := by
  have hpl0 : (((pn : Int) + 1) == 0) = false := by simp; omega
  have pc' : (pn : Int) + 1 ≤ (cap : Int) := by omega
  rcases ho with ⟨rfl, rfl⟩ | ⟨h1, rfl⟩
  · obtain rfl : pn = 0 := by omega
    clear pc pc' hpl hpl0
    go_enter Tryd.func33, Tryd.ntmps33
    go_wp2_with fail
    refine HI.out.mono ?_
    rintro e w1 ⟨rfl, hb1⟩
    go_wp2
    go_ret
    exact ⟨rfl, hb1⟩
  · go_enter Tryd.func33, Tryd.ntmps33
    go_wp2_with fail
    refine HI.out.mono ?_
    rintro e w1 ⟨rfl, hb1⟩
    go_wp2
    go_ret
    exact ⟨rfl, hb1⟩

set_option maxHeartbeats 4000000 in
theorem fit_stars_end (pn : Nat) (g o cap o1 g' o' cap' : Nat) (ho : At1 o cap o1) (w : World)
    (pc : pn + 1 ≤ cap) (hpl : pn ≤ 1000)
    (hc0 : w.cell? ⟨g, o, none⟩ = some (.string (ba [42, 42])))
    (HI : Hid (Calls Tryd.prog 33 #[.slice (some ⟨g, o1, none⟩) pn (cap - 1), .slice (some ⟨g', o', none⟩) 0 cap'] w fun e w' => e = .returned (.bool false) ∧ Below w.heap.size w w')) :
    Calls Tryd.prog 33 #[.slice (some ⟨g, o, none⟩) (pn + 1) cap, .slice (some ⟨g', o', none⟩) 0 cap'] w fun e w' => e = .returned (.bool false) ∧ Below w.heap.size w w' := by
  have hpl0 : (((pn : Int) + 1) == 0) = false := by simp; omega
  have pc' : (pn : Int) + 1 ≤ (cap : Int) := by omega
  rcases ho with ⟨rfl, rfl⟩ | ⟨h1, rfl⟩
  · obtain rfl : pn = 0 := by omega
    clear pc pc' hpl hpl0
    go_enter Tryd.func33, Tryd.ntmps33
    go_wp2_with fail
    refine HI.out.mono ?_
    rintro e w1 ⟨rfl, hb1⟩
    go_wp2
    go_ret
    exact ⟨rfl, hb1⟩
  · go_enter Tryd.func33, Tryd.ntmps33
    go_wp2_with fail
    refine HI.out.mono ?_
    rintro e w1 ⟨rfl, hb1⟩
    go_wp2
    go_ret
    exact ⟨rfl, hb1⟩

set_option maxHeartbeats 4000000 in
theorem fit_stars_on (pn nn : Nat) (g o cap o1 g' o' cap' o2 : Nat) (b : Bool) (ho : At1 o cap o1) (ho' : At1 o' cap' o2) (w : World)
    (pc : pn + 1 ≤ cap) (hpl : pn ≤ 1000) (nc : nn + 1 ≤ cap') (hnl : nn ≤ 1000)
    (hc0 : w.cell? ⟨g, o, none⟩ = some (.string (ba [42, 42])))
    (HI : Hid (Calls Tryd.prog 33 #[.slice (some ⟨g, o1, none⟩) pn (cap - 1), .slice (some ⟨g', o', none⟩) (nn + 1) cap'] w fun e w' => e = .returned (.bool false) ∧ Below w.heap.size w w'))
    (HJ : Hid (∀ W, Below w.heap.size w W → Calls Tryd.prog 33 #[.slice (some ⟨g, o, none⟩) (pn + 1) cap, .slice (some ⟨g', o2, none⟩) nn (cap' - 1)] W fun e w' => e = .returned (.bool b) ∧ Below W.heap.size W w')) :
    Calls Tryd.prog 33 #[.slice (some ⟨g, o, none⟩) (pn + 1) cap, .slice (some ⟨g', o', none⟩) (nn + 1) cap'] w fun e w' => e = .returned (.bool b) ∧ Below w.heap.size w w' := by
  have hpl0 : (((pn : Int) + 1) == 0) = false := by simp; omega
  have pc' : (pn : Int) + 1 ≤ (cap : Int) := by omega
  have nc' : (nn : Int) + 1 ≤ (cap' : Int) := by omega
  have hnp : (0 : Int) < (nn : Int) + 1 := by omega
  rcases ho with ⟨rfl, rfl⟩ | ⟨h1, rfl⟩ <;> rcases ho' with ⟨rfl, rfl⟩ | ⟨h2, rfl⟩
  · obtain rfl : pn = 0 := by omega
    obtain rfl : nn = 0 := by omega
    clear pc pc' hpl hpl0 nc nc' hnl hnp
    go_enter Tryd.func33, Tryd.ntmps33
    go_wp2_with fail
    refine HI.out.mono ?_
    rintro e w1 ⟨rfl, hb1⟩
    go_wp2_with fail
    refine (HJ.out w1 hb1).mono ?_
    rintro e w2 ⟨rfl, hb2⟩
    go_wp2
    go_ret
    exact ⟨rfl, hb1.trans (hb2.mono hb1.size)⟩
  · obtain rfl : pn = 0 := by omega
    clear pc pc' hpl hpl0
    go_enter Tryd.func33, Tryd.ntmps33
    go_wp2_with fail
    refine HI.out.mono ?_
    rintro e w1 ⟨rfl, hb1⟩
    go_wp2_with fail
    refine (HJ.out w1 hb1).mono ?_
    rintro e w2 ⟨rfl, hb2⟩
    go_wp2
    go_ret
    exact ⟨rfl, hb1.trans (hb2.mono hb1.size)⟩
  · obtain rfl : nn = 0 := by omega
    clear nc nc' hnl hnp
    go_enter Tryd.func33, Tryd.ntmps33
    go_wp2_with fail
    refine HI.out.mono ?_
    rintro e w1 ⟨rfl, hb1⟩
    go_wp2_with fail
    refine (HJ.out w1 hb1).mono ?_
    rintro e w2 ⟨rfl, hb2⟩
    go_wp2
    go_ret
    exact ⟨rfl, hb1.trans (hb2.mono hb1.size)⟩
  · skip
    go_enter Tryd.func33, Tryd.ntmps33
    go_wp2_with fail
    refine HI.out.mono ?_
    rintro e w1 ⟨rfl, hb1⟩
    go_wp2_with fail
    refine (HJ.out w1 hb1).mono ?_
    rintro e w2 ⟨rfl, hb2⟩
    go_wp2
    go_ret
    exact ⟨rfl, hb1.trans (hb2.mono hb1.size)⟩
end Go.Proofs.YtpkkhabiheobnaaDoor
