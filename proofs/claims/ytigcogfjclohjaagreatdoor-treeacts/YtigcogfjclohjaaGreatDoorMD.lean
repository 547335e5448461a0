/- The walk of package path's fitParts where the first names fit. -/
import Derived.Test.YtigcogfjclohjaaGreatDoorM8
import Derived.Test.YtigcogfjclohjaaGreatDoorMC
import Derived.Test.YtigcogfjclohjaaGreatDoorM7
namespace Go.Proofs.YtigcogfjclohjaaGreatDoor
open Go.RowKit Go.Shelf Go.Lib

theorem fit_true (p n : List UInt8) (pn nn : Nat) (g o cap o1 g' o' cap' o2 : Nat) (ho : At1 o cap o1) (ho' : At1 o' cap' o2) (b : Bool) (w : World)
    (hb : (p == [42, 42]) = false) (pc : pn + 1 ≤ cap) (nc : nn + 1 ≤ cap') (hpl : pn ≤ 1000) (hnl : nn ≤ 1000)
    (hc0 : w.cell? ⟨g, o, none⟩ = some (.string (ba p))) (hd0 : w.cell? ⟨g', o', none⟩ = some (.string (ba n)))
    (HC : Hid (∀ W, Below w.heap.size w W → Calls Tryz.prog 96 #[.string (ba p), .string (ba n)] W fun e w' => e = .returned (.bool true) ∧ Below W.heap.size W w'))
    (HI : Hid (∀ W, Below w.heap.size w W → Calls Tryz.prog 69 #[.slice (some ⟨g, o1, none⟩) pn (cap - 1), .slice (some ⟨g', o2, none⟩) nn (cap' - 1)] W fun e w' => e = .returned (.bool b) ∧ Below W.heap.size W w')) :
    Calls Tryz.prog 69 #[.slice (some ⟨g, o, none⟩) (pn + 1) cap, .slice (some ⟨g', o', none⟩) (nn + 1) cap'] w fun e w' => e = .returned (.bool b) ∧ Below w.heap.size w w' := by
  rcases ho with ⟨rfl, rfl⟩ | ⟨h1, rfl⟩ <;> rcases ho' with ⟨rfl, rfl⟩ | ⟨h2, rfl⟩
  · obtain rfl : pn = 0 := by omega
    obtain rfl : nn = 0 := by omega
    exact fit_trueA p n g _ g' _ b w hb hc0 hd0 HC HI
  · obtain rfl : pn = 0 := by omega
    exact fit_trueB p n nn g _ g' o' cap' b w hb h2 nc hnl hc0 hd0 HC HI
  · obtain rfl : nn = 0 := by omega
    exact fit_trueC p n pn g o cap g' _ b w hb h1 pc hpl hc0 hd0 HC HI
  · exact fit_trueD p n pn nn g o cap g' o' cap' b w hb h1 pc hpl h2 nc hnl hc0 hd0 HC HI
end Go.Proofs.YtigcogfjclohjaaGreatDoor
/- The walk of package path's fitParts where the first names do not fit. -/
namespace Go.Proofs.YtigcogfjclohjaaGreatDoor
open Go.RowKit Go.Shelf Go.Lib

set_option maxHeartbeats 4000000 in
theorem fit_false (p n : List UInt8) (ps ns : List (List UInt8)) (g o cap g' o' cap' : Nat) (w : World)
    (hb : (p == [42, 42]) = false) (hpl : ps.length ≤ 1000) (hnl : ns.length ≤ 1000)
    (hc0 : w.cell? ⟨g, o, none⟩ = some (.string (ba p))) (hd0 : w.cell? ⟨g', o', none⟩ = some (.string (ba n)))
    (HC : Hid (∀ W, Below w.heap.size w W → Calls Tryz.prog 96 #[.string (ba p), .string (ba n)] W fun e w' => e = .returned (.bool false) ∧ Below W.heap.size W w')) :
    Calls Tryz.prog 69 #[.slice (some ⟨g, o, none⟩) (ps.length + 1) cap, .slice (some ⟨g', o', none⟩) (ns.length + 1) cap'] w fun e w' => e = .returned (.bool false) ∧ Below w.heap.size w w' := by
  have hpl0 : (((ps.length : Int) + 1) == 0) = false := by simp; omega
  have hnp : (0 : Int) < (ns.length : Int) + 1 := by omega
  go_enter Tryz.func69, Tryz.ntmps69
  go_wp2
  first | go_region_with (go_at_call 96; refine (HC.out _ (by exact (Below.refl _ w).drew)).mono ?_; rintro e w1 ⟨rfl, hb1⟩) | fail
  all_goals
    go_wp2
    go_ret
    exact ⟨rfl, (Below.refl _ w).drew.trans (by assumption)⟩
end Go.Proofs.YtigcogfjclohjaaGreatDoor
/- What package path's fitParts answers, whatever the parts. -/
namespace Go.Proofs.YtigcogfjclohjaaGreatDoor
open Go.RowKit Go.Shelf Go.Lib

theorem Row.tail {w : World} {g o cap o1 : Nat} {p : List UInt8} {ps : List (List UInt8)} (ho : At1 o cap o1) (hle : ps.length + 1 ≤ cap) (hg : g < w.heap.size)
    (hc : ∀ (j : Nat) (h : j < (p :: ps).length), w.cell? ⟨g, o + j, none⟩ = some (.string (ba (p :: ps)[j]))) : Row w (.slice (some ⟨g, o1, none⟩) ps.length (cap - 1)) ps := by
  refine ⟨g, o1, cap - 1, rfl, by omega, hg, fun j hj => ?_⟩
  rcases ho with ⟨h1, rfl⟩ | ⟨h1, rfl⟩
  · omega
  · have := hc (j + 1) (by simpa using hj)
    rw [show o + 1 + j = o + (j + 1) by omega]
    simpa using this

theorem fitOk : ∀ f, FitOk f
  | 0 => fun pat names pv nv m w h => by omega
  | f + 1 => by
    intro pat names pv nv m w hf hp hn hpl hnl hm hP hN
    have IH := fitOk f
    have hP' := hP
    have hN' := hN
    obtain ⟨g, o, cap, rfl, hpc, hg, hpcell⟩ := hP
    obtain ⟨g', o', cap', rfl, hnc, hg', hncell⟩ := hN
    cases pat with
    | nil =>
      refine (fit_nil names.length g o cap g' o' cap' w).mono ?_
      rintro e w' ⟨rfl, hb⟩
      refine ⟨ret_bool ?_, hb⟩
      cases names <;> simp [fitL]
    | cons p ps =>
      obtain ⟨o1, ho⟩ := at1 o cap
      have hR := Row.tail ho hpc hg hpcell
      have hc0 : w.cell? ⟨g, o, none⟩ = some (.string (ba p)) := hpcell 0 (by simp)
      have hps : ∀ x ∈ ps, x.length ≤ 1000000 := fun x hx => hp x (by simp [hx])
      have hpl' : ps.length ≤ 1000 := by simp at hpl; omega
      simp only [List.length_cons] at hf
      by_cases h2 : p = [42, 42]
      · subst h2
        have I1 := IH ps names _ _ m w (by omega) hps hn hpl' hnl hm hR hN'
        cases hb1 : fitL f ps names with
        | true =>
          rw [hb1] at I1
          have e : fitL (f + 1) ([42, 42] :: ps) names = true := by simp [fitL, hb1]
          rw [e]
          exact fit_stars_yes ps.length names.length g o cap o1 g' o' cap' ho w hpc hpl' hc0 I1
        | false =>
          rw [hb1] at I1
          cases names with
          | nil =>
            have e : fitL (f + 1) ([42, 42] :: ps) [] = false := by simp [fitL, hb1]
            rw [e]
            exact fit_stars_end ps.length g o cap o1 g' o' cap' ho w hpc hpl' hc0 I1
          | cons n ns =>
            obtain ⟨o2, ho'⟩ := at1 o' cap'
            have hS := Row.tail ho' hnc hg' hncell
            have hnl' : ns.length ≤ 1000 := by simp at hnl; omega
            have hns : ∀ x ∈ ns, x.length ≤ 1000000 := fun x hx => hn x (by simp [hx])
            simp only [List.length_cons] at hf
            have e : fitL (f + 1) ([42, 42] :: ps) (n :: ns) = fitL f ([42, 42] :: ps) ns := by simp [fitL, hb1]
            rw [e]
            exact fit_stars_on ps.length ns.length g o cap o1 g' o' cap' o2 _ ho ho' w hpc hpl' hnc hnl' hc0 I1
              (fun W hW => IH ([42, 42] :: ps) ns _ _ m W (by simp only [List.length_cons]; omega) hp hns hpl hnl' (cell_below' hm hW) (hP'.below hW) (hS.below hW))
      · have hb : (p == [42, 42]) = false := by simpa using h2
        cases names with
        | nil =>
          have e : fitL (f + 1) (p :: ps) [] = false := by simp [fitL, h2]
          rw [e]
          exact fit_none p ps g o cap g' o' cap' w hb hpl' hc0
        | cons n ns =>
          obtain ⟨o2, ho'⟩ := at1 o' cap'
          have hS := Row.tail ho' hnc hg' hncell
          have hnl' : ns.length ≤ 1000 := by simp at hnl; omega
          have hns : ∀ x ∈ ns, x.length ≤ 1000000 := fun x hx => hn x (by simp [hx])
          have hd0 : w.cell? ⟨g', o', none⟩ = some (.string (ba n)) := hncell 0 (by simp)
          simp only [List.length_cons] at hf
          have hfn : ∀ W, Below w.heap.size w W → Calls Tryz.prog 96 #[.string (ba p), .string (ba n)] W fun e w' => e = .returned (.bool (fitN p n)) ∧ Below W.heap.size W w' := fun W hW =>
            fitName_calls p n (hp p (by simp)) (hn n (by simp)) m W (cell_below' hm hW)
          have e : fitL (f + 1) (p :: ps) (n :: ns) = (fitN p n && fitL f ps ns) := by simp [fitL, h2]
          rw [e]
          cases hbn : fitN p n with
          | false =>
            rw [hbn] at hfn
            rw [Bool.false_and]
            exact fit_false p n ps ns g o cap g' o' cap' w hb hpl' hnl' hc0 hd0 hfn
          | true =>
            rw [hbn] at hfn
            rw [Bool.true_and]
            exact fit_true p n ps.length ns.length g o cap o1 g' o' cap' o2 ho ho' _ w hb hpc hnc hpl' hnl' hc0 hd0 hfn
              (fun W hW => IH ps ns _ _ m W (by omega) hps hns hpl' hnl' (cell_below' hm hW) (hR.below hW) (hS.below hW))
end Go.Proofs.YtigcogfjclohjaaGreatDoor
