/- The walk of package tree's Read at a text that is read. -/
import Derived.Test.YtigcogfjclohjaaGreatDoorTreeRead2
namespace Go.Proofs.YtigcogfjclohjaaGreatDoor
open Go.RowKit Go.Shelf Go.Lib Go.Maps
open Tf (Fs)

theorem well_len {fs : Fs} (h : Tf.Well pathB fs) : ∀ f ∈ fs, f.1.length ≤ 64 := by
  intro f hf
  have h1 := (h.each f hf).1
  unfold pathB allB at h1
  simp only [Bool.and_eq_true, decide_eq_true_eq, List.all_eq_true] at h1
  have h2 : ∀ x ∈ Kf.parts f.1, x.length ≤ 12 := fun x hx => by
    have := h1.2 x hx
    unfold nameK at this
    simp only [Bool.and_eq_true, decide_eq_true_eq] at this
    have e : (ba x).size = x.length := ba_size x
    revert this
    simp [e]
    omega
  have h3 := Kf.tot_parts f.1
  have h4 : Kf.tot (Kf.parts f.1) ≤ (Kf.parts f.1).length * 13 := by
    generalize Kf.parts f.1 = l at h2
    clear h1 h3
    induction l with
    | nil => simp [Kf.tot]
    | cons x r ih =>
      have := ih fun y hy => h2 y (List.mem_cons_of_mem _ hy)
      have := h2 x (by simp)
      simp [Kf.tot] at *
      omega
  omega
end Go.Proofs.YtigcogfjclohjaaGreatDoor
