/- Small laws on rows of texts that a call makes. -/
import Derived.Test.YtigcogfjclohjaaGreatDoorPCheck
import Derived.WalkSmall
namespace Go.Proofs.YtigcogfjclohjaaGreatDoor
open Go.RowKit Go.Shelf Go.Lib

theorem Tryz.infoStr : (Tryz.prog.info? 9).map (fun i => (i.zero, i.size, i.bytes)) = some (some (.string ⟨#[]⟩), 1, 16) := by kernel_rfl

theorem boxed_appended {W w1 : World} {n₀ B B' : Nat} {t e : TypeId} {size : Nat} {u v v' : Value} {k : Nat} {xs : List Value} {tmp : Obj}
    (h : Boxed W B' t u) (ht : t ≠ e) (hrow : W.ownsRow n₀ e size v k xs) (hgrow : (W.alloc tmp).grownBy w1 v.ownBlock) (hne : B' ≠ B) : Boxed (w1.setCell ⟨B, 0, none⟩ v') B' t u :=
  ((h.alloc tmp).kept hgrow (h.not_row ht hrow)).other hne v'

abbrev sv (x : List UInt8) : Value := Value.string (ba x)
theorem ret_eq {a b : Value} (h : a = b) : Ending.returned a = .returned b := by rw [h]
theorem owns_cells {w : World} {base : Nat} {g cap : Nat} {a : List (List UInt8)} (h : w.ownsRow base 9 1 (.slice (some ⟨g, 0, none⟩) a.length cap) a.length (a.map sv)) :
    (∀ (j : Nat) x, (a.map ba)[j]? = some x → w.cell? ⟨g, 0 + j, none⟩ = some (.string x)) ∧ g < w.heap.size ∧ a.length ≤ cap := by
  rcases h.2 with ⟨h', _⟩ | ⟨g', cap', cur, hv, _, hg, hn, _, hsz, ht⟩
  · cases h'
  · cases hv
    refine ⟨fun j x hj => ?_, (Array.getElem?_eq_some_iff.1 hg).1, hn⟩
    have hjl : j < a.length := by
      have := (List.getElem?_eq_some_iff.1 hj).1
      simpa using this
    have h1 : (cur.toList.take (a.length * 1))[j]? = some (.string x) := by
      rw [ht]
      rw [List.getElem?_map] at hj ⊢
      cases ha : a[j]? with
      | none => rw [ha] at hj; simp at hj
      | some y => rw [ha] at hj; simp at hj; subst hj; rfl
    rw [List.getElem?_take_of_lt (by omega)] at h1
    simp only [World.cell?, hg, Nat.zero_add]
    simpa using h1

end Go.Proofs.YtigcogfjclohjaaGreatDoor
