/- Laws for a region that draws its order, over a frame that is a letter: an operation after the other. -/
import Derived.Test.YtigcogfjclohjaaGreatDoorALaw
import Derived.Deep.RegionHeld3
namespace Go.Proofs.YtigcogfjclohjaaGreatDoor
open Go.RowKit Go.Shelf Go.Lib

section
variable {P : Program} {md : Region.Mode} {ops : Array Oper} {Q : Exit → Act → World → Prop} {S S' : World → Prop}
/-- The condition on the world may be made stronger on the way. -/
theorem wpAnyH_mono (h : ∀ w, S' w → S w) : ∀ (fuel : Nat) (listed : Array Bool) (a : Act) (w : World), wpAnyH P md ops Q S' fuel listed a w → wpAnyH P md ops Q S fuel listed a w
  | 0, _, _, _, hh => hh
  | fuel + 1, _, _, _, hh => ⟨hh.1, fun i hi => wpOp_mono (fun a w ⟨p, q⟩ => ⟨h w p, wpAnyH_mono h fuel _ a w q⟩) (hh.2 i hi)⟩
theorem ev_same {a : Act} {i : Nat} {v : Value} (h : i < a.tmps.size) : (a.put (some i) v).eval (.tmp i) = v := by
  simp [Act.put, Act.eval, Array.getD_eq_getD_getElem?, h]
theorem ev_other {a : Act} {i j : Nat} {v : Value} (h : j ≠ i) : (a.put (some i) v).eval (.tmp j) = a.eval (.tmp j) := by
  have h' : i ≠ j := fun e => h e.symm
  simp [Act.put, Act.eval, Array.getD_eq_getD_getElem?, h']
theorem ev_const {a : Act} {v : Value} : a.eval (.const v) = v := rfl
theorem ev_func {a : Act} {f : Nat} : a.eval (.func f) = .func (.func f) #[] #[] := rfl
theorem putEq {a : Act} {D : Nat} {v : Value} {dfs : List Deferred} (hd : a.defers = dfs) : ({ tmps := a.tmps.setIfInBounds D v, defers := dfs } : Act) = a.put (some D) v := by
  subst hd
  rfl
theorem sz_put {a : Act} {i : Nat} {v : Value} : (a.put (some i) v).tmps.size = a.tmps.size := by simp [Act.put]

/-- Operation i yields v in slot D: it is taken first. -/
theorem take1 (i : Nat) (D : Nat) (v : Value) (n : Nat) {oi : Oper} {fuel : Nat} {listed : Array Bool} {a : Act} {w : World} (hn : a.tmps.size = n) (hD : D < n) (hi : ops[i]? = some oi) (hd : oi.dst = some D)
    (hs : Region.noSelect ops = true) (hf : Region.free md ops listed i = true) (hr : (Region.ready md ops listed).contains i = true)
    (hQ : ∀ c i v a w, Q (.panic c) (a.put i v) w → Q (.panic c) a w) (hw : Region.wanted oi (yielded ops a.tmps) = true) (hv : ∀ w, S w → (execOp a.eval oi).run P w = .ok (.value v) w) (hS : S w)
    (h : ∀ a' : Act, a'.tmps.size = n → a'.defers = a.defers → a'.eval (.tmp D) = v → (∀ j, j ≠ D → a'.eval (.tmp j) = a.eval (.tmp j)) → wpAnyH P md ops Q S fuel (listed.setIfInBounds i true) a' w) : wpAnyH P md ops Q S (fuel + 1) listed a w := by
  refine wpAnyH_take hi hs hf hr (fun c a w h => hQ c _ v a w h) (Or.inl ⟨hw, hv⟩) hS ?_
  rw [hd]
  exact h _ (sz_put.trans hn) rfl (ev_same (by rw [hn]; exact hD)) (fun j hj => ev_other hj)
theorem wants {o : Oper} {j : Nat} {b : Bool} {Dj : Nat} {a : Act} (hg : o.guard = some (j, b)) (hj : (ops[j]?).bind (·.dst) = some Dj) (n : Nat) (hn : a.tmps.size = n) (ht : Dj < n) (he : a.eval (.tmp Dj) = .bool b) : Region.wanted o (yielded ops a.tmps) = true := by
  have h1 : a.tmps[Dj]? = some (.bool b) := by
    have h2 : Dj < a.tmps.size := by rw [hn]; exact ht
    simp only [Act.eval, Array.getD_eq_getD_getElem?, Array.getElem?_eq_getElem h2, Option.getD_some] at he
    rw [Array.getElem?_eq_getElem h2, he]
  simp [Region.wanted, hg, yielded, hj, h1]
theorem ex_move {o : Oper} {j : Nat} {v : Value} {a : Act} (ho : o.op = .move (.tmp j) ∨ o.op = .assign (.tmp j)) (he : a.eval (.tmp j) = v) (w : World) : (execOp a.eval o).run P w = .ok (.value v) w := by
  rcases ho with ho | ho <;> simp [execOp, ho, he]
theorem ex_pickT {o : Oper} {c j : Nat} {y : Operand} {v : Value} {a : Act} (ho : o.op = .pick (.tmp c) (.tmp j) y) (hc : a.eval (.tmp c) = .bool true) (he : a.eval (.tmp j) = v) (w : World) : (execOp a.eval o).run P w = .ok (.value v) w := by
  simp [execOp, ho, he, hc, asBool]
end
end Go.Proofs.YtigcogfjclohjaaGreatDoor
