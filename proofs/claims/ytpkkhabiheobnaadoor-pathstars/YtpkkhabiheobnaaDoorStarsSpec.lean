/- Plain facts for PathStars: a path fits itself, two stars, itself below and above two stars, and itself with a star behind. -/
import Derived.Test.YtpkkhabiheobnaaDoorFitSpec
import Derived.Test.YtpkkhabiheobnaaDoorRSplit
import Derived.Test.YtpkkhabiheobnaaDoorStays
namespace Go.Proofs.YtpkkhabiheobnaaDoor
open Go.RowKit Go.Shelf Go.Lib

theorem byteOk_mono (c : Nat) (h : byteOk false c = true) : byteOk true c = true := by
  simp [byteOk] at h ⊢
  exact .inl h
theorem nameR_mono (p : List UInt8) (h : nameR false p = true) : nameR true p = true := by
  unfold nameR at h ⊢
  simp only [Bool.and_eq_true, List.all_eq_true] at h ⊢
  exact ⟨h.1, fun b hb => byteOk_mono _ (h.2 b hb)⟩
theorem okR_mono (s : List UInt8) (h : okR false s = true) : okR true s = true := by
  unfold okR at h ⊢
  simp only [Bool.and_eq_true, List.all_eq_true] at h ⊢
  exact ⟨h.1, fun p hp => nameR_mono p (h.2 p hp)⟩
theorem name_noStar (p : List UInt8) (h : nameR false p = true) : (42 : UInt8) ∉ p := by
  intro hm
  unfold nameR at h
  simp only [Bool.and_eq_true, List.all_eq_true] at h
  have := h.2 42 hm
  revert this
  decide
theorem okR_parts {s : List UInt8} (h : okR false s = true) : (Kf.parts s).length ≤ 5 ∧ (∀ p ∈ Kf.parts s, nameR false p = true) := by
  unfold okR at h
  simp only [Bool.and_eq_true, List.all_eq_true, decide_eq_true_eq] at h
  exact h

theorem index_no (p : List UInt8) (h : (42 : UInt8) ∉ p) : Lib.index p [42] = -1 := by
  rw [Lib.index_one]
  induction p with
  | nil => rfl
  | cons c r ih =>
    simp only [List.mem_cons, not_or] at h
    have hc : (c == 42) = false := by simpa using fun e => h.1 e.symm
    unfold Lib.indexByte
    rw [hc, ih h.2]
    rfl
theorem fitN_self (p : List UInt8) (h : (42 : UInt8) ∉ p) : fitN p p = true := by
  unfold fitN
  rw [index_no p h]
  simp
theorem ne_stars {p : List UInt8} (h : (42 : UInt8) ∉ p) : ¬ p = [42, 42] := fun e => h (by rw [e]; simp)

theorem fitL_self : ∀ (l : List (List UInt8)) (f : Nat), (∀ p ∈ l, (42 : UInt8) ∉ p) → l.length < f → fitL f l l = true
  | [], 0, _, h => by simp at h
  | [], f + 1, _, _ => rfl
  | p :: ps, 0, _, h => by simp at h
  | p :: ps, f + 1, hl, h => by
    have hp := hl p (by simp)
    simp only [fitL, if_neg (ne_stars hp), fitN_self p hp, Bool.true_and]
    exact fitL_self ps f (fun q hq => hl q (by simp [hq])) (by simp at h; omega)
theorem fitL_any : ∀ (l : List (List UInt8)) (f : Nat), l.length + 1 < f → fitL f [[42, 42]] l = true
  | l, 0, h => by omega
  | [], f + 1, h => by
    cases f with
    | zero => simp at h
    | succ f => simp [fitL]
  | _ :: ns, f + 1, h => by
    have := fitL_any ns f (by simp at h; omega)
    simp [fitL, this]
theorem fitL_ahead (l : List (List UInt8)) (f : Nat) (hl : ∀ p ∈ l, (42 : UInt8) ∉ p) (h : l.length + 1 < f) : fitL f ([42, 42] :: l) l = true := by
  cases f with
  | zero => omega
  | succ f => simp [fitL, fitL_self l f hl (by omega)]
theorem fitL_behind : ∀ (l : List (List UInt8)) (f : Nat), (∀ p ∈ l, (42 : UInt8) ∉ p) → l.length + 1 < f → fitL f (l ++ [[42, 42]]) l = true
  | [], f, _, h => fitL_any [] f (by simpa using h)
  | p :: ps, 0, _, h => by omega
  | p :: ps, f + 1, hl, h => by
    have hp := hl p (by simp)
    simp only [List.cons_append, fitL, if_neg (ne_stars hp), fitN_self p hp, Bool.true_and]
    exact fitL_behind ps f (fun q hq => hl q (by simp [hq])) (by simp at h; omega)

theorem index_star (p : List UInt8) (h : (42 : UInt8) ∉ p) : Lib.index (p ++ [42]) [42] = (p.length : Int) := by
  rw [Lib.index_one]
  induction p with
  | nil => rfl
  | cons c r ih =>
    simp only [List.mem_cons, not_or] at h
    have hc : (c == 42) = false := by simpa using fun e => h.1 e.symm
    rw [List.cons_append]
    unfold Lib.indexByte
    rw [hc, ih h.2]
    have : ((r.length : Int) == -1) = false := by simp
    rw [this]
    simp
theorem fitN_star (p : List UInt8) (h : (42 : UInt8) ∉ p) : fitN (p ++ [42]) p = true := by
  unfold fitN
  rw [index_star p h]
  have e1 : (p ++ [42]).take (p.length : Int).toNat = p := by simp
  have e2 : (p ++ [42]).drop ((p.length : Int).toNat + 1) = [] := by simp
  rw [e1, e2, if_pos (by omega), if_pos (by simp [Lib.hasPrefix])]
  simp [cutB, seek, Lib.hasSuffix]
theorem fitL_star : ∀ (l : List (List UInt8)) (p : List UInt8) (f : Nat), (∀ q ∈ l, (42 : UInt8) ∉ q) → (42 : UInt8) ∉ p → l.length + 1 < f → fitL f (l ++ [p ++ [42]]) (l ++ [p]) = true
  | [], p, 0, _, _, h => by omega
  | [], p, 1, _, _, h => by simp at h
  | [], p, f + 2, _, hp, _ => by
    have hne : ¬ p ++ [42] = [42, 42] := fun e => by
      have : p = [42] := by
        have e' : p ++ [42] = [42] ++ [42] := e
        exact List.append_inj_left' e' rfl
      exact hp (by rw [this]; simp)
    simp [fitL, hne, fitN_star p hp]
  | q :: qs, p, 0, _, _, h => by omega
  | q :: qs, p, f + 1, hl, hp, h => by
    have hq := hl q (by simp)
    simp only [List.cons_append, fitL, if_neg (ne_stars hq), fitN_self q hq, Bool.true_and]
    exact fitL_star qs p f (fun r hr => hl r (by simp [hr])) hp (by simp at h; omega)
end Go.Proofs.YtpkkhabiheobnaaDoor
