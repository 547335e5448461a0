/- What package path's CheckPattern and Match answer. -/
import Derived.Test.YtpkkhabiheobnaaDoorFitRow
import Derived.Test.YtpkkhabiheobnaaDoorPat
import Derived.Test.YtpkkhabiheobnaaDoorPLetters
import Derived.Test.YtpkkhabiheobnaaDoorRPath
namespace Go.Proofs.YtpkkhabiheobnaaDoor
open Go.RowKit Go.Shelf Go.Lib

theorem pletter_high (x : Nat) (h : 128 ≤ x) : pletter x = false := by
  have := letter_high x h
  simp [pletter, this]; omega

theorem nameK_P (l : List UInt8) : nameK pletter (ba l) = nameR true l := by
  have h := idx_bytes pletter pletter_high l (ba l).size 0 (by rw [ba_size]; omega)
  unfold nameK nameR Lib.idxFunc
  rw [h, ba_toList, ba_size]
  simp [byteOk, pletter, Bool.or_comm]

theorem patB_R (s : List UInt8) : allB (nameK pletter) (Kf.parts s) = okR true s := by
  unfold allB okR
  congr 1
  exact List.all_congr rfl (fun p => nameK_P p)

theorem row_of_owns {W : World} {base : Nat} {v : Value} {s : List UInt8} (h : W.ownsRow base 9 1 v (Kf.parts s).length ((Kf.parts s).map sv)) : Row W v (Kf.parts s) := by
  have hne := Kf.parts_ne s
  generalize Kf.parts s = l at *
  obtain ⟨g, cap, rfl⟩ : ∃ g cap, v = .slice (some ⟨g, 0, none⟩) l.length cap := by
    cases l with
    | nil => exact absurd rfl hne
    | cons x xs => exact ownsRow_succ h
  obtain ⟨hc, hg, hcap⟩ := owns_cells h
  exact ⟨g, 0, cap, rfl, hcap, hg, fun j hj => hc j (ba l[j]) (by rw [List.getElem?_map, List.getElem?_eq_getElem hj]; rfl)⟩

theorem CheckPattern_yes (p : List UInt8) (hp : p.length ≤ 1000000) (h1 : okR true p = true) (w : World) :
    Calls Tryd.prog 32 #[.string (ba p)] w fun e w' => e = .returned .nilIface ∧ Below w.heap.size w w' := by
  have HA : Hid (∀ W, Calls Tryd.prog 29 #[.string (ba p), .func (.func 50) #[] #[]] W fun e W' => e = .returned (.bool true) ∧ Below W.heap.size W W') := fun W => by
    have := callsIn_wide.1 (allParts_in 3 (by omega) 50 (nameK pletter) isPatternName_well p hp W)
    rw [patB_R, h1] at this
    exact this
  clear h1
  go_enter Tryd.func32, Tryd.ntmps32
  go_wp2_with fail
  refine (HA.out _).mono ?_
  rintro e w1 ⟨rfl, g1⟩
  go_wp2
  go_ret
  exact ⟨rfl, g1⟩

theorem CheckPattern_no (p : List UInt8) (hp : p.length ≤ 1000000) (h1 : okR true p = false) (w : World) (t : TypeId) (u : Value) (hg : w.cell? ⟨3, 0, none⟩ = some (.iface t u)) :
    Calls Tryd.prog 32 #[.string (ba p)] w fun e w' => e = .returned (.iface t u) ∧ Below w.heap.size w w' := by
  have HA : Hid (∀ W, Calls Tryd.prog 29 #[.string (ba p), .func (.func 50) #[] #[]] W fun e W' => e = .returned (.bool false) ∧ Below W.heap.size W W') := fun W => by
    have := callsIn_wide.1 (allParts_in 3 (by omega) 50 (nameK pletter) isPatternName_well p hp W)
    rw [patB_R, h1] at this
    exact this
  clear h1
  go_enter Tryd.func32, Tryd.ntmps32
  go_wp2_with fail
  refine (HA.out _).mono ?_
  rintro e w1 ⟨rfl, g1⟩
  have hg' := (g1.cell (p := ⟨3, 0, none⟩) (lt_of_cell hg)).trans hg
  go_wp2
  go_ret
  exact ⟨rfl, g1⟩

set_option maxHeartbeats 4000000 in
theorem Match_yes (hfit : FitOk 20) (p s : List UInt8) (hp : p.length ≤ 1000000) (hs : s.length ≤ 1000000) (h1 : okR true p = true) (h2 : okR false s = true) (m : Int) (w : World) (hm : w.cell? ⟨13, 0, none⟩ = some (.int .i64 m)) :
    Calls Tryd.prog 21 #[.string (ba p), .string (ba s)] w fun e w' => e = .returned (.tuple #[.bool (fitL 20 (Kf.parts p) (Kf.parts s)), .nilIface]) ∧ Below w.heap.size w w' := by
  have HA : Hid (∀ W, Calls Tryd.prog 32 #[.string (ba p)] W fun e W' => e = .returned .nilIface ∧ Below W.heap.size W W') := fun W => CheckPattern_yes p hp h1 W
  have HK : Hid (∀ W, Calls Tryd.prog 17 #[.string (ba s)] W fun e w' => e = .returned .nilIface ∧ Below W.heap.size W w') := fun W => Check_yes s hs (by rw [pathB_R]; exact h2) W
  have HP : Hid (∀ (t : List UInt8) W, Calls Tryd.prog 35 #[.string (ba t)] W fun e w' => e = .returned (.func (.func 53) #[] #[.pointer (some ⟨W.heap.size, 0, none⟩)]) ∧ w' = W.alloc (.cells #[.string (ba t)] 9)) := fun t W => callsIn_wide.1 (parts_in 3 t W)
  have HC : Hid (∀ (t : List UInt8), t.length ≤ 1000000 → ∀ (W : World), Calls Tryd.prog 34 #[.func (.func 53) #[] #[.pointer (some ⟨W.heap.size, 0, none⟩)]] (W.alloc (.cells #[.string (ba t)] 9)) fun e W' =>
      ∃ v, e = .returned v ∧ Row W' v (Kf.parts t) ∧ Below W.heap.size W W') := fun t ht W => by
    refine (Collect_calls W.heap.size t ht _ (by simp) (Boxed.new W 9 (.string (ba t))).cell).mono ?_
    rintro e W' ⟨v, rfl, hrow, hB⟩
    exact ⟨v, rfl, row_of_owns hrow, ((Below.refl _ W).alloc (Nat.le_refl _) _).trans (hB.mono (by simp))⟩
  have h5 := h1
  have h6 := h2
  unfold okR at h5 h6
  simp only [Bool.and_eq_true, decide_eq_true_eq] at h5 h6
  have HF : Hid (∀ (pv nv : Value) (W : World), Below w.heap.size w W → Row W pv (Kf.parts p) → Row W nv (Kf.parts s) →
      Calls Tryd.prog 33 #[pv, nv] W fun e w' => e = .returned (.bool (fitL 20 (Kf.parts p) (Kf.parts s))) ∧ Below W.heap.size W w') := fun pv nv W hW hR hS =>
    hfit (Kf.parts p) (Kf.parts s) pv nv m W (by omega) (fun x hx => Nat.le_trans (part_len hx) hp) (fun x hx => Nat.le_trans (part_len hx) hs) (by omega) (by omega) (cell_below' hm hW) hR hS
  clear h5 h6 h1 h2
  generalize fitL 20 (Kf.parts p) (Kf.parts s) = b at *
  go_enter Tryd.func21, Tryd.ntmps21
  go_wp2_with fail
  refine (HA.out _).mono ?_
  rintro e w1 ⟨rfl, g1⟩
  go_wp2_with fail
  refine (HK.out _).mono ?_
  rintro e w2 ⟨rfl, g2'⟩
  have g2 := g1.trans (g2'.mono g1.size)
  clear g1 g2'
  go_wp2_with fail
  refine (HP.out _ _).mono ?_
  rintro e w3 ⟨rfl, rfl⟩
  go_wp2_with fail
  refine (HC.out p hp w2).mono ?_
  rintro e w4 ⟨v1, rfl, r1, g4'⟩
  have g4 := g2.trans (g4'.mono g2.size)
  clear g2 g4'
  go_wp2_with fail
  refine (HP.out _ _).mono ?_
  rintro e w5 ⟨rfl, rfl⟩
  go_wp2_with fail
  refine (HC.out s hs w4).mono ?_
  rintro e w6 ⟨v2, rfl, r2, g6'⟩
  have g6 := g4.trans (g6'.mono g4.size)
  have r1' := r1.below g6'
  clear g4 g6' r1
  go_wp2_with fail
  refine (HF.out v1 v2 _ g6 r1' r2).mono ?_
  rintro e w7 ⟨rfl, g7⟩
  go_wp2
  go_ret2
  exact ⟨rfl, g6.trans (g7.mono g6.size)⟩

set_option maxHeartbeats 4000000 in
theorem Match_noPat (p s : List UInt8) (hp : p.length ≤ 1000000) (h1 : okR true p = false) (w : World) (t : TypeId) (u : Value) (hg : w.cell? ⟨3, 0, none⟩ = some (.iface t u)) :
    Calls Tryd.prog 21 #[.string (ba p), .string (ba s)] w fun e w' => e = .returned (.tuple #[.bool false, .iface t u]) ∧ Below w.heap.size w w' := by
  have HA : Hid (Calls Tryd.prog 32 #[.string (ba p)] w fun e W' => e = .returned (.iface t u) ∧ Below w.heap.size w W') := CheckPattern_no p hp h1 w t u hg
  clear h1
  go_enter Tryd.func21, Tryd.ntmps21
  go_wp2_with fail
  refine HA.out.mono ?_
  rintro e w1 ⟨rfl, g1⟩
  go_wp2
  go_ret2
  exact ⟨rfl, g1⟩

set_option maxHeartbeats 4000000 in
theorem Match_noPath (p s : List UInt8) (hp : p.length ≤ 1000000) (hs : s.length ≤ 1000000) (h1 : okR true p = true) (h2 : okR false s = false) (w : World) (t : TypeId) (u : Value) (hg : w.cell? ⟨3, 0, none⟩ = some (.iface t u)) :
    Calls Tryd.prog 21 #[.string (ba p), .string (ba s)] w fun e w' => e = .returned (.tuple #[.bool false, .iface t u]) ∧ Below w.heap.size w w' := by
  have HA : Hid (∀ W, Calls Tryd.prog 32 #[.string (ba p)] W fun e W' => e = .returned .nilIface ∧ Below W.heap.size W W') := fun W => CheckPattern_yes p hp h1 W
  have HK : Hid (∀ W, W.cell? ⟨3, 0, none⟩ = some (.iface t u) → Calls Tryd.prog 17 #[.string (ba s)] W fun e w' => e = .returned (.iface t u) ∧ Below W.heap.size W w') := fun W hW => Check_no s hs (by rw [pathB_R]; exact h2) W t u hW
  clear h1 h2
  go_enter Tryd.func21, Tryd.ntmps21
  go_wp2_with fail
  refine (HA.out _).mono ?_
  rintro e w1 ⟨rfl, g1⟩
  have hg' := (g1.cell (p := ⟨3, 0, none⟩) (lt_of_cell hg)).trans hg
  go_wp2_with fail
  refine (HK.out _ hg').mono ?_
  rintro e w2 ⟨rfl, g2⟩
  go_wp2
  go_ret2
  exact ⟨rfl, g1.trans (g2.mono g1.size)⟩
end Go.Proofs.YtpkkhabiheobnaaDoor
