/- What package path's fitParts answers: the words for its walks. -/
import Derived.Test.YtigcogfjclohjaaGreatDoorFitName
import Derived.Deep.RegionWith
import Derived.Test.YtigcogfjclohjaaGreatDoorPRows
import Derived.Test.YtigcogfjclohjaaGreatDoorPLetters
import Derived.Test.YtigcogfjclohjaaGreatDoorRPath
namespace Go.Proofs.YtigcogfjclohjaaGreatDoor
open Go.RowKit Go.Shelf Go.Lib

/-- A slice value that reads as texts. -/
def Row (w : World) (v : Value) (l : List (List UInt8)) : Prop :=
  ∃ g o cap, v = .slice (some ⟨g, o, none⟩) l.length cap ∧ l.length ≤ cap ∧ g < w.heap.size ∧ ∀ (j : Nat) (h : j < l.length), w.cell? ⟨g, o + j, none⟩ = some (.string (ba l[j]))

theorem Row.below {w w' : World} {v : Value} {l : List (List UInt8)} (h : Row w v l) (hb : Below w.heap.size w w') : Row w' v l := by
  obtain ⟨g, o, cap, h1, h2, h3, h4⟩ := h
  exact ⟨g, o, cap, h1, h2, Nat.lt_of_lt_of_le h3 hb.size, fun j hj => (hb.cell (p := ⟨g, o + j, none⟩) h3).trans (h4 j hj)⟩

/-- What fitParts answers, at such and such fuel. -/
def FitOk (f : Nat) : Prop := ∀ (pat names : List (List UInt8)) (pv nv : Value) (m : Int) (w : World), pat.length + names.length < f →
  (∀ x ∈ pat, x.length ≤ 1000000) → (∀ x ∈ names, x.length ≤ 1000000) → pat.length ≤ 1000 → names.length ≤ 1000 → w.cell? ⟨14, 0, none⟩ = some (.int .i64 m) → Row w pv pat → Row w nv names →
  Calls Tryz.prog 69 #[pv, nv] w fun e w' => e = .returned (.bool (fitL f pat names)) ∧ Below w.heap.size w w'
end Go.Proofs.YtigcogfjclohjaaGreatDoor
/- Walks of package path's isPatternName, and of slices.Collect over parts. -/
namespace Go.Proofs.YtigcogfjclohjaaGreatDoor
open Go.RowKit Go.Shelf Go.Lib

attribute [local go_sem] Oper.semAt_some

/-- A letter of a pattern. -/
def pletter (x : Nat) : Bool := x == 42 || letter x

set_option maxHeartbeats 1000000 in
theorem isPatternName1_calls (x : Nat) (w : World) :
    Calls Tryz.prog 94 #[.int .i32 x] w fun e w' => e = .returned (.bool (pletter x)) ∧ ∃ q, w' = w.drewN q := by
  by_cases h : x = 42
  · subst h
    go_enter Tryz.func94, Tryz.ntmps94
    go_wp2
    go_ret
    exact ⟨rfl, 0, rfl⟩
  · have b : ((x : Int) == 42) = false := by simp; omega
    have HP : Hid (pletter x = letter x) := by
      show pletter x = letter x
      simp [pletter, h]
    go_enter Tryz.func94, Tryz.ntmps94
    go_wp2_with fail
    refine (isLetter_calls x _).mono ?_
    rintro e w' ⟨rfl, q, rfl⟩
    go_wp2
    go_ret
    exact ⟨ret_bool (by rw [HP.out]), q, rfl⟩

theorem pletter_kind : KindIs 94 pletter := ⟨enters_of Tryz.func94 (by kernel_rfl) rfl, isPatternName1_calls⟩

theorem isPatternName_calls (s : ByteArray) (w : World) :
    Calls Tryz.prog 68 #[.string s] w fun e w' => e = .returned (.bool (nameK pletter s)) ∧ Below w.heap.size w w' := by
  go_enter Tryz.func68, Tryz.ntmps68
  go_wp2_with fail
  refine (madeOf_calls 94 pletter pletter_kind s _).mono ?_
  rintro e w' ⟨rfl, hb⟩
  go_wp2
  go_ret
  exact ⟨rfl, hb⟩
theorem isPatternName_well : WellIs 68 (nameK pletter) := ⟨enters_of Tryz.func68 (by kernel_rfl) rfl, isPatternName_calls⟩

set_option maxRecDepth 100000 in
set_option maxHeartbeats 2000000 in
theorem AppendSeq_in (n : Nat) (hn : 3 ≤ n) (Bn : Nat) (s : List UInt8) (hs : s.length ≤ 1000000) (w : World) (hBn : Bn < w.heap.size) (hc : w.cell? ⟨Bn, 0, none⟩ = some (.string (ba s))) :
    CallsIn Fence.wide n Tryz.prog 90 #[.slice none 0 0, .func (.func 97) #[] #[.pointer (some ⟨Bn, 0, none⟩)]] w fun e W' =>
      ∃ v, e = .returned v ∧ W'.ownsRow w.heap.size 9 1 v (Kf.parts s).length ((Kf.parts s).map sv) ∧ Below w.heap.size w W' := by
  have h1 : 1 ≤ n := by omega
  obtain ⟨i0, hi, hz0, hz1, hz2⟩ := info_parts Tryz.infoStr
  refine callsIn_of_wp_marks Tryz.func90 rfl trivial ?_ rfl
  simp only [Tryz.ntmps90, List.size_toArray, List.length_cons, List.length_nil, Nat.reduceAdd, Nat.reduceSub, Array.replicate_succ, Array.replicate_zero, List.push_toArray, List.append_toArray, List.nil_append, List.cons_append]
  gi_wp2
  have b0 := Boxed.new w 41 (.slice none 0 0)
  have hB0 : Below w.heap.size w (w.alloc (.cells #[.slice none 0 0] 41)) := (Below.refl _ w).alloc (Nat.le_refl _) _
  have hc' : (w.alloc (.cells #[.slice none 0 0] 41)).cell? ⟨Bn, 0, none⟩ = some (.string (ba s)) := (hB0.cell (p := ⟨Bn, 0, none⟩) hBn).trans hc
  refine wpIn_rangeFunc_ownG rfl h1 (gf := 97) (lb := #[.pointer (some ⟨Bn, 0, none⟩)]) rfl trivial (enters_of Tryz.func97 (by kernel_rfl) rfl)
    (parts_stops (n - 1) (by omega) Bn w.heap.size s hs _ (by simp; omega) hc') belowK_t (belowK_b (by simp)) (Below.refl _ _) (fun _ => rfl)
    (fun pre W => (∃ v, Boxed W w.heap.size 41 v ∧ W.ownsRow w.heap.size 9 1 v pre.length (pre.map sv) ∧ True) ∧ Below w.heap.size w W)
    (fun _ _ _ => False)
    (OwnFrom.and (Own.from (holdsRow_own w.heap.size w.heap.size 41 9 1 (fun pre : List (List UInt8) => pre.length) (fun pre => pre.map sv) (fun _ _ => True)) _) (ownFrom_below (Nat.le_refl _) (by simp)))
    (fun _ _ _ _ _ hs _ _ => hs)
    ⟨⟨_, b0, World.ownsRow_nil _ _ _ _, trivial⟩, hB0⟩
    (fun x => { tmps := #[.slice none 0 0, .func (.func 97) #[] #[.pointer (some ⟨Bn, 0, none⟩)], .pointer (some ⟨w.heap.size, 0, none⟩), undef, .slice none 0 0, .string (ba x), .func (.func 97) #[] #[.pointer (some ⟨Bn, 0, none⟩)], .string (ba x), undef, undef, undef, undef, undef], defers := [] }) ?assign ?body ?done ?stop
  case assign =>
    intro l x W K hK
    gi_wp2
    exact hK
  case body =>
    rintro l pre x W ⟨⟨v, hv, hrow, _⟩, hB⟩ hlt
    have hc := hv.cell
    have hpl : pre.length ≤ 1000001 := by have := Kf.parts_len s; omega
    have hml : pre.length + 1 ≤ maxLen := by unfold maxLen; omega
    gi_wp2_with (gi_at_builtin; refine wpListIn_append_own _ rfl _ _ 41 rfl w.heap.size 9 i0 (.string ⟨#[]⟩) 1 16 Tryz.underlying41 hi hz0 hz1 hz2 rfl (by decide) _ _ _ rfl (hrow.alloc _) ⟨W.heap.size, 0, none⟩ 1 1 [.string (ba x)] rfl rfl (cell_one_new _ _ _) (by simp [Value.oneCell']) hml (by omega) (by have := hB.size; simp; omega) ?_; intro v' w1 hown' hgrow _; obtain ⟨g', cap', rfl⟩ := ownsRow_succ hown'; obtain ⟨hv1, hv2, hr2, hk2, hb2⟩ := hv.appended (by decide) hrow hB.size (Nat.le_refl _) hown' hgrow; have hc1 := hv1.cell; have hf1 := hv1.frozen)
    exact ⟨hk2.from _, hb2, ⟨_, hv2, by simpa using hr2, trivial⟩, hB.trans hb2⟩
  case done =>
    rintro D ys W hD rfl ⟨⟨v, hv, hrow, _⟩, hB⟩ hK
    have hc := hv.cell
    gi_wp2
    refine ⟨by simp, .inl ⟨_, _, rfl, run_takeDeferred hK, ?_⟩⟩
    exact ⟨_, results_tmp rfl _ _ _, v, rfl, ownsRow_putObj hrow _ hK rfl, hB.trans (belowK_b (w := w) (Nat.le_refl _) W D _ _ (by simp at hD; omega) hK rfl rfl)⟩
  case stop =>
    rintro D c pre W _ _ h _
    exact h.elim

theorem Collect_calls (Bn : Nat) (s : List UInt8) (hs : s.length ≤ 1000000) (w : World) (hBn : Bn < w.heap.size) (hc : w.cell? ⟨Bn, 0, none⟩ = some (.string (ba s))) :
    Calls Tryz.prog 64 #[.func (.func 97) #[] #[.pointer (some ⟨Bn, 0, none⟩)]] w fun e W' =>
      ∃ v, e = .returned v ∧ W'.ownsRow w.heap.size 9 1 v (Kf.parts s).length ((Kf.parts s).map sv) ∧ Below w.heap.size w W' := by
  have HA : Hid (Calls Tryz.prog 90 #[.slice none 0 0, .func (.func 97) #[] #[.pointer (some ⟨Bn, 0, none⟩)]] w fun e W' =>
      ∃ v, e = .returned v ∧ W'.ownsRow w.heap.size 9 1 v (Kf.parts s).length ((Kf.parts s).map sv) ∧ Below w.heap.size w W') := callsIn_wide.1 (AppendSeq_in 3 (by omega) Bn s hs w hBn hc)
  go_enter Tryz.func64, Tryz.ntmps64
  go_wp2_with fail
  refine HA.out.mono ?_
  rintro e w1 ⟨v, rfl, hrow, hB⟩
  go_wp2
  go_ret
  exact ⟨v, rfl, hrow, hB⟩
end Go.Proofs.YtigcogfjclohjaaGreatDoor
/- What package path's CheckPattern and Match answer. -/
namespace Go.Proofs.YtigcogfjclohjaaGreatDoor
open Go.RowKit Go.Shelf Go.Lib

theorem pletter_high (x : Nat) (h : 128 ≤ x) : pletter x = false := by
  have := letter_high x h
  simp [pletter, this]; omega

theorem nameK_P (l : List UInt8) : nameK pletter (ba l) = nameR true l := by
  have h := idx_bytes pletter pletter_high l (ba l).size 0 (by rw [ba_size]; omega)
  unfold nameK nameR Lib.idxFunc
  rw [h, ba_toList, ba_size]
  simp [byteOk, pletter, Bool.or_comm]

theorem patB_R (s : List UInt8) : allB (nameK pletter) (Kf.parts s) = okR true s := by
  unfold allB okR
  congr 1
  exact List.all_congr rfl (fun p => nameK_P p)

theorem row_of_owns {W : World} {base : Nat} {v : Value} {s : List UInt8} (h : W.ownsRow base 9 1 v (Kf.parts s).length ((Kf.parts s).map sv)) : Row W v (Kf.parts s) := by
  have hne := Kf.parts_ne s
  generalize Kf.parts s = l at *
  obtain ⟨g, cap, rfl⟩ : ∃ g cap, v = .slice (some ⟨g, 0, none⟩) l.length cap := by
    cases l with
    | nil => exact absurd rfl hne
    | cons x xs => exact ownsRow_succ h
  obtain ⟨hc, hg, hcap⟩ := owns_cells h
  exact ⟨g, 0, cap, rfl, hcap, hg, fun j hj => hc j (ba l[j]) (by rw [List.getElem?_map, List.getElem?_eq_getElem hj]; rfl)⟩

theorem CheckPattern_yes (p : List UInt8) (hp : p.length ≤ 1000000) (h1 : okR true p = true) (w : World) :
    Calls Tryz.prog 50 #[.string (ba p)] w fun e w' => e = .returned .nilIface ∧ Below w.heap.size w w' := by
  have HA : Hid (∀ W, Calls Tryz.prog 67 #[.string (ba p), .func (.func 68) #[] #[]] W fun e W' => e = .returned (.bool true) ∧ Below W.heap.size W W') := fun W => by
    have := callsIn_wide.1 (allParts_in 3 (by omega) 68 (nameK pletter) isPatternName_well p hp W)
    rw [patB_R, h1] at this
    exact this
  clear h1
  go_enter Tryz.func50, Tryz.ntmps50
  go_wp2_with fail
  refine (HA.out _).mono ?_
  rintro e w1 ⟨rfl, g1⟩
  go_wp2
  go_ret
  exact ⟨rfl, g1⟩

theorem CheckPattern_no (p : List UInt8) (hp : p.length ≤ 1000000) (h1 : okR true p = false) (w : World) (t : TypeId) (u : Value) (hg : w.cell? ⟨5, 0, none⟩ = some (.iface t u)) :
    Calls Tryz.prog 50 #[.string (ba p)] w fun e w' => e = .returned (.iface t u) ∧ Below w.heap.size w w' := by
  have HA : Hid (∀ W, Calls Tryz.prog 67 #[.string (ba p), .func (.func 68) #[] #[]] W fun e W' => e = .returned (.bool false) ∧ Below W.heap.size W W') := fun W => by
    have := callsIn_wide.1 (allParts_in 3 (by omega) 68 (nameK pletter) isPatternName_well p hp W)
    rw [patB_R, h1] at this
    exact this
  clear h1
  go_enter Tryz.func50, Tryz.ntmps50
  go_wp2_with fail
  refine (HA.out _).mono ?_
  rintro e w1 ⟨rfl, g1⟩
  have hg' := (g1.cell (p := ⟨5, 0, none⟩) (lt_of_cell hg)).trans hg
  go_wp2
  go_ret
  exact ⟨rfl, g1⟩

set_option maxHeartbeats 4000000 in
theorem Match_yes (hfit : FitOk 20) (p s : List UInt8) (hp : p.length ≤ 1000000) (hs : s.length ≤ 1000000) (h1 : okR true p = true) (h2 : okR false s = true) (m : Int) (w : World) (hm : w.cell? ⟨14, 0, none⟩ = some (.int .i64 m)) :
    Calls Tryz.prog 51 #[.string (ba p), .string (ba s)] w fun e w' => e = .returned (.tuple #[.bool (fitL 20 (Kf.parts p) (Kf.parts s)), .nilIface]) ∧ Below w.heap.size w w' := by
  have HA : Hid (∀ W, Calls Tryz.prog 50 #[.string (ba p)] W fun e W' => e = .returned .nilIface ∧ Below W.heap.size W W') := fun W => CheckPattern_yes p hp h1 W
  have HK : Hid (∀ W, Calls Tryz.prog 62 #[.string (ba s)] W fun e w' => e = .returned .nilIface ∧ Below W.heap.size W w') := fun W => Check_yes s hs (by rw [pathB_R]; exact h2) W
  have HP : Hid (∀ (t : List UInt8) W, Calls Tryz.prog 70 #[.string (ba t)] W fun e w' => e = .returned (.func (.func 97) #[] #[.pointer (some ⟨W.heap.size, 0, none⟩)]) ∧ w' = W.alloc (.cells #[.string (ba t)] 9)) := fun t W => callsIn_wide.1 (parts_in 3 t W)
  have HC : Hid (∀ (t : List UInt8), t.length ≤ 1000000 → ∀ (W : World), Calls Tryz.prog 64 #[.func (.func 97) #[] #[.pointer (some ⟨W.heap.size, 0, none⟩)]] (W.alloc (.cells #[.string (ba t)] 9)) fun e W' =>
      ∃ v, e = .returned v ∧ Row W' v (Kf.parts t) ∧ Below W.heap.size W W') := fun t ht W => by
    refine (Collect_calls W.heap.size t ht _ (by simp) (Boxed.new W 9 (.string (ba t))).cell).mono ?_
    rintro e W' ⟨v, rfl, hrow, hB⟩
    exact ⟨v, rfl, row_of_owns hrow, ((Below.refl _ W).alloc (Nat.le_refl _) _).trans (hB.mono (by simp))⟩
  have h5 := h1
  have h6 := h2
  unfold okR at h5 h6
  simp only [Bool.and_eq_true, decide_eq_true_eq] at h5 h6
  have HF : Hid (∀ (pv nv : Value) (W : World), Below w.heap.size w W → Row W pv (Kf.parts p) → Row W nv (Kf.parts s) →
      Calls Tryz.prog 69 #[pv, nv] W fun e w' => e = .returned (.bool (fitL 20 (Kf.parts p) (Kf.parts s))) ∧ Below W.heap.size W w') := fun pv nv W hW hR hS =>
    hfit (Kf.parts p) (Kf.parts s) pv nv m W (by omega) (fun x hx => Nat.le_trans (part_len hx) hp) (fun x hx => Nat.le_trans (part_len hx) hs) (by omega) (by omega) (cell_below' hm hW) hR hS
  clear h5 h6 h1 h2
  generalize fitL 20 (Kf.parts p) (Kf.parts s) = b at *
  go_enter Tryz.func51, Tryz.ntmps51
  go_wp2_with fail
  refine (HA.out _).mono ?_
  rintro e w1 ⟨rfl, g1⟩
  go_wp2_with fail
  refine (HK.out _).mono ?_
  rintro e w2 ⟨rfl, g2'⟩
  have g2 := g1.trans (g2'.mono g1.size)
  clear g1 g2'
  go_wp2_with fail
  refine (HP.out _ _).mono ?_
  rintro e w3 ⟨rfl, rfl⟩
  go_wp2_with fail
  refine (HC.out p hp w2).mono ?_
  rintro e w4 ⟨v1, rfl, r1, g4'⟩
  have g4 := g2.trans (g4'.mono g2.size)
  clear g2 g4'
  go_wp2_with fail
  refine (HP.out _ _).mono ?_
  rintro e w5 ⟨rfl, rfl⟩
  go_wp2_with fail
  refine (HC.out s hs w4).mono ?_
  rintro e w6 ⟨v2, rfl, r2, g6'⟩
  have g6 := g4.trans (g6'.mono g4.size)
  have r1' := r1.below g6'
  clear g4 g6' r1
  go_wp2_with fail
  refine (HF.out v1 v2 _ g6 r1' r2).mono ?_
  rintro e w7 ⟨rfl, g7⟩
  go_wp2
  go_ret2
  exact ⟨rfl, g6.trans (g7.mono g6.size)⟩

set_option maxHeartbeats 4000000 in
theorem Match_noPat (p s : List UInt8) (hp : p.length ≤ 1000000) (h1 : okR true p = false) (w : World) (t : TypeId) (u : Value) (hg : w.cell? ⟨5, 0, none⟩ = some (.iface t u)) :
    Calls Tryz.prog 51 #[.string (ba p), .string (ba s)] w fun e w' => e = .returned (.tuple #[.bool false, .iface t u]) ∧ Below w.heap.size w w' := by
  have HA : Hid (Calls Tryz.prog 50 #[.string (ba p)] w fun e W' => e = .returned (.iface t u) ∧ Below w.heap.size w W') := CheckPattern_no p hp h1 w t u hg
  clear h1
  go_enter Tryz.func51, Tryz.ntmps51
  go_wp2_with fail
  refine HA.out.mono ?_
  rintro e w1 ⟨rfl, g1⟩
  go_wp2
  go_ret2
  exact ⟨rfl, g1⟩

set_option maxHeartbeats 4000000 in
theorem Match_noPath (p s : List UInt8) (hp : p.length ≤ 1000000) (hs : s.length ≤ 1000000) (h1 : okR true p = true) (h2 : okR false s = false) (w : World) (t : TypeId) (u : Value) (hg : w.cell? ⟨5, 0, none⟩ = some (.iface t u)) :
    Calls Tryz.prog 51 #[.string (ba p), .string (ba s)] w fun e w' => e = .returned (.tuple #[.bool false, .iface t u]) ∧ Below w.heap.size w w' := by
  have HA : Hid (∀ W, Calls Tryz.prog 50 #[.string (ba p)] W fun e W' => e = .returned .nilIface ∧ Below W.heap.size W W') := fun W => CheckPattern_yes p hp h1 W
  have HK : Hid (∀ W, W.cell? ⟨5, 0, none⟩ = some (.iface t u) → Calls Tryz.prog 62 #[.string (ba s)] W fun e w' => e = .returned (.iface t u) ∧ Below W.heap.size W w') := fun W hW => Check_no s hs (by rw [pathB_R]; exact h2) W t u hW
  clear h1 h2
  go_enter Tryz.func51, Tryz.ntmps51
  go_wp2_with fail
  refine (HA.out _).mono ?_
  rintro e w1 ⟨rfl, g1⟩
  have hg' := (g1.cell (p := ⟨5, 0, none⟩) (lt_of_cell hg)).trans hg
  go_wp2_with fail
  refine (HK.out _ hg').mono ?_
  rintro e w2 ⟨rfl, g2⟩
  go_wp2
  go_ret2
  exact ⟨rfl, g1.trans (g2.mono g1.size)⟩
end Go.Proofs.YtigcogfjclohjaaGreatDoor
/- The walk of package path's fitParts where no pattern is left, where it begins with two stars alone, and where no name is left. -/
namespace Go.Proofs.YtigcogfjclohjaaGreatDoor
open Go.RowKit Go.Shelf Go.Lib

set_option maxHeartbeats 4000000 in
theorem fit_none (p : List UInt8) (ps : List (List UInt8)) (g o cap g' o' cap' : Nat) (w : World)
    (hb : (p == [42, 42]) = false) (hpl : ps.length ≤ 1000)
    (hc0 : w.cell? ⟨g, o, none⟩ = some (.string (ba p))) :
    Calls Tryz.prog 69 #[.slice (some ⟨g, o, none⟩) (ps.length + 1) cap, .slice (some ⟨g', o', none⟩) 0 cap'] w fun e w' => e = .returned (.bool false) ∧ Below w.heap.size w w' := by
  have hpl0 : (((ps.length : Int) + 1) == 0) = false := by simp; omega
  go_enter Tryz.func69, Tryz.ntmps69
  go_wp2
  go_quiet (fail)
  go_wp2
  go_ret
  exact ⟨rfl, below_draws (Below.refl _ _) _⟩

set_option maxHeartbeats 4000000 in
theorem fit_nil (nl : Nat) (g o cap g' o' cap' : Nat) (w : World) :
    Calls Tryz.prog 69 #[.slice (some ⟨g, o, none⟩) 0 cap, .slice (some ⟨g', o', none⟩) nl cap'] w fun e w' => e = .returned (.bool (decide (nl = 0))) ∧ Below w.heap.size w w' := by
  by_cases h : nl = 0
  · subst h
    go_enter Tryz.func69, Tryz.ntmps69
    go_wp2
    go_ret
    exact ⟨rfl, Below.refl _ _⟩
  · have hl : ((nl : Int) == 0) = false := by simp; omega
    have HD : Hid (decide (nl = 0) = false) := by
      show decide (nl = 0) = false
      simpa using h
    clear h
    go_enter Tryz.func69, Tryz.ntmps69
    go_wp2
    go_ret
    exact ⟨ret_bool HD.out.symm, Below.refl _ _⟩

/-- Where a slice begins behind its first element. -/
def At1 (o cap o1 : Nat) : Prop := (cap = 1 ∧ o1 = o) ∨ (¬ cap = 1 ∧ o1 = o + 1)
theorem at1 (o cap : Nat) : ∃ o1, At1 o cap o1 := by
  by_cases h : cap = 1
  · exact ⟨o, .inl ⟨h, rfl⟩⟩
  · exact ⟨o + 1, .inr ⟨h, rfl⟩⟩

set_option maxHeartbeats 4000000 in
theorem fit_stars_yes (pn nl : Nat) (g o cap o1 g' o' cap' : Nat) (ho : At1 o cap o1) (w : World)
    (pc : pn + 1 ≤ cap) (hpl : pn ≤ 1000)
    (hc0 : w.cell? ⟨g, o, none⟩ = some (.string (ba [42, 42])))
    (HI : Hid (Calls Tryz.prog 69 #[.slice (some ⟨g, o1, none⟩) pn (cap - 1), .slice (some ⟨g', o', none⟩) nl cap'] w fun e w' => e = .returned (.bool true) ∧ Below w.heap.size w w')) :
    Calls Tryz.prog 69 #[.slice (some ⟨g, o, none⟩) (pn + 1) cap, .slice (some ⟨g', o', none⟩) nl cap'] w fun e w' => e = .returned (.bool true) ∧ Below w.heap.size w w' := by
  have hpl0 : (((pn : Int) + 1) == 0) = false := by simp; omega
  have pc' : (pn : Int) + 1 ≤ (cap : Int) := by omega
  rcases ho with ⟨rfl, rfl⟩ | ⟨h1, rfl⟩
  · obtain rfl : pn = 0 := by omega
    clear pc pc' hpl hpl0
    go_enter Tryz.func69, Tryz.ntmps69
    go_wp2_with fail
    refine HI.out.mono ?_
    rintro e w1 ⟨rfl, hb1⟩
    go_wp2
    go_ret
    exact ⟨rfl, hb1⟩
  · go_enter Tryz.func69, Tryz.ntmps69
    go_wp2_with fail
    refine HI.out.mono ?_
    rintro e w1 ⟨rfl, hb1⟩
    go_wp2
    go_ret
    exact ⟨rfl, hb1⟩

set_option maxHeartbeats 4000000 in
theorem fit_stars_end (pn : Nat) (g o cap o1 g' o' cap' : Nat) (ho : At1 o cap o1) (w : World)
    (pc : pn + 1 ≤ cap) (hpl : pn ≤ 1000)
    (hc0 : w.cell? ⟨g, o, none⟩ = some (.string (ba [42, 42])))
    (HI : Hid (Calls Tryz.prog 69 #[.slice (some ⟨g, o1, none⟩) pn (cap - 1), .slice (some ⟨g', o', none⟩) 0 cap'] w fun e w' => e = .returned (.bool false) ∧ Below w.heap.size w w')) :
    Calls Tryz.prog 69 #[.slice (some ⟨g, o, none⟩) (pn + 1) cap, .slice (some ⟨g', o', none⟩) 0 cap'] w fun e w' => e = .returned (.bool false) ∧ Below w.heap.size w w' := by
  have hpl0 : (((pn : Int) + 1) == 0) = false := by simp; omega
  have pc' : (pn : Int) + 1 ≤ (cap : Int) := by omega
  rcases ho with ⟨rfl, rfl⟩ | ⟨h1, rfl⟩
  · obtain rfl : pn = 0 := by omega
    clear pc pc' hpl hpl0
    go_enter Tryz.func69, Tryz.ntmps69
    go_wp2_with fail
    refine HI.out.mono ?_
    rintro e w1 ⟨rfl, hb1⟩
    go_wp2
    go_ret
    exact ⟨rfl, hb1⟩
  · go_enter Tryz.func69, Tryz.ntmps69
    go_wp2_with fail
    refine HI.out.mono ?_
    rintro e w1 ⟨rfl, hb1⟩
    go_wp2
    go_ret
    exact ⟨rfl, hb1⟩

set_option maxHeartbeats 4000000 in
theorem fit_stars_on (pn nn : Nat) (g o cap o1 g' o' cap' o2 : Nat) (b : Bool) (ho : At1 o cap o1) (ho' : At1 o' cap' o2) (w : World)
    (pc : pn + 1 ≤ cap) (hpl : pn ≤ 1000) (nc : nn + 1 ≤ cap') (hnl : nn ≤ 1000)
    (hc0 : w.cell? ⟨g, o, none⟩ = some (.string (ba [42, 42])))
    (HI : Hid (Calls Tryz.prog 69 #[.slice (some ⟨g, o1, none⟩) pn (cap - 1), .slice (some ⟨g', o', none⟩) (nn + 1) cap'] w fun e w' => e = .returned (.bool false) ∧ Below w.heap.size w w'))
    (HJ : Hid (∀ W, Below w.heap.size w W → Calls Tryz.prog 69 #[.slice (some ⟨g, o, none⟩) (pn + 1) cap, .slice (some ⟨g', o2, none⟩) nn (cap' - 1)] W fun e w' => e = .returned (.bool b) ∧ Below W.heap.size W w')) :
    Calls Tryz.prog 69 #[.slice (some ⟨g, o, none⟩) (pn + 1) cap, .slice (some ⟨g', o', none⟩) (nn + 1) cap'] w fun e w' => e = .returned (.bool b) ∧ Below w.heap.size w w' := by
  have hpl0 : (((pn : Int) + 1) == 0) = false := by simp; omega
  have pc' : (pn : Int) + 1 ≤ (cap : Int) := by omega
  have nc' : (nn : Int) + 1 ≤ (cap' : Int) := by omega
  have hnp : (0 : Int) < (nn : Int) + 1 := by omega
  rcases ho with ⟨rfl, rfl⟩ | ⟨h1, rfl⟩ <;> rcases ho' with ⟨rfl, rfl⟩ | ⟨h2, rfl⟩
  · obtain rfl : pn = 0 := by omega
    obtain rfl : nn = 0 := by omega
    clear pc pc' hpl hpl0 nc nc' hnl hnp
    go_enter Tryz.func69, Tryz.ntmps69
    go_wp2_with fail
    refine HI.out.mono ?_
    rintro e w1 ⟨rfl, hb1⟩
    go_wp2_with fail
    refine (HJ.out w1 hb1).mono ?_
    rintro e w2 ⟨rfl, hb2⟩
    go_wp2
    go_ret
    exact ⟨rfl, hb1.trans (hb2.mono hb1.size)⟩
  · obtain rfl : pn = 0 := by omega
    clear pc pc' hpl hpl0
    go_enter Tryz.func69, Tryz.ntmps69
    go_wp2_with fail
    refine HI.out.mono ?_
    rintro e w1 ⟨rfl, hb1⟩
    go_wp2_with fail
    refine (HJ.out w1 hb1).mono ?_
    rintro e w2 ⟨rfl, hb2⟩
    go_wp2
    go_ret
    exact ⟨rfl, hb1.trans (hb2.mono hb1.size)⟩
  · obtain rfl : nn = 0 := by omega
    clear nc nc' hnl hnp
    go_enter Tryz.func69, Tryz.ntmps69
    go_wp2_with fail
    refine HI.out.mono ?_
    rintro e w1 ⟨rfl, hb1⟩
    go_wp2_with fail
    refine (HJ.out w1 hb1).mono ?_
    rintro e w2 ⟨rfl, hb2⟩
    go_wp2
    go_ret
    exact ⟨rfl, hb1.trans (hb2.mono hb1.size)⟩
  · skip
    go_enter Tryz.func69, Tryz.ntmps69
    go_wp2_with fail
    refine HI.out.mono ?_
    rintro e w1 ⟨rfl, hb1⟩
    go_wp2_with fail
    refine (HJ.out w1 hb1).mono ?_
    rintro e w2 ⟨rfl, hb2⟩
    go_wp2
    go_ret
    exact ⟨rfl, hb1.trans (hb2.mono hb1.size)⟩
end Go.Proofs.YtigcogfjclohjaaGreatDoor
