/- What package path's fitParts answers: the words for its walks. -/
import Derived.Test.YtpkkhabiheobnaaGreatDoorFitName
import Derived.Deep.RegionWith
import Derived.Test.YtpkkhabiheobnaaGreatDoorM4
namespace Go.Proofs.YtpkkhabiheobnaaGreatDoor
open Go.RowKit Go.Shelf Go.Lib

/-- A slice value that reads as texts. -/
def Row (w : World) (v : Value) (l : List (List UInt8)) : Prop :=
  ∃ g o cap, v = .slice (some ⟨g, o, none⟩) l.length cap ∧ l.length ≤ cap ∧ g < w.heap.size ∧ ∀ (j : Nat) (h : j < l.length), w.cell? ⟨g, o + j, none⟩ = some (.string (ba l[j]))

theorem Row.below {w w' : World} {v : Value} {l : List (List UInt8)} (h : Row w v l) (hb : Below w.heap.size w w') : Row w' v l := by
  obtain ⟨g, o, cap, h1, h2, h3, h4⟩ := h
  exact ⟨g, o, cap, h1, h2, Nat.lt_of_lt_of_le h3 hb.size, fun j hj => (hb.cell (p := ⟨g, o + j, none⟩) h3).trans (h4 j hj)⟩

/-- What fitParts answers, at such and such fuel. -/
def FitOk (f : Nat) : Prop := ∀ (pat names : List (List UInt8)) (pv nv : Value) (m : Int) (w : World), pat.length + names.length < f →
  (∀ x ∈ pat, x.length ≤ 1000000) → (∀ x ∈ names, x.length ≤ 1000000) → pat.length ≤ 1000 → names.length ≤ 1000 → w.cell? ⟨14, 0, none⟩ = some (.int .i64 m) → Row w pv pat → Row w nv names →
  Calls Tryz.prog 55 #[pv, nv] w fun e w' => e = .returned (.bool (fitL f pat names)) ∧ Below w.heap.size w w'
end Go.Proofs.YtpkkhabiheobnaaGreatDoor
/- Walks of package path's isPatternName, and of slices.Collect over parts. -/
namespace Go.Proofs.YtpkkhabiheobnaaGreatDoor
open Go.RowKit Go.Shelf Go.Lib

attribute [local go_sem] Oper.semAt_some

/-- A letter of a pattern. -/
def pletter (x : Nat) : Bool := x == 42 || letter x

set_option maxHeartbeats 1000000 in
theorem isPatternName1_calls (x : Nat) (w : World) :
    Calls Tryz.prog 77 #[.int .i32 x] w fun e w' => e = .returned (.bool (pletter x)) ∧ ∃ q, w' = w.drewN q := by
  by_cases h : x = 42
  · subst h
    go_enter Tryz.func77, Tryz.ntmps77
    go_wp2
    go_ret
    exact ⟨rfl, 0, rfl⟩
  · have b : ((x : Int) == 42) = false := by simp; omega
    have HP : Hid (pletter x = letter x) := by
      show pletter x = letter x
      simp [pletter, h]
    go_enter Tryz.func77, Tryz.ntmps77
    go_wp2_with fail
    refine (isLetter_calls x _).mono ?_
    rintro e w' ⟨rfl, q, rfl⟩
    go_wp2
    go_ret
    exact ⟨ret_bool (by rw [HP.out]), q, rfl⟩

theorem pletter_kind : KindIs 77 pletter := ⟨enters_of Tryz.func77 (by kernel_rfl) rfl, isPatternName1_calls⟩

theorem isPatternName_calls (s : ByteArray) (w : World) :
    Calls Tryz.prog 54 #[.string s] w fun e w' => e = .returned (.bool (nameK pletter s)) ∧ Below w.heap.size w w' := by
  go_enter Tryz.func54, Tryz.ntmps54
  go_wp2_with fail
  refine (madeOf_calls 77 pletter pletter_kind s _).mono ?_
  rintro e w' ⟨rfl, hb⟩
  go_wp2
  go_ret
  exact ⟨rfl, hb⟩
theorem isPatternName_well : WellIs 54 (nameK pletter) := ⟨enters_of Tryz.func54 (by kernel_rfl) rfl, isPatternName_calls⟩

set_option maxRecDepth 100000 in
set_option maxHeartbeats 2000000 in
theorem AppendSeq_in (n : Nat) (hn : 3 ≤ n) (Bn : Nat) (s : List UInt8) (hs : s.length ≤ 1000000) (w : World) (hBn : Bn < w.heap.size) (hc : w.cell? ⟨Bn, 0, none⟩ = some (.string (ba s))) :
    CallsIn Fence.wide n Tryz.prog 73 #[.slice none 0 0, .func (.func 80) #[] #[.pointer (some ⟨Bn, 0, none⟩)]] w fun e W' =>
      ∃ v, e = .returned v ∧ W'.ownsRow w.heap.size 9 1 v (Kf.parts s).length ((Kf.parts s).map sv) ∧ Below w.heap.size w W' := by
  have h1 : 1 ≤ n := by omega
  obtain ⟨i0, hi, hz0, hz1, hz2⟩ := info_parts Tryz.infoStr
  refine callsIn_of_wp_marks Tryz.func73 rfl trivial ?_ rfl
  simp only [Tryz.ntmps73, List.size_toArray, List.length_cons, List.length_nil, Nat.reduceAdd, Nat.reduceSub, Array.replicate_succ, Array.replicate_zero, List.push_toArray, List.append_toArray, List.nil_append, List.cons_append]
  gi_wp2
  have b0 := Boxed.new w 41 (.slice none 0 0)
  have hB0 : Below w.heap.size w (w.alloc (.cells #[.slice none 0 0] 41)) := (Below.refl _ w).alloc (Nat.le_refl _) _
  have hc' : (w.alloc (.cells #[.slice none 0 0] 41)).cell? ⟨Bn, 0, none⟩ = some (.string (ba s)) := (hB0.cell (p := ⟨Bn, 0, none⟩) hBn).trans hc
  refine wpIn_rangeFunc_ownG rfl h1 (gf := 80) (lb := #[.pointer (some ⟨Bn, 0, none⟩)]) rfl trivial (enters_of Tryz.func80 (by kernel_rfl) rfl)
    (parts_stops (n - 1) (by omega) Bn w.heap.size s hs _ (by simp; omega) hc') belowK_t (belowK_b (by simp)) (Below.refl _ _) (fun _ => rfl)
    (fun pre W => (∃ v, Boxed W w.heap.size 41 v ∧ W.ownsRow w.heap.size 9 1 v pre.length (pre.map sv) ∧ True) ∧ Below w.heap.size w W)
    (fun _ _ _ => False)
    (OwnFrom.and (Own.from (holdsRow_own w.heap.size w.heap.size 41 9 1 (fun pre : List (List UInt8) => pre.length) (fun pre => pre.map sv) (fun _ _ => True)) _) (ownFrom_below (Nat.le_refl _) (by simp)))
    (fun _ _ _ _ _ hs _ _ => hs)
    ⟨⟨_, b0, World.ownsRow_nil _ _ _ _, trivial⟩, hB0⟩
    (fun x => { tmps := #[.slice none 0 0, .func (.func 80) #[] #[.pointer (some ⟨Bn, 0, none⟩)], .pointer (some ⟨w.heap.size, 0, none⟩), undef, .slice none 0 0, .string (ba x), .func (.func 80) #[] #[.pointer (some ⟨Bn, 0, none⟩)], .string (ba x), undef, undef, undef, undef, undef], defers := [] }) ?assign ?body ?done ?stop
  case assign =>
    intro l x W K hK
    gi_wp2
    exact hK
  case body =>
    rintro l pre x W ⟨⟨v, hv, hrow, _⟩, hB⟩ hlt
    have hc := hv.cell
    have hpl : pre.length ≤ 1000001 := by have := Kf.parts_len s; omega
    have hml : pre.length + 1 ≤ maxLen := by unfold maxLen; omega
    gi_wp2_with (gi_at_builtin; refine wpListIn_append_own _ rfl _ _ 41 rfl w.heap.size 9 i0 (.string ⟨#[]⟩) 1 16 Tryz.underlying41 hi hz0 hz1 hz2 rfl (by decide) _ _ _ rfl (hrow.alloc _) ⟨W.heap.size, 0, none⟩ 1 1 [.string (ba x)] rfl rfl (cell_one_new _ _ _) (by simp [Value.oneCell']) hml (by omega) (by have := hB.size; simp; omega) ?_; intro v' w1 hown' hgrow _; obtain ⟨g', cap', rfl⟩ := ownsRow_succ hown'; obtain ⟨hv1, hv2, hr2, hk2, hb2⟩ := hv.appended (by decide) hrow hB.size (Nat.le_refl _) hown' hgrow; have hc1 := hv1.cell; have hf1 := hv1.frozen)
    exact ⟨hk2.from _, hb2, ⟨_, hv2, by simpa using hr2, trivial⟩, hB.trans hb2⟩
  case done =>
    rintro D ys W hD rfl ⟨⟨v, hv, hrow, _⟩, hB⟩ hK
    have hc := hv.cell
    gi_wp2
    refine ⟨by simp, .inl ⟨_, _, rfl, run_takeDeferred hK, ?_⟩⟩
    exact ⟨_, results_tmp rfl _ _ _, v, rfl, ownsRow_putObj hrow _ hK rfl, hB.trans (belowK_b (w := w) (Nat.le_refl _) W D _ _ (by simp at hD; omega) hK rfl rfl)⟩
  case stop =>
    rintro D c pre W _ _ h _
    exact h.elim

theorem Collect_calls (Bn : Nat) (s : List UInt8) (hs : s.length ≤ 1000000) (w : World) (hBn : Bn < w.heap.size) (hc : w.cell? ⟨Bn, 0, none⟩ = some (.string (ba s))) :
    Calls Tryz.prog 50 #[.func (.func 80) #[] #[.pointer (some ⟨Bn, 0, none⟩)]] w fun e W' =>
      ∃ v, e = .returned v ∧ W'.ownsRow w.heap.size 9 1 v (Kf.parts s).length ((Kf.parts s).map sv) ∧ Below w.heap.size w W' := by
  have HA : Hid (Calls Tryz.prog 73 #[.slice none 0 0, .func (.func 80) #[] #[.pointer (some ⟨Bn, 0, none⟩)]] w fun e W' =>
      ∃ v, e = .returned v ∧ W'.ownsRow w.heap.size 9 1 v (Kf.parts s).length ((Kf.parts s).map sv) ∧ Below w.heap.size w W') := callsIn_wide.1 (AppendSeq_in 3 (by omega) Bn s hs w hBn hc)
  go_enter Tryz.func50, Tryz.ntmps50
  go_wp2_with fail
  refine HA.out.mono ?_
  rintro e w1 ⟨v, rfl, hrow, hB⟩
  go_wp2
  go_ret
  exact ⟨v, rfl, hrow, hB⟩
end Go.Proofs.YtpkkhabiheobnaaGreatDoor
/- What package path's CheckPattern and Match answer. -/
namespace Go.Proofs.YtpkkhabiheobnaaGreatDoor
open Go.RowKit Go.Shelf Go.Lib

theorem pletter_high (x : Nat) (h : 128 ≤ x) : pletter x = false := by
  have := letter_high x h
  simp [pletter, this]; omega

theorem nameK_P (l : List UInt8) : nameK pletter (ba l) = nameR true l := by
  have h := idx_bytes pletter pletter_high l (ba l).size 0 (by rw [ba_size]; omega)
  unfold nameK nameR Lib.idxFunc
  rw [h, ba_toList, ba_size]
  simp [byteOk, pletter, Bool.or_comm]

theorem patB_R (s : List UInt8) : allB (nameK pletter) (Kf.parts s) = okR true s := by
  unfold allB okR
  congr 1
  exact List.all_congr rfl (fun p => nameK_P p)

theorem row_of_owns {W : World} {base : Nat} {v : Value} {s : List UInt8} (h : W.ownsRow base 9 1 v (Kf.parts s).length ((Kf.parts s).map sv)) : Row W v (Kf.parts s) := by
  have hne := Kf.parts_ne s
  generalize Kf.parts s = l at *
  obtain ⟨g, cap, rfl⟩ : ∃ g cap, v = .slice (some ⟨g, 0, none⟩) l.length cap := by
    cases l with
    | nil => exact absurd rfl hne
    | cons x xs => exact ownsRow_succ h
  obtain ⟨hc, hg, hcap⟩ := owns_cells h
  exact ⟨g, 0, cap, rfl, hcap, hg, fun j hj => hc j (ba l[j]) (by rw [List.getElem?_map, List.getElem?_eq_getElem hj]; rfl)⟩

theorem CheckPattern_yes (p : List UInt8) (hp : p.length ≤ 1000000) (h1 : okR true p = true) (w : World) :
    Calls Tryz.prog 38 #[.string (ba p)] w fun e w' => e = .returned .nilIface ∧ Below w.heap.size w w' := by
  have HA : Hid (∀ W, Calls Tryz.prog 53 #[.string (ba p), .func (.func 54) #[] #[]] W fun e W' => e = .returned (.bool true) ∧ Below W.heap.size W W') := fun W => by
    have := callsIn_wide.1 (allParts_in 3 (by omega) 54 (nameK pletter) isPatternName_well p hp W)
    rw [patB_R, h1] at this
    exact this
  clear h1
  go_enter Tryz.func38, Tryz.ntmps38
  go_wp2_with fail
  refine (HA.out _).mono ?_
  rintro e w1 ⟨rfl, g1⟩
  go_wp2
  go_ret
  exact ⟨rfl, g1⟩

theorem CheckPattern_no (p : List UInt8) (hp : p.length ≤ 1000000) (h1 : okR true p = false) (w : World) (t : TypeId) (u : Value) (hg : w.cell? ⟨4, 0, none⟩ = some (.iface t u)) :
    Calls Tryz.prog 38 #[.string (ba p)] w fun e w' => e = .returned (.iface t u) ∧ Below w.heap.size w w' := by
  have HA : Hid (∀ W, Calls Tryz.prog 53 #[.string (ba p), .func (.func 54) #[] #[]] W fun e W' => e = .returned (.bool false) ∧ Below W.heap.size W W') := fun W => by
    have := callsIn_wide.1 (allParts_in 3 (by omega) 54 (nameK pletter) isPatternName_well p hp W)
    rw [patB_R, h1] at this
    exact this
  clear h1
  go_enter Tryz.func38, Tryz.ntmps38
  go_wp2_with fail
  refine (HA.out _).mono ?_
  rintro e w1 ⟨rfl, g1⟩
  have hg' := (g1.cell (p := ⟨4, 0, none⟩) (lt_of_cell hg)).trans hg
  go_wp2
  go_ret
  exact ⟨rfl, g1⟩

set_option maxHeartbeats 4000000 in
theorem Match_yes (hfit : FitOk 20) (p s : List UInt8) (hp : p.length ≤ 1000000) (hs : s.length ≤ 1000000) (h1 : okR true p = true) (h2 : okR false s = true) (m : Int) (w : World) (hm : w.cell? ⟨14, 0, none⟩ = some (.int .i64 m)) :
    Calls Tryz.prog 39 #[.string (ba p), .string (ba s)] w fun e w' => e = .returned (.tuple #[.bool (fitL 20 (Kf.parts p) (Kf.parts s)), .nilIface]) ∧ Below w.heap.size w w' := by
  have HA : Hid (∀ W, Calls Tryz.prog 38 #[.string (ba p)] W fun e W' => e = .returned .nilIface ∧ Below W.heap.size W W') := fun W => CheckPattern_yes p hp h1 W
  have HK : Hid (∀ W, Calls Tryz.prog 48 #[.string (ba s)] W fun e w' => e = .returned .nilIface ∧ Below W.heap.size W w') := fun W => Check_yes s hs (by rw [pathB_R]; exact h2) W
  have HP : Hid (∀ (t : List UInt8) W, Calls Tryz.prog 56 #[.string (ba t)] W fun e w' => e = .returned (.func (.func 80) #[] #[.pointer (some ⟨W.heap.size, 0, none⟩)]) ∧ w' = W.alloc (.cells #[.string (ba t)] 9)) := fun t W => callsIn_wide.1 (parts_in 3 t W)
  have HC : Hid (∀ (t : List UInt8), t.length ≤ 1000000 → ∀ (W : World), Calls Tryz.prog 50 #[.func (.func 80) #[] #[.pointer (some ⟨W.heap.size, 0, none⟩)]] (W.alloc (.cells #[.string (ba t)] 9)) fun e W' =>
      ∃ v, e = .returned v ∧ Row W' v (Kf.parts t) ∧ Below W.heap.size W W') := fun t ht W => by
    refine (Collect_calls W.heap.size t ht _ (by simp) (Boxed.new W 9 (.string (ba t))).cell).mono ?_
    rintro e W' ⟨v, rfl, hrow, hB⟩
    exact ⟨v, rfl, row_of_owns hrow, ((Below.refl _ W).alloc (Nat.le_refl _) _).trans (hB.mono (by simp))⟩
  have h5 := h1
  have h6 := h2
  unfold okR at h5 h6
  simp only [Bool.and_eq_true, decide_eq_true_eq] at h5 h6
  have HF : Hid (∀ (pv nv : Value) (W : World), Below w.heap.size w W → Row W pv (Kf.parts p) → Row W nv (Kf.parts s) →
      Calls Tryz.prog 55 #[pv, nv] W fun e w' => e = .returned (.bool (fitL 20 (Kf.parts p) (Kf.parts s))) ∧ Below W.heap.size W w') := fun pv nv W hW hR hS =>
    hfit (Kf.parts p) (Kf.parts s) pv nv m W (by omega) (fun x hx => Nat.le_trans (part_len hx) hp) (fun x hx => Nat.le_trans (part_len hx) hs) (by omega) (by omega) (cell_below' hm hW) hR hS
  clear h5 h6 h1 h2
  generalize fitL 20 (Kf.parts p) (Kf.parts s) = b at *
  go_enter Tryz.func39, Tryz.ntmps39
  go_wp2_with fail
  refine (HA.out _).mono ?_
  rintro e w1 ⟨rfl, g1⟩
  go_wp2_with fail
  refine (HK.out _).mono ?_
  rintro e w2 ⟨rfl, g2'⟩
  have g2 := g1.trans (g2'.mono g1.size)
  clear g1 g2'
  go_wp2_with fail
  refine (HP.out _ _).mono ?_
  rintro e w3 ⟨rfl, rfl⟩
  go_wp2_with fail
  refine (HC.out p hp w2).mono ?_
  rintro e w4 ⟨v1, rfl, r1, g4'⟩
  have g4 := g2.trans (g4'.mono g2.size)
  clear g2 g4'
  go_wp2_with fail
  refine (HP.out _ _).mono ?_
  rintro e w5 ⟨rfl, rfl⟩
  go_wp2_with fail
  refine (HC.out s hs w4).mono ?_
  rintro e w6 ⟨v2, rfl, r2, g6'⟩
  have g6 := g4.trans (g6'.mono g4.size)
  have r1' := r1.below g6'
  clear g4 g6' r1
  go_wp2_with fail
  refine (HF.out v1 v2 _ g6 r1' r2).mono ?_
  rintro e w7 ⟨rfl, g7⟩
  go_wp2
  go_ret2
  exact ⟨rfl, g6.trans (g7.mono g6.size)⟩

set_option maxHeartbeats 4000000 in
theorem Match_noPat (p s : List UInt8) (hp : p.length ≤ 1000000) (h1 : okR true p = false) (w : World) (t : TypeId) (u : Value) (hg : w.cell? ⟨4, 0, none⟩ = some (.iface t u)) :
    Calls Tryz.prog 39 #[.string (ba p), .string (ba s)] w fun e w' => e = .returned (.tuple #[.bool false, .iface t u]) ∧ Below w.heap.size w w' := by
  have HA : Hid (Calls Tryz.prog 38 #[.string (ba p)] w fun e W' => e = .returned (.iface t u) ∧ Below w.heap.size w W') := CheckPattern_no p hp h1 w t u hg
  clear h1
  go_enter Tryz.func39, Tryz.ntmps39
  go_wp2_with fail
  refine HA.out.mono ?_
  rintro e w1 ⟨rfl, g1⟩
  go_wp2
  go_ret2
  exact ⟨rfl, g1⟩

set_option maxHeartbeats 4000000 in
theorem Match_noPath (p s : List UInt8) (hp : p.length ≤ 1000000) (hs : s.length ≤ 1000000) (h1 : okR true p = true) (h2 : okR false s = false) (w : World) (t : TypeId) (u : Value) (hg : w.cell? ⟨4, 0, none⟩ = some (.iface t u)) :
    Calls Tryz.prog 39 #[.string (ba p), .string (ba s)] w fun e w' => e = .returned (.tuple #[.bool false, .iface t u]) ∧ Below w.heap.size w w' := by
  have HA : Hid (∀ W, Calls Tryz.prog 38 #[.string (ba p)] W fun e W' => e = .returned .nilIface ∧ Below W.heap.size W W') := fun W => CheckPattern_yes p hp h1 W
  have HK : Hid (∀ W, W.cell? ⟨4, 0, none⟩ = some (.iface t u) → Calls Tryz.prog 48 #[.string (ba s)] W fun e w' => e = .returned (.iface t u) ∧ Below W.heap.size W w') := fun W hW => Check_no s hs (by rw [pathB_R]; exact h2) W t u hW
  clear h1 h2
  go_enter Tryz.func39, Tryz.ntmps39
  go_wp2_with fail
  refine (HA.out _).mono ?_
  rintro e w1 ⟨rfl, g1⟩
  have hg' := (g1.cell (p := ⟨4, 0, none⟩) (lt_of_cell hg)).trans hg
  go_wp2_with fail
  refine (HK.out _ hg').mono ?_
  rintro e w2 ⟨rfl, g2⟩
  go_wp2
  go_ret2
  exact ⟨rfl, g1.trans (g2.mono g1.size)⟩
end Go.Proofs.YtpkkhabiheobnaaGreatDoor
