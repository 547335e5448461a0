/- Walk of package path's leftParts. -/
import Derived.Test.YtpkkhabiheobnaaDoorPRows
import Derived.WalkSmall
namespace Go.Proofs.YtpkkhabiheobnaaDoor
open Go.RowKit Go.Shelf Go.Lib

attribute [local go_sem] Oper.semAt_some

/-- What is left so far. -/
def acc (pre : List (List UInt8)) : List (List UInt8) := (Kf.left pre).getD []

set_option maxRecDepth 100000 in
set_option maxHeartbeats 2000000 in
theorem leftParts_in (n : Nat) (hn : 3 ≤ n) (s : List UInt8) (hs : s.length ≤ 1000000) (w : World) :
    CallsIn Fence.wide n Tryd.prog 27 #[.string (ba s)] w fun e W' =>
      ((∃ a v, Kf.left (Kf.parts s) = some a ∧ e = .returned (.tuple #[v, .bool true]) ∧ W'.ownsRow w.heap.size 9 1 v a.length (a.map sv)) ∨
       (Kf.left (Kf.parts s) = none ∧ e = .returned (.tuple #[.slice none 0 0, .bool false]))) ∧ Below w.heap.size w W' := by
  have h1 : 1 ≤ n := by omega
  have hfp : Fence.wide.fn 35 := trivial
  obtain ⟨i0, hi, hz0, hz1, hz2⟩ := info_parts Tryd.infoStr
  refine callsIn_of_wp_marks Tryd.func27 rfl trivial ?_ rfl
  simp only [Tryd.ntmps27, List.size_toArray, List.length_cons, List.length_nil, Nat.reduceAdd, Nat.reduceSub, Array.replicate_succ, Array.replicate_zero, List.push_toArray, List.append_toArray, List.nil_append, List.cons_append]
  gi_wp2_with (gi_at_call 35; refine (parts_in (n - 1) s _).mono ?_; rintro e w' ⟨rfl, rfl⟩)
  have b0 := Boxed.new w 49 (.slice none 0 0)
  have b1 := Boxed.new (w.alloc (.cells #[.slice none 0 0] 49)) 4 (.bool false)
  have b2 := Boxed.new ((w.alloc (.cells #[.slice none 0 0] 49)).alloc (.cells #[.bool false] 4)) 49 (.slice none 0 0)
  have b3 := Boxed.new (((w.alloc (.cells #[.slice none 0 0] 49)).alloc (.cells #[.bool false] 4)).alloc (.cells #[.slice none 0 0] 49)) 9 (.string (ba s))
  simp only [World.size_alloc] at b1 b2 b3
  have hB0 : Below w.heap.size w ((((w.alloc (.cells #[.slice none 0 0] 49)).alloc (.cells #[.bool false] 4)).alloc (.cells #[.slice none 0 0] 49)).alloc (.cells #[.string (ba s)] 9)) :=
    ((((Below.refl _ w).alloc (Nat.le_refl _) _).alloc (by simp) _).alloc (by simp; omega) _).alloc (by simp; omega) _
  refine wpIn_rangeFunc_ownG rfl h1 (gf := 53) (lb := #[.pointer (some ⟨w.heap.size + 1 + 1 + 1, 0, none⟩)]) rfl trivial (enters_of Tryd.func53 (by kernel_rfl) rfl)
    (parts_stops (n - 1) (by omega) (w.heap.size + 1 + 1 + 1) w.heap.size s hs _ (by simp) b3.cell) belowK_t (belowK_b (by simp; omega)) (Below.refl _ _) (fun _ => rfl)
    (fun pre W => ((∃ v, Boxed W (w.heap.size + 1 + 1) 49 v ∧ W.ownsRow w.heap.size 9 1 v (acc pre).length ((acc pre).map sv) ∧ True) ∧ Boxed W w.heap.size 49 (.slice none 0 0) ∧ Boxed W (w.heap.size + 1) 4 (.bool false) ∧ Kf.left pre = some (acc pre)) ∧ Below w.heap.size w W)
    (fun c pre W => (c = .ret ∧ Kf.left pre = none ∧ Boxed W w.heap.size 49 (.slice none 0 0) ∧ Boxed W (w.heap.size + 1) 4 (.bool false)) ∧ Below w.heap.size w W)
    (OwnFrom.and (Own.from (fun s A B row hs hg hr => ⟨holdsRow_own w.heap.size (w.heap.size + 1 + 1) 49 9 1 (fun pre => (acc pre).length) (fun pre => (acc pre).map sv) (fun _ _ => True) s A B row hs.1 hg hr, boxed_own (β := Unit) _ _ (fun _ => _) () A B row hs.2.1 hg hr, boxed_own (β := Unit) _ _ (fun _ => _) () A B row hs.2.2.1 hg hr, hs.2.2.2⟩) _) (ownFrom_below (Nat.le_refl _) (by simp; omega)))
    (fun c => OwnFrom.and (Own.from (fun s A B row hs hg hr => ⟨hs.1, hs.2.1, boxed_own (β := Unit) _ _ (fun _ => _) () A B row hs.2.2.1 hg hr, boxed_own (β := Unit) _ _ (fun _ => _) () A B row hs.2.2.2 hg hr⟩) _) (ownFrom_below (Nat.le_refl _) (by simp; omega)))
    ⟨⟨⟨_, b2.alloc _, World.ownsRow_nil _ _ _ _, trivial⟩, ((b0.alloc _).alloc _).alloc _, (b1.alloc _).alloc _, rfl⟩, hB0⟩
    (fun x => { tmps := #[.string (ba s), undef, .pointer (some ⟨w.heap.size, 0, none⟩), .pointer (some ⟨w.heap.size + 1, 0, none⟩), .pointer (some ⟨w.heap.size + 1 + 1, 0, none⟩), .string (ba x), .string (ba s), .func (.func 53) #[] #[.pointer (some ⟨w.heap.size + 1 + 1 + 1, 0, none⟩)], .string (ba x), undef, undef, undef, undef, undef, undef, undef, undef, undef, undef, undef, undef, undef, undef, undef, undef, undef, undef, undef], defers := [] }) ?assign ?body ?done ?stop
  case assign =>
    intro l x W K hK
    gi_wp2
    exact hK
  case body =>
    rintro l pre x W ⟨⟨⟨v, hv, hrow, _⟩, hb0, hb1, hall⟩, hB⟩ hlt
    have hc := hv.cell
    have hf := hv.frozen
    have hc0 := hb0.cell
    have hf0 := hb0.frozen
    have hc1 := hb1.cell
    have hf1 := hb1.frozen
    have HA : Hid (Kf.left pre = some (acc pre)) := hall
    clear hall
    by_cases hx : x = [] ∨ x = [46]
    · have e1 : Kf.left (pre ++ [x]) = some (acc pre) := by rw [Kf.left_snoc, HA.out]; simp [Kf.step, hx]
      have e2 : acc (pre ++ [x]) = acc pre := by simp [acc, e1]
      have e3 : Kf.left (pre ++ [x]) = some (acc (pre ++ [x])) := by rw [e2]; exact e1
      have fin : KeepsFrom ((((w.alloc (.cells #[.slice none 0 0] 49)).alloc (.cells #[.bool false] 4)).alloc (.cells #[.slice none 0 0] 49)).alloc (.cells #[.string (ba s)] 9)).heap.size W W ∧ Below w.heap.size W W ∧ ((∃ v, Boxed W (w.heap.size + 1 + 1) 49 v ∧ W.ownsRow w.heap.size 9 1 v (acc (pre ++ [x])).length ((acc (pre ++ [x])).map sv) ∧ True) ∧ Boxed W w.heap.size 49 (.slice none 0 0) ∧ Boxed W (w.heap.size + 1) 4 (.bool false) ∧ Kf.left (pre ++ [x]) = some (acc (pre ++ [x]))) ∧ Below w.heap.size w W :=
        ⟨KeepsFrom.refl _ _, Below.refl _ _, ⟨⟨v, hv, by rw [e2]; exact hrow, trivial⟩, hb0, hb1, e3⟩, hB⟩
      have FIN := show Hid _ from fin
      clear fin e1 e2 e3
      rcases hx with rfl | rfl
      · gi_wp2
        exact FIN.out
      · gi_wp2
        exact FIN.out
    · by_cases hx2 : x = [46, 46]
      · subst hx2
        by_cases ha : acc pre = []
        · have e1 : Kf.left (pre ++ [[46, 46]]) = none := by rw [Kf.left_snoc, HA.out, ha]; simp [Kf.step]
          rw [ha] at hrow
          have E1 := show Hid _ from e1
          have HR := show Hid _ from hrow
          clear e1 HA ha hrow hx
          rcases HR.out.2 with ⟨rfl, _⟩ | ⟨g, cap, cur, rfl, _⟩
          · clear HR
            gi_wp2
            exact ⟨((KeepsOthers.setCell _ _ _).from _).trans ((KeepsOthers.setCell _ _ _).from _), ⟨rfl, E1.out, (hb0.set _).other (by omega) _, (hb1.other (by omega) _).set _⟩, (hB.setCell (p := ⟨w.heap.size, 0, none⟩) (by simp) _).setCell (p := ⟨w.heap.size + 1, 0, none⟩) (by simp) _⟩
          · clear HR
            gi_wp2
            exact ⟨((KeepsOthers.setCell _ _ _).from _).trans ((KeepsOthers.setCell _ _ _).from _), ⟨rfl, E1.out, (hb0.set _).other (by omega) _, (hb1.other (by omega) _).set _⟩, (hB.setCell (p := ⟨w.heap.size, 0, none⟩) (by simp) _).setCell (p := ⟨w.heap.size + 1, 0, none⟩) (by simp) _⟩
        · obtain ⟨a, b, hab⟩ : ∃ a b, acc pre = a ++ [b] := ⟨_, _, (List.dropLast_concat_getLast ha).symm⟩
          have e1 : Kf.left (pre ++ [[46, 46]]) = some a := by rw [Kf.left_snoc, HA.out, hab]; simp [Kf.step]
          have e2 : acc (pre ++ [[46, 46]]) = a := by simp [acc, e1]
          have e3 : Kf.left (pre ++ [[46, 46]]) = some (acc (pre ++ [[46, 46]])) := by rw [e2]; exact e1
          rw [hab] at hrow
          simp only [List.length_append, List.length_cons, List.length_nil, Nat.zero_add, List.map_append, List.map_cons, List.map_nil] at hrow
          have E2 := show Hid _ from e2
          have E3 := show Hid _ from e3
          obtain ⟨g, cap, rfl⟩ := ownsRow_succ hrow
          have hlen : a.length ≤ pre.length := by
            have := Kf.left_len pre _ HA.out
            rw [hab] at this
            simp at this; omega
          have hpl : pre.length ≤ 1000001 := by have := Kf.parts_len s; omega
          have hcap : a.length + 1 ≤ cap := by
            rcases hrow.2 with ⟨h, _⟩ | ⟨g', cap', cur, h, _, _, hn, _⟩
            · cases h
            · cases h; exact hn
          have hpop := ownsRow_pop (xs := a.map sv) (by simp) hrow
          have hv' := hv.set (.slice (some ⟨g, 0, none⟩) a.length cap)
          have hr' : (W.setCell ⟨w.heap.size + 1 + 1, 0, none⟩ (.slice (some ⟨g, 0, none⟩) a.length cap)).ownsRow w.heap.size 9 1 (.slice (some ⟨g, 0, none⟩) a.length cap) a.length (a.map sv) :=
            hpop.kept (grownBy_setCell' W _ _) (.inr (hv.not_row (by decide) hpop).symm)
          have HR' : Hid ((W.setCell ⟨w.heap.size + 1 + 1, 0, none⟩ (.slice (some ⟨g, 0, none⟩) a.length cap)).ownsRow w.heap.size 9 1 (.slice (some ⟨g, 0, none⟩) a.length cap) a.length (a.map sv)) := hr'
          have HV : Hid (Boxed (W.setCell ⟨w.heap.size + 1 + 1, 0, none⟩ (.slice (some ⟨g, 0, none⟩) a.length cap)) (w.heap.size + 1 + 1) 49 (.slice (some ⟨g, 0, none⟩) a.length cap)) := hv'
          clear hv' hr' e1 e2 e3 HA ha hrow hx hpop hab
          have c1 : (0 : Int) ≤ (a.length : Int) := by omega
          have c2 : (a.length : Int) ≤ (cap : Int) := by omega
          have c3 : (a.length : Int) ≤ 1000001 := by omega
          gi_wp2
          exact ⟨(KeepsOthers.setCell _ _ _).from _, (Below.refl w.heap.size W).setCell (p := ⟨w.heap.size + 1 + 1, 0, none⟩) (by simp; omega) _, ⟨⟨_, HV.out, by rw [E2.out]; exact HR'.out, trivial⟩, hb0.other (by omega) _, hb1.other (by omega) _, E3.out⟩, hB.setCell (p := ⟨w.heap.size + 1 + 1, 0, none⟩) (by simp; omega) _⟩
      · have hx0 : ¬ x = [] := fun e => hx (.inl e)
        have hx1 : ¬ x = [46] := fun e => hx (.inr e)
        have e1 : Kf.left (pre ++ [x]) = some (acc pre ++ [x]) := by rw [Kf.left_snoc, HA.out]; simp [Kf.step, hx0, hx1, hx2]
        have e2 : acc (pre ++ [x]) = acc pre ++ [x] := by simp [acc, e1]
        have e3 : Kf.left (pre ++ [x]) = some (acc (pre ++ [x])) := by rw [e2]; exact e1
        have E2 := show Hid _ from e2
        have E3 := show Hid _ from e3
        have hlen := Kf.left_len pre _ HA.out
        have hpl : pre.length ≤ 1000001 := by have := Kf.parts_len s; omega
        have hml : (acc pre).length + 1 ≤ maxLen := by unfold maxLen; omega
        have c0 : x.isEmpty = false := by simpa using hx0
        have c1 : (x == [46]) = false := by simpa using hx1
        have c2 : (x == [46, 46]) = false := by simpa using hx2
        clear e1 e2 e3 HA hx
        gi_wp2_with (gi_at_builtin; refine wpListIn_append_own _ rfl _ _ 49 rfl w.heap.size 9 i0 (.string ⟨#[]⟩) 1 16 Tryd.underlying49 hi hz0 hz1 hz2 rfl (by decide) _ _ _ rfl (hrow.alloc _) ⟨W.heap.size, 0, none⟩ 1 1 [.string (ba x)] rfl rfl (cell_one_new _ _ _) (by simp [Value.oneCell']) hml (by omega) (by have := hB.size; simp; omega) ?_; intro v' w1 hown' hgrow _; obtain ⟨g', cap', rfl⟩ := ownsRow_succ hown'; obtain ⟨hv1, hv2, hr2, hk2, hb2⟩ := hv.appended (by decide) hrow hB.size (by omega) hown' hgrow; have hz0' := boxed_appended (v' := .slice (some ⟨g', 0, none⟩) ((acc pre).length + 1) cap') hb0 (by decide) hrow hgrow (show w.heap.size ≠ w.heap.size + 1 + 1 by omega); have hz1' := boxed_appended (v' := .slice (some ⟨g', 0, none⟩) ((acc pre).length + 1) cap') hb1 (by decide) hrow hgrow (show w.heap.size + 1 ≠ w.heap.size + 1 + 1 by omega); have hc1' := hv1.cell; have hf1' := hv1.frozen)
        refine ⟨hk2.from _, hb2, ⟨⟨_, hv2, ?_, trivial⟩, hz0', hz1', E3.out⟩, hB.trans hb2⟩
        rw [E2.out]
        simpa using hr2
  case done =>
    rintro D ys W hD rfl ⟨⟨⟨v, hv, hrow, _⟩, hb0, hb1, hall⟩, hB⟩ hK
    have hc := hv.cell
    have hc0 := hb0.cell
    have hf0 := hb0.frozen
    have hc1 := hb1.cell
    have hf1 := hb1.frozen
    have HA : Hid (Kf.left (Kf.parts s) = some (acc (Kf.parts s))) := hall
    clear hall
    have hform : ∃ a n c, v = .slice a n c := by
      rcases hrow.2 with ⟨h, _⟩ | ⟨g, cap, cur, h, _⟩
      · exact ⟨_, _, _, h⟩
      · exact ⟨_, _, _, h⟩
    obtain ⟨a, n', c, rfl⟩ := hform
    have hD' : w.heap.size + 1 + 1 + 1 + 1 ≤ D := by simpa using hD
    have x0 := (hb0.set (.slice a n' c)).other (B' := w.heap.size + 1) (by omega) (.bool true)
    have x1 := (hb1.other (B' := w.heap.size) (by omega) (.slice a n' c)).set (.bool true)
    have r1 := hrow.kept (grownBy_setCell' W w.heap.size (.slice a n' c)) (.inr (hb0.not_row (by decide) hrow).symm)
    have r2 := r1.kept (grownBy_setCell' _ (w.heap.size + 1) (.bool true)) (.inr ((hb1.other (B' := w.heap.size) (by omega) (.slice a n' c)).not_row (by decide) r1).symm)
    have hK1 := (KeepsOthers.setCell W ⟨w.heap.size, 0, none⟩ (.slice a n' c)).same D _ hK rfl
    have hK' := (KeepsOthers.setCell _ ⟨w.heap.size + 1, 0, none⟩ (.bool true)).same D _ hK1 rfl
    have y0 := (x0.kept (grownBy_putObj' _ D (.deferred none)) (by simp; omega)).cell
    have y1 := (x1.kept (grownBy_putObj' _ D (.deferred none)) (by simp; omega)).cell
    have r3 := ownsRow_putObj r2 (.deferred none) hK' rfl
    have hB' := ((hB.setCell (p := ⟨w.heap.size, 0, none⟩) (by simp) (.slice a n' c)).setCell (p := ⟨w.heap.size + 1, 0, none⟩) (by simp) (.bool true)).trans (belowK_b (w := w) (Nat.le_refl _) _ D _ (.deferred none) (by omega) hK' rfl rfl)
    clear x0 x1 r1 r2 hK1 hrow hv
    gi_wp2
    refine ⟨by simp, .inl ⟨_, _, rfl, run_takeDeferred hK', ?_⟩⟩
    refine ⟨.tuple #[.slice a n' c, .bool true], ?_, .inl ⟨_, _, HA.out, rfl, r3⟩, hB'⟩
    simp [results, Tryd.f27, go_sem, y0, y1]
  case stop =>
    rintro D c pre W hD hpre ⟨⟨rfl, hin, hb0, hb1⟩, hB⟩ hK
    have hD' : w.heap.size + 1 + 1 + 1 + 1 ≤ D := by simpa using hD
    have y0 := (hb0.kept (grownBy_putObj' _ D (.deferred none)) (by simp; omega)).cell
    have y1 := (hb1.kept (grownBy_putObj' _ D (.deferred none)) (by simp; omega)).cell
    have hl : Kf.left (Kf.parts s) = none := by
      obtain ⟨r, hr⟩ := hpre
      rw [← hr]
      exact Kf.left_app_none pre r hin
    gi_wp2
    refine ⟨by simp, .inl ⟨_, _, rfl, run_takeDeferred hK, ?_⟩⟩
    refine ⟨.tuple #[.slice none 0 0, .bool false], ?_, .inr ⟨hl, rfl⟩, hB.trans (belowK_b (w := w) (Nat.le_refl _) W D _ _ (by omega) hK rfl rfl)⟩
    simp [results, Tryd.f27, go_sem, y0, y1]
end Go.Proofs.YtpkkhabiheobnaaDoor
