/- The walk of the document's answer's starOf: the last of its table. -/
import Derived.Test.YtpkkhabiheobnaaDoorRows2
import Derived.Test.YtpkkhabiheobnaaDoorCut
import Derived.BigRegion
import Derived.OwnWalk
namespace Go.Proofs.YtpkkhabiheobnaaDoor
open Go.RowKit Go.Shelf Go.Lib

set_option maxRecDepth 100000 in
set_option maxHeartbeats 8000000 in
theorem starOf_walk (ps ss : ByteArray) (p s : List UInt8) (Tp : Txt ps p) (Ts : Txt ss s) (hp : p.length ≤ 1000) (hs : s.length ≤ 1000) (R : Nat → Nat → Bool) (b : Bool) (hb : Hid (R p.length s.length = b))
    (T : Hid (Table p.length s.length (fun i => p.getD i 0 == 42) (fun i k => s.getD k 0 == p.getD i 0) R)) (w : World) :
    Calls Tryd.prog 36 #[.string ps, .string ss] w fun e w' => e = .returned (.bool b) ∧ Below w.heap.size w w' := by
  obtain ⟨i0, hi, hz0, hz1, hz2⟩ := info_parts Tryd.infoBool
  have zp : ps.size = p.length := Tp.size
  have zs : ss.size = s.length := Ts.size
  have hml : s.length + 1 ≤ maxLen := by unfold maxLen; omega
  have hby : i0.bytes * (s.length + 1) ≤ 281474976710656 := by rw [hz2]; omega
  go_enter Tryd.func36, Tryd.ntmps36
  go_wp2_with (at_make; refine wpList_make_full _ rfl _ _ 67 rfl w.heap.size 4 i0 (.bool false) 1 Tryd.underlying67 hi hz0 hz1 .i64 .i64 _ _ (s.length + 1) rfl rfl (by omega) (by omega) hby hml (Nat.le_refl _) ?_; intro w1 hown hgrow; have O1 := made_row hown; have hc0 := O1.cell (j := 0) (by omega); have hf0 := World.ownsRow.frozenAt hown 0)
  have B1 : Below w.heap.size w w1 := below_grown (Below.refl _ w) (Nat.le_refl _) hgrow
  have O2 : Own (w1.setCell ⟨w.heap.size, 0, none⟩ (.bool true)) w.heap.size w.heap.size (s.length + 1) (R 0) := O1.set 0 true fun j hj => by
    by_cases e : j = 0
    · subst e; rw [if_pos rfl]; exact T.out.start.symm
    · obtain ⟨j', rfl⟩ : ∃ j', j = j' + 1 := ⟨j - 1, by omega⟩
      rw [if_neg e]; exact (T.out.none j' (by omega)).symm
  have B2 : Below w.heap.size w (w1.setCell ⟨w.heap.size, 0, none⟩ (.bool true)) := B1.setCell (p := ⟨w.heap.size, 0, none⟩) (Nat.le_refl _) _
  clear hown hgrow O1 hc0 hf0 B1
  go_loopw [5, 6] (fun fv iv wr => ∃ (i g : Nat), i ≤ p.length ∧ iv = .int .i64 i ∧ fv = .slice (some ⟨g, 0, none⟩) (s.length + 1) (s.length + 1) ∧ Own wr w.heap.size g (s.length + 1) (R i) ∧ Below w.heap.size w wr) (fun _ iv _ => p.length - (intOf iv).toNat)
  case atStart => exact ⟨0, w.heap.size, by omega, rfl, rfl, O2, B2⟩
  case round =>
    obtain ⟨i, g, hik, rfl, rfl, O, B⟩ := hrel
    clear O2 B2
    by_cases hlt : i < p.length
    · have hlt2 : i < ps.size := by omega
      have hBz : w.heap.size ≤ wr.heap.size := B.size
      go_wp2_with (at_make; refine wpList_make_full _ rfl _ _ 67 rfl w.heap.size 4 i0 (.bool false) 1 Tryd.underlying67 hi hz0 hz1 .i64 .i64 _ _ (s.length + 1) rfl rfl (by omega) (by omega) hby hml hBz ?_; intro w2 hown hgrow)
      have N0 := made_row hown
      have O0 := O.grown hgrow
      have Bb : Below w.heap.size w w2 := below_grown B hBz hgrow
      have hne : g ≠ wr.heap.size := Nat.ne_of_lt O.lt.1
      have hgn : w.heap.size ≤ wr.heap.size := hBz
      generalize wr.heap.size = gn at *
      clear hown hgrow O B hBz
      go_loopw [8] (fun kv wr => ∃ k : Nat, k ≤ s.length + 1 ∧ kv = .int .i64 k ∧ Own wr w.heap.size g (s.length + 1) (R i) ∧ Own wr w.heap.size gn (s.length + 1) (fun j => decide (j < k) && R (i + 1) j) ∧ Below w.heap.size w wr) (fun kv _ => s.length + 1 - (intOf kv).toNat)
      case atStart => exact ⟨0, by omega, rfl, O0, by simpa using N0, Bb⟩
      case round =>
        obtain ⟨k, hk, rfl, O, N, B⟩ := hrel
        clear O0 N0 Bb
        by_cases hkl : k < s.length + 1
        · have hk1 : (k : Int) ≤ (ss.size : Int) := by omega
          have hfn := World.ownsRow.frozenAt N k
          obtain ⟨xn, hcn⟩ : ∃ x, wr.cell? ⟨gn, k, none⟩ = some (.bool x) := ⟨_, N.cell hkl⟩
          have hcf := O.cell hkl
          have step : Hid (∀ (W : World) (b : Bool), R (i + 1) k = b → W.heap = wr.heap → Below w.heap.size wr W → Own (W.setCell ⟨gn, k, none⟩ (.bool b)) w.heap.size g (s.length + 1) (R i) ∧ Own (W.setCell ⟨gn, k, none⟩ (.bool b)) w.heap.size gn (s.length + 1) (fun j => decide (j < k + 1) && R (i + 1) j) ∧ Below w.heap.size w (W.setCell ⟨gn, k, none⟩ (.bool b))) := fun W b hR hW hWB => by
            have O' : Own W w.heap.size g (s.length + 1) (R i) := by unfold Own World.ownsRow at O ⊢; rw [hW]; exact O
            have N' : Own W w.heap.size gn (s.length + 1) (fun j => decide (j < k) && R (i + 1) j) := by unfold Own World.ownsRow at N ⊢; rw [hW]; exact N
            refine ⟨O'.other hne k _, N'.set k b fun j hj => ?_, (B.trans hWB).setCell (p := ⟨gn, k, none⟩) hgn _⟩
            by_cases e : j = k
            · subst e; simp [hR]
            · have : decide (j < k + 1) = decide (j < k) := by simp; omega
              simp [e, this]
          by_cases hst : p[i] = 42
          · have hsi : (p.getD i 0 == 42) = true := by simp [hlt, hst]
            have ht : ((ps[i].toNat : Int) == 42) = true := by rw [Tp.get i hlt hlt2, hst]; rfl
            cases hr : R i k with
            | true =>
              rw [hr] at hcf
              have hR : R (i + 1) k = true := by
                cases k with
                | zero => rw [T.out.star0 i hlt hsi, hr]
                | succ k => rw [T.out.star i k hlt (by omega) hsi, hr]; rfl
              have HS : Hid _ := step.out wr true hR rfl (Below.refl _ _)
              clear step hr hR hst hsi
              go_wp2
              exact ⟨⟨k + 1, by omega, by go_num, HS.out.1, HS.out.2.1, HS.out.2.2⟩, by simp [intOf]; omega⟩
            | false =>
              rw [hr] at hcf
              cases k with
              | zero =>
                have hR : R (i + 1) 0 = false := by rw [T.out.star0 i hlt hsi, hr]
                have HS : Hid _ := step.out wr false hR rfl (Below.refl _ _)
                clear step hr hR hst hsi
                go_wp2
                exact ⟨⟨1, by omega, by go_num, HS.out.1, HS.out.2.1, HS.out.2.2⟩, by simp [intOf]⟩
              | succ k =>
                have hk2 : (k : Int) + 1 ≤ (ss.size : Int) := by omega
                have hk0 : (0 : Int) < (k : Int) + 1 := by omega
                have hcp := N.cell (j := k) (by omega)
                obtain ⟨b', hb'⟩ : ∃ b', R (i + 1) k = b' := ⟨_, rfl⟩
                have hR : R (i + 1) (k + 1) = b' := by rw [T.out.star i k hlt (by omega) hsi, hr, hb']; rfl
                rw [show (decide (k < k + 1) && R (i + 1) k) = b' by rw [hb']; simp] at hcp
                have HS : Hid _ := step.out wr b' hR rfl (Below.refl _ _)
                clear step hr hR hst hsi hb' hk1
                go_wp2
                exact ⟨⟨k + 1 + 1, by omega, by go_num, HS.out.1, HS.out.2.1, HS.out.2.2⟩, by simp [intOf]; omega⟩
          · have hsi : (p.getD i 0 == 42) = false := by simp [hlt, hst]
            have ht : ((ps[i].toNat : Int) == 42) = false := by
              rw [Tp.get i hlt hlt2]
              simp
              intro e
              exact hst (UInt8.toNat_inj.1 (by have : p[i].toNat = 42 := by omega
                                               exact this))
            cases k with
            | zero =>
              have hR : R (i + 1) 0 = false := T.out.lit0 i hlt hsi
              have HS : Hid (∀ q, Own _ _ _ _ _ ∧ Own _ _ _ _ _ ∧ Below _ _ _) := fun q => step.out (wr.drewN q) false hR rfl (below_draws (Below.refl _ _) q)
              clear step hR hst hsi
              go_wp2
              go_region
              all_goals
                go_wp2
                exact ⟨⟨1, by omega, by go_num, (HS.out _).1, (HS.out _).2.1, (HS.out _).2.2⟩, by simp [intOf]⟩
            | succ k =>
              have hk2 : (k : Int) + 1 ≤ (ss.size : Int) := by omega
              have hk0 : (0 : Int) < (k : Int) + 1 := by omega
              have hks : k < s.length := by omega
              have hkb : k < ss.size := by omega
              have hcq := O.cell (j := k) (by omega)
              cases hr : R i k with
              | false =>
                rw [hr] at hcq
                have hR : R (i + 1) (k + 1) = false := by rw [T.out.lit i k hlt (by omega) hsi, hr]; rfl
                have HS : Hid (∀ q, Own _ _ _ _ _ ∧ Own _ _ _ _ _ ∧ Below _ _ _) := fun q => step.out (wr.drewN q) false hR rfl (below_draws (Below.refl _ _) q)
                clear step hr hR hst hsi hk1
                go_wp2
                go_region
                all_goals
                  go_wp2
                  exact ⟨⟨k + 1 + 1, by omega, by go_num, (HS.out _).1, (HS.out _).2.1, (HS.out _).2.2⟩, by simp [intOf]; omega⟩
              | true =>
                rw [hr] at hcq
                have hR : R (i + 1) (k + 1) = ((ss[k].toNat : Int) == (ps[i].toNat : Int)) := by
                  rw [T.out.lit i k hlt (by omega) hsi, hr, Bool.true_and, Tp.get i hlt hlt2, Ts.get k hks hkb]
                  simp only [List.getD_eq_getElem?_getD, List.getElem?_eq_getElem hlt, List.getElem?_eq_getElem hks, Option.getD_some]
                  rw [Bool.eq_iff_iff]
                  simp only [beq_iff_eq]
                  exact ⟨fun e => by rw [e], fun e => UInt8.toNat_inj.1 (by omega)⟩
                have HS : Hid (∀ q, Own _ _ _ _ _ ∧ Own _ _ _ _ _ ∧ Below _ _ _) := fun q => step.out (wr.drewN q) _ hR rfl (below_draws (Below.refl _ _) q)
                clear step hr hR hst hsi hk1
                go_wp2
                go_region
                all_goals
                  go_wp2
                  exact ⟨⟨k + 1 + 1, by omega, by go_num, (HS.out _).1, (HS.out _).2.1, (HS.out _).2.2⟩, by simp [intOf]; omega⟩
        · have hkk : k = s.length + 1 := by omega
          have hgt : (ss.size : Int) < (k : Int) := by omega
          have N' : Own wr w.heap.size gn (s.length + 1) (R (i + 1)) := by
            have e : rowB (s.length + 1) (fun j => decide (j < k) && R (i + 1) j) = rowB (s.length + 1) (R (i + 1)) := rowB_congr fun j hj => by simp [show j < k by omega]
            unfold Own at N ⊢
            rw [e] at N
            exact N
          clear hkk
          go_wp2
          exact ⟨⟨i + 1, gn, by omega, by go_num, rfl, N', B⟩, by simp [intOf]; omega⟩
    · have hii : i = p.length := by omega
      have hge : (ps.size : Int) ≤ (i : Int) := by omega
      have hcl := O.cell (j := s.length) (by omega)
      have HB : Hid (R i s.length = b) := by rw [hii]; exact hb
      clear hii
      go_wp2
      go_ret
      exact ⟨ret_bool HB.out, B⟩
end Go.Proofs.YtpkkhabiheobnaaDoor
