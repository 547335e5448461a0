/- The walk of the document's answer's MatchOf: the last of its table. -/
import Derived.Test.YtigcogfjclohjaaGreatDoorM9
import Derived.Test.YtigcogfjclohjaaGreatDoorRPath
import Derived.BigRegion
import Derived.OwnWalk
import Derived.Deep.RegionHeld3
namespace Go.Proofs.YtigcogfjclohjaaGreatDoor
open Go.RowKit Go.Shelf Go.Lib

theorem Own.below {W W' : World} {B g n : Nat} {f : Nat → Bool} (h : Own W B g n f) (hB : Below W.heap.size W W') : Own W' B g n f := by
  have hl := h.lt.1
  refine ⟨h.1, ?_⟩
  rcases h.2 with ⟨h', _⟩ | ⟨g', cap', cur, h', hb, hg, r⟩
  · cases h'
  · cases h'
    exact .inr ⟨g, n, cur, rfl, hb, (hB.block g hl).trans hg, r⟩

theorem cell_other (w : World) (b k : Nat) (u : Value) (a : Addr) (h : a.block ≠ b) : (w.setCell ⟨b, k, none⟩ u).cell? a = w.cell? a := World.cell?_of_block (w := w) (Below.heap_setCell w ⟨b, k, none⟩ u a.block h)

theorem ret_two {a b : Bool} (h : a = b) : Ending.returned (.tuple #[.bool a, .int .i64 0]) = .returned (.tuple #[.bool b, .int .i64 0]) := by rw [h]

set_option maxRecDepth 100000 in
set_option maxHeartbeats 16000000 in
theorem MatchOf_walk (ps ss : ByteArray) (P L : List (List UInt8)) (hP0 : 0 < P.length) (hP : P.length ≤ 5) (hL0 : 0 < L.length) (hL : L.length ≤ 5) (R : Nat → Nat → Bool) (b : Bool) (hb : Hid (R P.length L.length = b))
    (T : Hid (Table P.length L.length (fun i => P.getD i [] == [42, 42]) (fun i k => fitN (P.getD i []) (L.getD k [])) R))
    (HP : Hid (∀ W, Calls Tryz.prog 52 #[.string ps, .bool true] W fun e w' => ∃ g cap, e = .returned (.slice (some ⟨g, 0, none⟩) P.length cap) ∧ g < w'.heap.size ∧ (∀ (j : Nat) (h : j < P.length), w'.cell? ⟨g, j, none⟩ = some (.string (ba P[j]))) ∧ Below W.heap.size W w'))
    (HL : Hid (∀ W, Calls Tryz.prog 52 #[.string ss, .bool false] W fun e w' => ∃ g cap, e = .returned (.slice (some ⟨g, 0, none⟩) L.length cap) ∧ g < w'.heap.size ∧ (∀ (j : Nat) (h : j < L.length), w'.cell? ⟨g, j, none⟩ = some (.string (ba L[j]))) ∧ Below W.heap.size W w'))
    (HS : Hid (∀ (i k : Nat) (hi : i < P.length) (hk : k < L.length) (W : World), Calls Tryz.prog 53 #[.string (ba P[i]), .string (ba L[k])] W fun e w' => e = .returned (.bool (fitN P[i] L[k])) ∧ Below W.heap.size W w'))
    (w0 : World) :
    Calls Tryz.prog 23 #[.string ps, .string ss] w0 fun e w' => e = .returned (.tuple #[.bool b, .int .i64 0]) ∧ Below w0.heap.size w0 w' := by
  obtain ⟨i0, hi, hz0, hz1, hz2⟩ := info_parts Tryz.infoBool
  have hml : L.length + 1 ≤ maxLen := by unfold maxLen; omega
  have hby : i0.bytes * (L.length + 1) ≤ 281474976710656 := by rw [hz2]; omega
  have zP : ((P.length : Int) == 0) = false := beq_eq_false_iff_ne.2 (by omega)
  have zL : ((L.length : Int) == 0) = false := beq_eq_false_iff_ne.2 (by omega)
  go_enter Tryz.func23, Tryz.ntmps23
  go_wp2_with fail
  refine (HP.out _).mono ?_
  rintro e w1 ⟨gp, cp, rfl, hgp', cP', D1⟩
  go_wp2_with fail
  refine (HL.out _).mono ?_
  rintro e w ⟨gl, cl, rfl, hgl, cL, D2⟩
  have cP : ∀ (j : Nat) (h : j < P.length), w.cell? ⟨gp, j, none⟩ = some (.string (ba P[j])) := fun j h => (D2.cell (p := ⟨gp, j, none⟩) hgp').trans (cP' j h)
  have hgp : gp < w.heap.size := Nat.lt_of_lt_of_le hgp' D2.size
  have D : Below w0.heap.size w0 w := D1.trans (D2.mono D1.size)
  clear HP HL hgp' cP' D1 D2
  go_wp2_with (at_make; refine wpList_make_full _ rfl _ _ 101 rfl w.heap.size 4 i0 (.bool false) 1 Tryz.underlying101 hi hz0 hz1 .i64 .i64 _ _ (L.length + 1) rfl rfl (by omega) (by omega) hby hml (Nat.le_refl _) ?_; intro w1 hown hgrow; have O1 := made_row hown; have hc0 := O1.cell (j := 0) (by omega); have hf0 := World.ownsRow.frozenAt hown 0)
  have B1 : Below w.heap.size w w1 := below_grown (Below.refl _ w) (Nat.le_refl _) hgrow
  have O2 : Own (w1.setCell ⟨w.heap.size, 0, none⟩ (.bool true)) w.heap.size w.heap.size (L.length + 1) (R 0) := O1.set 0 true fun j hj => by
    by_cases e : j = 0
    · subst e; rw [if_pos rfl]; exact T.out.start.symm
    · obtain ⟨j', rfl⟩ : ∃ j', j = j' + 1 := ⟨j - 1, by omega⟩
      rw [if_neg e]; exact (T.out.none j' (by omega)).symm
  have B2 : Below w.heap.size w (w1.setCell ⟨w.heap.size, 0, none⟩ (.bool true)) := B1.setCell (p := ⟨w.heap.size, 0, none⟩) (Nat.le_refl _) _
  clear hown hgrow O1 hc0 hf0 B1
  go_loopw [8, 9] (fun fv iv wr => ∃ (i g : Nat), i ≤ P.length ∧ iv = .int .i64 i ∧ fv = .slice (some ⟨g, 0, none⟩) (L.length + 1) (L.length + 1) ∧ Own wr w.heap.size g (L.length + 1) (R i) ∧ Below w.heap.size w wr) (fun _ iv _ => P.length - (intOf iv).toNat)
  case atStart => exact ⟨0, w.heap.size, by omega, rfl, rfl, O2, B2⟩
  case round =>
    obtain ⟨i, g, hik, rfl, rfl, O, B⟩ := hrel
    clear O2 B2
    by_cases hlt : i < P.length
    · have hBz : w.heap.size ≤ wr.heap.size := B.size
      go_wp2_with (at_make; refine wpList_make_full _ rfl _ _ 101 rfl w.heap.size 4 i0 (.bool false) 1 Tryz.underlying101 hi hz0 hz1 .i64 .i64 _ _ (L.length + 1) rfl rfl (by omega) (by omega) hby hml hBz ?_; intro w2 hown hgrow)
      have N0 := made_row hown
      have O0 := O.grown hgrow
      have Bb : Below w.heap.size w w2 := below_grown B hBz hgrow
      have hne : g ≠ wr.heap.size := Nat.ne_of_lt O.lt.1
      have hgn : w.heap.size ≤ wr.heap.size := hBz
      generalize wr.heap.size = gn at *
      clear hown hgrow O B hBz
      go_loopw [11] (fun kv wr => ∃ k : Nat, k ≤ L.length + 1 ∧ kv = .int .i64 k ∧ Own wr w.heap.size g (L.length + 1) (R i) ∧ Own wr w.heap.size gn (L.length + 1) (fun j => decide (j < k) && R (i + 1) j) ∧ Below w.heap.size w wr) (fun kv _ => L.length + 1 - (intOf kv).toNat)
      case atStart => exact ⟨0, by omega, rfl, O0, by simpa using N0, Bb⟩
      case round =>
        obtain ⟨k, hk, rfl, O, N, B⟩ := hrel
        clear O0 N0 Bb
        by_cases hkl : k < L.length + 1
        · have hk1 : (k : Int) ≤ (L.length : Int) := by omega
          have hfn := World.ownsRow.frozenAt N k
          obtain ⟨xn, hcn⟩ : ∃ x, wr.cell? ⟨gn, k, none⟩ = some (.bool x) := ⟨_, N.cell hkl⟩
          have hcf := O.cell hkl
          have hgnl : gn < wr.heap.size := N.lt.1
          have step : Hid (∀ (W : World) (b : Bool), R (i + 1) k = b → Below wr.heap.size wr W → Own (W.setCell ⟨gn, k, none⟩ (.bool b)) w.heap.size g (L.length + 1) (R i) ∧ Own (W.setCell ⟨gn, k, none⟩ (.bool b)) w.heap.size gn (L.length + 1) (fun j => decide (j < k + 1) && R (i + 1) j) ∧ Below w.heap.size w (W.setCell ⟨gn, k, none⟩ (.bool b))) := fun W b hR hWB => by
            refine ⟨(O.below hWB).other hne k _, (N.below hWB).set k b fun j hj => ?_, (B.trans (hWB.mono B.size)).setCell (p := ⟨gn, k, none⟩) hgn _⟩
            by_cases e : j = k
            · subst e; simp [hR]
            · have : decide (j < k + 1) = decide (j < k) := by simp; omega
              simp [e, this]
          have hcp : wr.cell? ⟨gp, i, none⟩ = some (.string (ba P[i])) := (B.cell (p := ⟨gp, i, none⟩) hgp).trans (cP i hlt)
          by_cases hst : P[i] = [42, 42]
          · have hsi : (P.getD i [] == [42, 42]) = true := by simp [hlt, hst]
            rw [hst] at hcp
            cases hr : R i k with
            | true =>
              rw [hr] at hcf
              have hR : R (i + 1) k = true := by
                cases k with
                | zero => rw [T.out.star0 i hlt hsi, hr]
                | succ k => rw [T.out.star i k hlt (by omega) hsi, hr]; rfl
              have HS : Hid _ := step.out wr true hR (Below.refl _ _)
              clear step hr hR hst hsi
              go_wp2
              exact ⟨⟨k + 1, by omega, by go_num, HS.out.1, HS.out.2.1, HS.out.2.2⟩, by simp [intOf]; omega⟩
            | false =>
              rw [hr] at hcf
              cases k with
              | zero =>
                have hR : R (i + 1) 0 = false := by rw [T.out.star0 i hlt hsi, hr]
                have HS : Hid _ := step.out wr false hR (Below.refl _ _)
                clear step hr hR hst hsi
                go_wp2
                exact ⟨⟨1, by omega, by go_num, HS.out.1, HS.out.2.1, HS.out.2.2⟩, by simp [intOf]⟩
              | succ k =>
                have hk2 : (k : Int) + 1 ≤ (L.length : Int) := by omega
                have hk0 : (0 : Int) < (k : Int) + 1 := by omega
                have hcp := N.cell (j := k) (by omega)
                obtain ⟨b', hb'⟩ : ∃ b', R (i + 1) k = b' := ⟨_, rfl⟩
                have hR : R (i + 1) (k + 1) = b' := by rw [T.out.star i k hlt (by omega) hsi, hr, hb']; rfl
                rw [show (decide (k < k + 1) && R (i + 1) k) = b' by rw [hb']; simp] at hcp
                have HS : Hid _ := step.out wr b' hR (Below.refl _ _)
                clear step hr hR hst hsi hb' hk1
                go_wp2
                exact ⟨⟨k + 1 + 1, by omega, by go_num, HS.out.1, HS.out.2.1, HS.out.2.2⟩, by simp [intOf]; omega⟩
          · have hsi : (P.getD i [] == [42, 42]) = false := by simp [hlt, hst]
            have hpi : P.getD i [] = P[i] := by simp [hlt]
            have HSi : Hid (∀ (k : Nat) (hk : k < L.length) (W : World), Calls Tryz.prog 53 #[.string (ba P[i]), .string (ba L[k])] W fun e w' => e = .returned (.bool (fitN P[i] L[k])) ∧ Below W.heap.size W w') := fun k hk W => HS.out i k hlt hk W
            obtain ⟨x, hx⟩ : ∃ x, P[i] = x := ⟨_, rfl⟩
            rw [hx] at hcp hst hpi HSi
            have ht : (x == [42, 42]) = false := by simpa using hst
            clear hx hst
            cases k with
            | zero =>
              have hR : R (i + 1) 0 = false := T.out.lit0 i hlt hsi
              have HS : Hid (∀ q, Own _ _ _ _ _ ∧ Own _ _ _ _ _ ∧ Below _ _ _) := fun q => step.out (wr.drewN q) false hR (below_draws (Below.refl _ _) q)
              clear step hR hsi
              go_wp2
              go_region
              all_goals
                go_wp2
                exact ⟨⟨1, by omega, by go_num, (HS.out _).1, (HS.out _).2.1, (HS.out _).2.2⟩, by simp [intOf]⟩
            | succ k =>
              have hk2 : (k : Int) + 1 ≤ (L.length : Int) := by omega
              have hk0 : (0 : Int) < (k : Int) + 1 := by omega
              have hks : k < L.length := by omega
              have hcq := O.cell (j := k) (by omega)
              cases hr : R i k with
              | false =>
                rw [hr] at hcq
                have hR : R (i + 1) (k + 1) = false := by rw [T.out.lit i k hlt (by omega) hsi, hr]; rfl
                have HS : Hid (∀ q, Own _ _ _ _ _ ∧ Own _ _ _ _ _ ∧ Below _ _ _) := fun q => step.out (wr.drewN q) false hR (below_draws (Below.refl _ _) q)
                clear step hr hR hsi hk1
                go_wp2
                go_region
                all_goals
                  go_wp2
                  exact ⟨⟨k + 1 + 1, by omega, by go_num, (HS.out _).1, (HS.out _).2.1, (HS.out _).2.2⟩, by simp [intOf]; omega⟩
              | true =>
                rw [hr] at hcq
                have hly := (B.cell (p := ⟨gl, k, none⟩) hgl).trans (cL k hks)
                have HSk : Hid (∀ (W : World), Calls Tryz.prog 53 #[.string (ba x), .string (ba L[k])] W fun e w' => e = .returned (.bool (fitN x L[k])) ∧ Below W.heap.size W w') := fun W => HSi.out k hks W
                have hR : R (i + 1) (k + 1) = fitN x L[k] := by
                  rw [T.out.lit i k hlt (by omega) hsi, hr, Bool.true_and, hpi]
                  simp [hks]
                obtain ⟨y, hy⟩ : ∃ y, L[k] = y := ⟨_, rfl⟩
                rw [hy] at hly HSk hR
                have HS2 : Hid (∀ W, Below wr.heap.size wr W → Own _ _ _ _ _ ∧ Own _ _ _ _ _ ∧ Below _ _ _) := fun W hW => step.out W _ hR hW
                generalize fitN x y = c at *
                have hgg : g < wr.heap.size := O.lt.1
                have hgp5 : gp < wr.heap.size := Nat.lt_of_lt_of_le hgp B.size
                have hgl5 : gl < wr.heap.size := Nat.lt_of_lt_of_le hgl B.size
                have hpn : gp ≠ gn := by omega
                have hln : gl ≠ gn := by omega
                have q0 : (0 : Int) ≤ (k : Int) := by omega
                have q1 : (k : Int) < (L.length : Int) + 1 := by omega
                have q2 : (k : Int) < (L.length : Int) := by omega
                have q3 : (0 : Int) ≤ (i : Int) := by omega
                have q4 : (i : Int) < (P.length : Int) := by omega
                have q5 : (k : Int) + 1 < (L.length : Int) + 1 := by omega
                have q6 : (0 : Int) ≤ (k : Int) + 1 := by omega
                have q7 : (k : Int) ≤ (L.length : Int) := by omega
                have q8 : IntKind.i64.wrap (k : Int) = (k : Int) := by rw [IntKind.wrap_i64]; omega
                have q9 : IntKind.i64.wrap ((k : Int) + 1 - 1) = (k : Int) := by rw [IntKind.wrap_i64]; omega
                have q10 : IntKind.i64.wrap (((k + 1 : Nat) : Int) - 1) = (k : Int) := by rw [IntKind.wrap_i64]; omega
                clear step hr hR hsi hk1 hy HSi hpi hcf T hb HS cP cL hi hz0 hz1 hz2 hml hby zP zL O N B hP hP0 hL0 hgp hgl hgn
                go_wp2
                go_region_held3 (fun w' => w'.cell? ⟨g, k, none⟩ = some (.bool true) ∧ w'.cell? ⟨gp, i, none⟩ = some (.string (ba x)) ∧ w'.cell? ⟨gl, k, none⟩ = some (.string (ba y))) (first | go_keep | exact ⟨(cell_other _ _ _ _ _ hne).trans (by assumption), (cell_other _ _ _ _ _ hpn).trans (by assumption), (cell_other _ _ _ _ _ hln).trans (by assumption)⟩)
                  (first | (go_at_call 53; refine (HSk.out _).mono ?_; rintro e w5 ⟨rfl, hb5⟩; have hcn5 := (hb5.cell (p := ⟨gn, k + 1, none⟩) hgnl).trans hcn; have hfn5 := (hb5.frozen (p := ⟨gn, k + 1, none⟩) hgnl).trans hfn; have hcq5 := (hb5.cell (p := ⟨g, k, none⟩) hgg).trans hcq; have hcp5 := (hb5.cell (p := ⟨gp, i, none⟩) hgp5).trans hcp; have hly5 := (hb5.cell (p := ⟨gl, k, none⟩) hgl5).trans hly))
                all_goals
                  go_wp2
                  exact ⟨⟨k + 1 + 1, by omega, by go_num, (HS2.out _ ((Below.refl _ wr).drew.trans (by assumption))).1, (HS2.out _ ((Below.refl _ wr).drew.trans (by assumption))).2.1, (HS2.out _ ((Below.refl _ wr).drew.trans (by assumption))).2.2⟩, by simp [intOf]; omega⟩
        · have hkk : k = L.length + 1 := by omega
          have hgt : (L.length : Int) < (k : Int) := by omega
          have N' : Own wr w.heap.size gn (L.length + 1) (R (i + 1)) := by
            have e : rowB (L.length + 1) (fun j => decide (j < k) && R (i + 1) j) = rowB (L.length + 1) (R (i + 1)) := rowB_congr fun j hj => by simp [show j < k by omega]
            unfold Own at N ⊢
            rw [e] at N
            exact N
          clear hkk
          go_wp2
          exact ⟨⟨i + 1, gn, by omega, by go_num, rfl, N', B⟩, by simp [intOf]; omega⟩
    · have hii : i = P.length := by omega
      have hge : (P.length : Int) ≤ (i : Int) := by omega
      have hcl := O.cell (j := L.length) (by omega)
      have HB : Hid (R i L.length = b) := by rw [hii]; exact hb
      clear hii
      go_wp2
      go_ret2
      exact ⟨ret_two HB.out, D.trans (B.mono D.size)⟩
end Go.Proofs.YtigcogfjclohjaaGreatDoor
/- What the document's answer's MatchOf answers of a pattern and a path. -/
namespace Go.Proofs.YtigcogfjclohjaaGreatDoor
open Go.RowKit Go.Shelf Go.Lib

theorem MatchOf_yes (p s : List UInt8) (hp : p.length ≤ 1000000) (hs : s.length ≤ 1000000) (h1 : okR true p = true) (h2 : okR false s = true) (w : World) :
    Calls Tryz.prog 23 #[.string (ba p), .string (ba s)] w fun e w' => e = .returned (.tuple #[.bool (fitL 20 (Kf.parts p) (Kf.parts s)), .int .i64 0]) ∧ Below w.heap.size w w' := by
  obtain ⟨l1, n1⟩ := okR_parts' h1
  obtain ⟨l2, n2⟩ := okR_parts' h2
  refine MatchOf_walk (ba p) (ba s) (Kf.parts p) (Kf.parts s) (List.length_pos_iff.2 (Kf.parts_ne p)) l1 (List.length_pos_iff.2 (Kf.parts_ne s)) l2 (fun i k => fitL 20 ((Kf.parts p).take i) ((Kf.parts s).take k)) _
    (show fitL 20 ((Kf.parts p).take (Kf.parts p).length) ((Kf.parts s).take (Kf.parts s).length) = _ by rw [List.take_length, List.take_length]) ?_ (partsOf_yes true p hp h1) (partsOf_yes false s hs h2) ?_ w
  · refine table_of twoS fitN _ _ _ _ (fun i h => ?_) (fun i k h h' => ?_) _ (fun i k _ _ => fitL_Wd 20 _ _ (by simp; omega))
    · simp [twoS, h]
    · simp [h, h']
  · exact fun i k hi hk W => starOf_calls _ _ (Nat.le_trans (name_len (n1 _ (List.getElem_mem hi))) (by omega)) (Nat.le_trans (name_len (n2 _ (List.getElem_mem hk))) (by omega)) W
end Go.Proofs.YtigcogfjclohjaaGreatDoor
