/- The walk of ActSorts. -/
import Derived.Test.YtigcogfjclohjaaGreatDoorASortsE
namespace Go.Proofs.YtigcogfjclohjaaGreatDoor
open Go.RowKit Go.Shelf Go.Lib
open Go.Sort (grow Holds putRow)

set_option maxRecDepth 100000 in
set_option maxHeartbeats 8000000 in
theorem ActSorts_short {w : World} {es el : Value} (hA : AW w es el) (a b c : List UInt8) (ha : a.length ≤ 500) (hb : b.length ≤ 500) (hc : c.length ≤ 500) :
    Calls Tryz.prog 6 #[.string (ba a), .string (ba b), .string (ba c)] w fun e w' => e = .returned (.bool true) ∧ Below w.heap.size w w' := by
  have HD := hid1 (acted_calls hA)
  obtain ⟨x, u, n, m, S, U, hs⟩ := sorts a b c ha hb hc
  have h3 : ∀ y ∈ [a, b, c], y.length ≤ 10000 := by
    intro y hy
    simp only [List.mem_cons, List.not_mem_nil, or_false] at hy
    rcases hy with rfl | rfl | rfl <;> omega
  have h3' : ∀ y ∈ [c, a, b], y.length ≤ 10000 := by
    intro y hy
    simp only [List.mem_cons, List.not_mem_nil, or_false] at hy
    rcases hy with rfl | rfl | rfl <;> omega
  have hxl := hs.len
  have hul := hs.ulen
  have h1x : ∀ y ∈ [x], y.length ≤ 10000 := by
    intro y hy
    obtain rfl := List.mem_singleton.1 hy
    omega
  have HR1 : Hid (∀ W, AW W es el → Calls Tryz.prog 28 #[.string ⟨#[115, 111, 114, 116]⟩, .string ⟨#[]⟩, .slice (some ⟨W.heap.size, 0, none⟩) 3 3] (W.alloc (.cells #[.string (ba a), .string (ba b), .string (ba c)] 9)) fun e w' => e = .returned (.tuple #[.string (ba x), .nilIface]) ∧ Below W.heap.size W w') := fun W hW => by
    have := runs_sort hW [] (by simp) [a, b, c] (by simp) (by simp) h3 (by rw [hs.x1]; omega)
    rw [hs.x1] at this
    exact this
  have HR2 : Hid (∀ W, AW W es el → Calls Tryz.prog 28 #[.string ⟨#[115, 111, 114, 116]⟩, .string ⟨#[]⟩, .slice (some ⟨W.heap.size, 0, none⟩) 3 3] (W.alloc (.cells #[.string (ba c), .string (ba a), .string (ba b)] 9)) fun e w' => e = .returned (.tuple #[.string (ba x), .nilIface]) ∧ Below W.heap.size W w') := fun W hW => by
    have := runs_sort hW [] (by simp) [c, a, b] (by simp) (by simp) h3' (by rw [hs.x2]; omega)
    rw [hs.x2] at this
    exact this
  have HR3 : Hid (∀ W, AW W es el → Calls Tryz.prog 28 #[.string ⟨#[115, 111, 114, 116]⟩, .string ⟨#[]⟩, .slice (some ⟨W.heap.size, 0, none⟩) 1 1] (W.alloc (.cells #[.string (ba x)] 9)) fun e w' => e = .returned (.tuple #[.string (ba x), .nilIface]) ∧ Below W.heap.size W w') := fun W hW => by
    have := runs_sort hW [] (by simp) [x] (by simp) (by simp) h1x (by rw [hs.x3]; omega)
    rw [hs.x3] at this
    exact this
  have HR4 : Hid (∀ W, AW W es el → Calls Tryz.prog 28 #[.string ⟨#[115, 111, 114, 116]⟩, .string ⟨#[111, 110, 99, 101]⟩, .slice (some ⟨W.heap.size, 0, none⟩) 1 1] (W.alloc (.cells #[.string (ba x)] 9)) fun e w' => e = .returned (.tuple #[.string (ba u), .nilIface]) ∧ Below W.heap.size W w') := fun W hW => by
    have := runs_sort hW oncew (by simp) [x] (by simp) (by simp) h1x (by rw [hs.u1]; omega)
    rw [hs.u1] at this
    exact this
  have HR5 : Hid (∀ W, AW W es el → Calls Tryz.prog 28 #[.string ⟨#[99, 111, 117, 110, 116]⟩, .string ⟨#[]⟩, .slice (some ⟨W.heap.size, 0, none⟩) 3 3] (W.alloc (.cells #[.string (ba a), .string (ba b), .string (ba c)] 9)) fun e w' => e = .returned (.tuple #[.string (ba n), .nilIface]) ∧ Below W.heap.size W w') := fun W hW => by
    have := runs_count hW [a, b, c] (by simp) (by simp) h3
    rw [hs.n1] at this
    exact this
  have HR6 : Hid (∀ W, AW W es el → Calls Tryz.prog 28 #[.string ⟨#[99, 111, 117, 110, 116]⟩, .string ⟨#[]⟩, .slice (some ⟨W.heap.size, 0, none⟩) 1 1] (W.alloc (.cells #[.string (ba x)] 9)) fun e w' => e = .returned (.tuple #[.string (ba m), .nilIface]) ∧ Below W.heap.size W w') := fun W hW => by
    have := runs_count hW [x] (by simp) (by simp) h1x
    rw [hs.m1] at this
    exact this
  have HX : Hid (∀ W, Calls Tryz.prog 29 #[.string (ba x)] W fun e w' => ∃ v, e = .returned v ∧ TRow w' v S ∧ Below W.heap.size W w') := fun W => by
    have := rLinesOf_calls x (by omega) W
    rw [hs.lx] at this
    exact this
  have HU : Hid (∀ W, Calls Tryz.prog 29 #[.string (ba u)] W fun e w' => ∃ v, e = .returned v ∧ TRow w' v U ∧ Below W.heap.size W w') := fun W => by
    have := rLinesOf_calls u (by omega) W
    rw [hs.lu] at this
    exact this
  have hSl : S.length ≤ 1503 := by
    have := Af.lines_len x
    rw [hs.lx] at this
    omega
  have hUl : U.length ≤ 1503 := by
    have := Af.lines_len u
    rw [hs.lu] at this
    omega
  obtain ⟨d, t, t', hn, hm⟩ := hs.nm
  have HN : Hid (∀ (z : List UInt8) W, (z = n ∨ z = m) → Calls Tryz.prog 30 #[.string (ba z), .int .u8 32] W fun e w' => ∃ v g k c, e = .returned v ∧ v = .slice (some ⟨g, 0, none⟩) (k + 1) c ∧ g < w'.heap.size ∧ w'.cell? ⟨g, 0, none⟩ = some (.string (ba d)) ∧ Below W.heap.size W w') := fun z W hz => by
    have hl1 : n.length ≤ 1000000 := by have := count_len [a, b, c] (by simp) h3; rw [hs.n1] at this; omega
    have hl2 : m.length ≤ 1000000 := by have := count_len [x] (by simp) h1x; rw [hs.m1] at this; omega
    refine (rCut_calls z (by rcases hz with rfl | rfl <;> assumption) 32 32 rfl W).mono ?_
    rintro e w' ⟨v, rfl, ho, hb⟩
    obtain ⟨T, hT⟩ : ∃ T, cutB 32 z = d :: T := by
      rcases hz with rfl | rfl
      · exact ⟨_, hn⟩
      · exact ⟨_, hm⟩
    rw [hT] at ho
    obtain ⟨pa, ca, rfl, hca, hia⟩ := TRow.of_owns ho
    obtain ⟨ga, cura, rfl, hga, hcura⟩ := hia (by simp)
    exact ⟨_, ga, T.length, ca, rfl, rfl, (Array.getElem?_eq_some_iff.1 hga).1, cell_of_row hga (hcura 0 (by simp)), hb⟩
  have hrise : Hid (∀ i (h : i + 1 < S.length), Op.bytesLess S[i + 1] S[i] = false) := srt_rise hs.su
  have HK : Hid (U = Lib.compact S) := hs.uc
  have z1 : (a.length : Int) ≤ 500 := by omega
  have z2 : (b.length : Int) ≤ 500 := by omega
  have z3 : (c.length : Int) ≤ 500 := by omega
  have hA' := hid1 hA
  clear hA h3 h3' h1x hs hn hm
  go_enter Tryz.func6, Tryz.ntmps6
  go_wp2_with fail
  refine Calls.mono HD.out ?_
  rintro e w1 ⟨rfl, g1⟩
  have A1 := hA'.out.stays g1
  go_wp2_with fail
  refine Calls.mono (HR1.out w1 A1) ?_
  rintro e w2 ⟨rfl, k2⟩
  have A2 := A1.stays k2
  have g2 := g1.trans (k2.mono g1.size)
  clear g1 A1 k2
  go_wp2_with fail
  refine Calls.mono (HR2.out w2 A2) ?_
  rintro e w3 ⟨rfl, k3⟩
  have A3 := A2.stays k3
  have g3 := g2.trans (k3.mono g2.size)
  clear g2 A2 k3
  go_wp2_with fail
  refine Calls.mono (HR3.out w3 A3) ?_
  rintro e w4 ⟨rfl, k4⟩
  have A4 := A3.stays k4
  have g4 := g3.trans (k4.mono g3.size)
  clear g3 A3 k4
  go_wp2_with fail
  refine Calls.mono (HR4.out w4 A4) ?_
  rintro e w5 ⟨rfl, k5⟩
  have A5 := A4.stays k5
  have g5 := g4.trans (k5.mono g4.size)
  clear g4 A4 k5
  go_wp2_with fail
  refine Calls.mono (HR5.out w5 A5) ?_
  rintro e w6 ⟨rfl, k6⟩
  have A6 := A5.stays k6
  have g6 := g5.trans (k6.mono g5.size)
  clear g5 A5 k6
  go_wp2_with fail
  refine Calls.mono (HR6.out w6 A6) ?_
  rintro e w7 ⟨rfl, k7⟩
  have g7 := g6.trans (k7.mono g6.size)
  clear g6 A6 k7 HR1 HR2 HR3 HR4 HR5 HR6 HD hA'
  go_wp2_with fail
  refine Calls.mono (HX.out w7) ?_
  rintro e w8 ⟨v8, rfl, ⟨p8, c8, rfl, hc8, hin8⟩, k8⟩
  have g8 := g7.trans (k8.mono g7.size)
  clear g7 k8 HX
  have hS8 : Hid (∀ k (hk : k < S.length), ∃ g, p8 = some ⟨g, 0, none⟩ ∧ g < w8.heap.size ∧ w8.cell? ⟨g, k, none⟩ = some (.string (ba S[k]))) := fun k hk => by
    obtain ⟨g, cur, rfl, hg, hcur⟩ := hin8 (by intro e; rw [e] at hk; simp at hk)
    exact ⟨g, rfl, (Array.getElem?_eq_some_iff.1 hg).1, cell_of_row hg (hcur k hk)⟩
  clear hin8 hc8
  have zS : (S.length : Int) ≤ 1503 := by omega
  have zU : (U.length : Int) ≤ 1503 := by omega
  go_wp2
  go_loopw [21] (fun i wr => ∃ k : Nat, 1 ≤ k ∧ k ≤ S.length + 1 ∧ i = .int .i64 k ∧ ∃ q, wr = w8.drewN q) (fun i _ => S.length - (intOf i).toNat)
  case atStart => exact ⟨1, by omega, by omega, rfl, 0, rfl⟩
  case round =>
    obtain ⟨k, hk1, hk2, rfl, q, rfl⟩ := hrel
    by_cases hlt : k < S.length
    · obtain ⟨j, rfl⟩ : ∃ j, k = j + 1 := ⟨k - 1, by omega⟩
      have hr := hrise.out j hlt
      obtain ⟨g, rfl, hg, c1⟩ := hS8.out (j + 1) hlt
      obtain ⟨g', eg, _, c0⟩ := hS8.out j (by omega)
      obtain rfl : g = g' := by simpa using eg
      generalize S[j + 1] = y1 at *
      generalize S[j] = y0 at *
      have v1 : ((j + 1 : Nat) : Int) < (S.length : Int) := by omega
      have v0 : (0 : Int) ≤ ((j + 1 : Nat) : Int) := by omega
      have v2 : (j : Int) + 1 < (S.length : Int) := by omega
      have v3 : (0 : Int) ≤ (j : Int) := by omega
      have v4 : (j : Int) < (S.length : Int) := by omega
      go_wp2
      go_quiet (fail)
      go_wp2
      exact ⟨⟨j + 1 + 1, by omega, by omega, by go_num, q + nq, rfl⟩, by simp [intOf]; omega⟩
    · have v1 : (S.length : Int) ≤ (k : Int) := by omega
      have HU8 := HU.out (w8.drewN q)
      clear hrise
      go_wp2_with fail
      refine Calls.mono HU8 ?_
      rintro e w9 ⟨v9, rfl, ⟨p9, c9, rfl, hc9, hin9⟩, k9⟩
      have k9' : Below w8.heap.size w8 w9 := below_then (below_draws (Below.refl _ w8) q) k9
      have g9 := g8.trans (k9'.mono g8.size)
      have hS9 : Hid (∀ k (hk : k < S.length), ∃ g, p8 = some ⟨g, 0, none⟩ ∧ g < w9.heap.size ∧ w9.cell? ⟨g, k, none⟩ = some (.string (ba S[k]))) := fun k hk => by
        obtain ⟨g, e1, e2, e3⟩ := hS8.out k hk
        exact ⟨g, e1, Nat.lt_of_lt_of_le e2 k9'.size, (cell_below2 k9' e2).trans e3⟩
      have hU9 : Hid (∀ k (hk : k < U.length), ∃ g, p9 = some ⟨g, 0, none⟩ ∧ w9.cell? ⟨g, k, none⟩ = some (.string (ba U[k]))) := fun k hk => by
        obtain ⟨g, cur, rfl, hg, hcur⟩ := hin9 (by intro e; rw [e] at hk; simp at hk)
        exact ⟨g, rfl, cell_of_row hg (hcur k hk)⟩
      clear hin9 hc9 k9 k9' g8 hS8 HU8 HU v1 hlt hk1 hk2
      go_wp2
      go_loopw [23, 24] (fun kk i wr => ∃ j : Nat, j ≤ S.length ∧ i = .int .i64 j ∧ kk = .int .i64 (compactUpTo S.toArray j).length ∧ (compactUpTo S.toArray j).length ≤ U.length ∧ ∃ q, wr = w9.drewN q) (fun _ i _ => S.length - (intOf i).toNat)
      case atStart => exact ⟨0, by omega, rfl, rfl, by simp [compactUpTo], 0, rfl⟩
      case round =>
        obtain ⟨j, hj, rfl, rfl, hkU, q2, rfl⟩ := hrel
        by_cases hlt : j < S.length
        · have v1 : (j : Int) < (S.length : Int) := by omega
          have v0 : (0 : Int) ≤ (j : Int) := by omega
          have KEEP : Hid (keeps S.toArray j = true → compactUpTo S.toArray (j + 1) = compactUpTo S.toArray j ++ [S[j]] ∧ ∃ hx : (compactUpTo S.toArray j).length < U.length, U[(compactUpTo S.toArray j).length] = S[j]) := fun h => by
            obtain ⟨e1, e2, e3⟩ := compact_keep S j hlt h
            have hU' : U = Lib.compact S := HK.out
            subst hU'
            exact ⟨e1, e2, e3 e2⟩
          have SKIP : Hid (keeps S.toArray j = false → compactUpTo S.toArray (j + 1) = compactUpTo S.toArray j) := compact_skip S j
          obtain ⟨g, rfl, hg, c1⟩ := hS9.out j hlt
          rcases Nat.eq_zero_or_pos j with h0 | h0
          · subst h0
            obtain ⟨e1, hx, e2⟩ := KEEP.out (keeps_zero S)
            obtain ⟨gU, rfl, cU⟩ := hU9.out _ hx
            rw [e2] at cU
            have HE := hid1 e1
            clear KEEP SKIP e1 e2
            generalize compactUpTo S.toArray 0 = C at *
            generalize S[0] = y at *
            have d1 : decide ((U.length : Int) ≤ (C.length : Int)) = false := by simp; omega
            have v2 : (C.length : Int) < (U.length : Int) := by omega
            have v3 : (0 : Int) ≤ (C.length : Int) := by omega
            go_wp2
            go_quiet (fail)
            go_wp2
            go_quiet (fail)
            go_wp2
            exact ⟨⟨1, by omega, rfl, by rw [HE.out]; simp, by rw [HE.out]; simp; omega, _, rfl⟩, by simp [intOf]; omega⟩
          · obtain ⟨i, rfl⟩ : ∃ i, j = i + 1 := ⟨j - 1, by omega⟩
            obtain ⟨g', eg, _, c0⟩ := hS9.out i (by omega)
            obtain rfl : g = g' := by simpa using eg
            have HKE := hid1 (keeps_succ S i hlt)
            have d0 : decide ((0 : Int) < ((i + 1 : Nat) : Int)) = true := decide_eq_true (by omega)
            have d0' : decide ((0 : Int) < (i : Int) + 1) = true := decide_eq_true (by omega)
            have v5 : (i : Int) < (S.length : Int) := by omega
            have v6 : (0 : Int) ≤ (i : Int) := by omega
            have v7 : (i : Int) + 1 < (S.length : Int) := by omega
            have v8 : (0 : Int) ≤ (i : Int) + 1 := by omega
            have v9 : IntKind.i64.wrap ((i : Int) + 1 - 1) = (i : Int) := by rw [IntKind.wrap_i64]; omega
            cases hb : S[i + 1] == S[i] with
            | true =>
              have HE := hid1 (SKIP.out (by rw [HKE.out, hb]; rfl))
              clear KEEP SKIP HKE
              generalize compactUpTo S.toArray (i + 1) = C at *
              generalize S[i + 1] = y1 at *
              generalize S[i] = y0 at *
              go_wp2
              go_quiet (fail)
              go_wp2
              exact ⟨⟨i + 1 + 1, by omega, by go_num, by rw [HE.out], by rw [HE.out]; exact hkU, _, rfl⟩, by simp [intOf]; omega⟩
            | false =>
              obtain ⟨e1, hx, e2⟩ := KEEP.out (by rw [HKE.out, hb]; rfl)
              obtain ⟨gU, rfl, cU⟩ := hU9.out _ hx
              rw [e2] at cU
              have HE := hid1 e1
              clear KEEP SKIP e1 e2 HKE
              generalize compactUpTo S.toArray (i + 1) = C at *
              generalize S[i + 1] = y at *
              generalize S[i] = y0 at *
              have d1 : decide ((U.length : Int) ≤ (C.length : Int)) = false := by simp; omega
              have v2 : (C.length : Int) < (U.length : Int) := by omega
              have v3 : (0 : Int) ≤ (C.length : Int) := by omega
              go_wp2
              go_quiet (fail)
              go_wp2
              go_quiet (fail)
              go_wp2
              exact ⟨⟨i + 1 + 1, by omega, by go_num, by rw [HE.out]; simp, by rw [HE.out]; simp; omega, _, rfl⟩, by simp [intOf]; omega⟩
        · obtain rfl : j = S.length := by omega
          have hCU : compactUpTo S.toArray S.length = U := by
            rw [HK.out]
            rfl
          rw [hCU]
          have v1 : (S.length : Int) ≤ (S.length : Int) := by omega
          clear hS9 hU9 hCU HK hkU hj hlt
          go_wp2
          refine sorts_end x n m d p9 U.length c9 _ _ _ (fun _ i _ _ _ h => by cases i <;> exact h) rfl rfl rfl rfl rfl rfl rfl rfl HN ?_
          intro a' w' hn' hd' h6 hb'
          go_wp2
          have h6' : a'.tmps.getD 6 undef = .bool true := h6
          refine bodyPost_ret (results_tmp (fn := Tryz.f6) (t := 6) rfl _ _ _) hd' ⟨ret_eq h6', below_then (below_draws g9 q2) hb'⟩
end Go.Proofs.YtigcogfjclohjaaGreatDoor
