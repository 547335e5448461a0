/- The walk of ActHeads. -/
import Derived.Test.YtigcogfjclohjaaGreatDoorAHeadsE
namespace Go.Proofs.YtigcogfjclohjaaGreatDoor
open Go.RowKit Go.Shelf Go.Lib
open Go.Sort (grow Holds putRow)

set_option maxRecDepth 100000 in
set_option maxHeartbeats 8000000 in
theorem ActHeads_short {w : World} {es el : Value} (hA : AW w es el) (hSy : SynAt w) (s : List UInt8) (a b : Nat) (hs : s.length ≤ 1500) (ha : a ≤ 999) (hb : b ≤ 999) :
    Calls Tryz.prog 7 #[.string (ba s), .int .i64 a, .int .i64 b] w fun e w' => e = .returned (.bool true) ∧ Below w.heap.size w w' := by
  have HD := hid1 (acted_calls hA)
  obtain ⟨x, y, l, n, L, H⟩ := heads s a b
  have hl2 := H.len2
  have hl1 := H.len1
  have hxl := H.xlen
  have hlx : ∀ t : List UInt8, t.length ≤ 1501 → ∀ z ∈ [t], z.length ≤ 10000 := fun t ht z hz => by
    obtain rfl := List.mem_singleton.1 hz
    omega
  have HR : Hid (∀ (k : Nat) (t out : List UInt8) (W : World), k ≤ 999 → t.length ≤ 1501 → Af.told ((Af.lines t).take k) = out → AW W es el → SynAt W → out.length ≤ 2000 → Calls Tryz.prog 28 #[.string ⟨#[104, 101, 97, 100]⟩, .string (ba (Lib.decDigits k)), .slice (some ⟨W.heap.size, 0, none⟩) 1 1] (W.alloc (.cells #[.string (ba t)] 9)) fun e w' => e = .returned (.tuple #[.string (ba out), .nilIface]) ∧ Below W.heap.size W w') := fun k t out W hk ht ho hW hWS hol => by
    have g0 : Below W.heap.size W (W.alloc (.cells #[.string (ba t)] 9)) := (Below.refl _ W).alloc (Nat.le_refl _) _
    refine (Run_head (hW.stays g0) (hWS.below g0) (Lib.decDigits k) k (numM_digits k hk) _ t (trow_new W [t]) (by omega)).mono ?_
    rintro e w' ⟨rfl, g⟩
    rw [ho]
    exact ⟨by rw [told2_ok hol], g0.trans (g.mono g0.size)⟩
  have HR4 : Hid (∀ W, AW W es el → Calls Tryz.prog 28 #[.string ⟨#[108, 105, 110, 101, 115]⟩, .string ⟨#[]⟩, .slice (some ⟨W.heap.size, 0, none⟩) 1 1] (W.alloc (.cells #[.string (ba s)] 9)) fun e w' => e = .returned (.tuple #[.string (ba l), .nilIface]) ∧ Below W.heap.size W w') := fun W hW => by
    have g0 : Below W.heap.size W (W.alloc (.cells #[.string (ba s)] 9)) := (Below.refl _ W).alloc (Nat.le_refl _) _
    refine (Run_lines (hW.stays g0) [] (by simp) _ s (trow_new W [s]) (by omega)).mono ?_
    rintro e w' ⟨rfl, g⟩
    rw [H.ll, H.l1]
    exact ⟨by rw [told2_ok (by omega)], g0.trans (g.mono g0.size)⟩
  have HR5 : Hid (∀ W, AW W es el → Calls Tryz.prog 28 #[.string ⟨#[99, 111, 117, 110, 116]⟩, .string ⟨#[]⟩, .slice (some ⟨W.heap.size, 0, none⟩) 1 1] (W.alloc (.cells #[.string (ba l)] 9)) fun e w' => e = .returned (.tuple #[.string (ba n), .nilIface]) ∧ Below W.heap.size W w') := fun W hW => by
    have := runs_count hW [l] (by simp) (by simp) (hlx l (by omega))
    rw [H.n1] at this
    exact this
  have HX : Hid (∀ W, Calls Tryz.prog 29 #[.string (ba l)] W fun e w' => ∃ v, e = .returned v ∧ TRow w' v L ∧ Below W.heap.size W w') := fun W => by
    have := rLinesOf_calls l (by omega) W
    rw [H.lx] at this
    exact this
  have hLl : L.length ≤ 1501 := by
    have := Af.lines_len l
    rw [H.lx] at this
    omega
  have HDec : Hid (∀ (k : Nat) W, k ≤ 1000000 → Calls Tryz.prog 31 #[.int .i64 (k : Int)] W fun e w' => e = .returned (.string (ba (Lib.decDigits k))) ∧ Below W.heap.size W w') := fun k W hk => Decimal_calls k hk W
  have hyx : y.length ≤ x.length := by
    have h1 : y.length = (Af.told ((L.take a).take b)).length := by rw [← H.z1, List.take_take, Nat.min_comm]
    have h2 := told_take_len (l := L.take a) b
    rw [H.x1] at h2
    omega
  have HE1 : Hid (Af.told ((Af.lines s).take a) = x) := by
    show Af.told ((Af.lines s).take a) = x
    rw [H.ll]; exact H.x1
  have HE2 : Hid (Af.told ((Af.lines x).take b) = y) := H.y1
  have HE3 : Hid (Af.told ((Af.lines s).take (min a b)) = y) := by
    show Af.told ((Af.lines s).take (min a b)) = y
    rw [H.ll]; exact H.z1
  obtain ⟨t, ht⟩ := H.nm
  have HN : Hid (∀ W, Calls Tryz.prog 30 #[.string (ba n), .int .u8 32] W fun e w' => ∃ v g k c, e = .returned v ∧ v = .slice (some ⟨g, 0, none⟩) (k + 1) c ∧ g < w'.heap.size ∧ w'.cell? ⟨g, 0, none⟩ = some (.string (ba (Lib.decDigits L.length))) ∧ Below W.heap.size W w') := fun W => by
    have hl1 : n.length ≤ 1000000 := by have := count_len [l] (by simp) (hlx l (by omega)); rw [H.n1] at this; omega
    refine (rCut_calls n hl1 32 32 rfl W).mono ?_
    rintro e w' ⟨v, rfl, ho, hb⟩
    rw [ht] at ho
    obtain ⟨pa, ca, rfl, hca, hia⟩ := TRow.of_owns ho
    obtain ⟨ga, cura, rfl, hga, hcura⟩ := hia (by simp)
    exact ⟨_, ga, t.length, ca, rfl, rfl, (Array.getElem?_eq_some_iff.1 hga).1, cell_of_row hga (hcura 0 (by simp)), hb⟩
  have HP : Hid (l.take x.length = x) := H.pre
  have hA' := hid1 hA
  have z1 : (s.length : Int) ≤ 1500 := by omega
  have z2 : (a : Int) ≤ 999 := by omega
  have z3 : (b : Int) ≤ 999 := by omega
  have z4 : (0 : Int) ≤ (a : Int) := by omega
  have z5 : (0 : Int) ≤ (b : Int) := by omega
  have hS' := hid1 hSy
  clear H ht hA hlx hSy
  obtain ⟨c, hc, hcm⟩ : ∃ c : Nat, c = min a b ∧ c ≤ 999 := ⟨_, rfl, by omega⟩
  rw [← hc] at HE3
  have HM : Hid (c = min a b) := hc
  clear hc
  have key : Hid ((b < a ∧ b = c) ∨ (a ≤ b ∧ a = c)) := by
    have := HM.out
    show (b < a ∧ b = c) ∨ (a ≤ b ∧ a = c)
    omega
  go_enter Tryz.func7, Tryz.ntmps7
  go_wp2_with fail
  refine Calls.mono HD.out ?_
  rintro e w1 ⟨rfl, g1⟩
  have A1 := hA'.out.stays g1
  have S1 := hS'.out.below g1
  clear HD hA' hS'
  rcases key.out with ⟨hlt, rfl⟩ | ⟨hlt, rfl⟩
  · have d0 : (b : Int) < (a : Int) := by omega
    have zc : (0 : Int) ≤ (b : Int) := by omega
    go_wp2_with fail
    refine Calls.mono (HDec.out a w1 (by omega)) ?_
    rintro e w2 ⟨rfl, k2⟩
    have A2 := A1.stays k2
    have S2 := S1.below k2
    have g2 := g1.trans (k2.mono g1.size)
    clear k2
    go_wp2_with fail
    refine Calls.mono (HR.out a s x w2 (by omega) (by omega) HE1.out A2 S2 (by omega)) ?_
    rintro e w3 ⟨rfl, k3⟩
    have A3 := A2.stays k3
    have S3 := S2.below k3
    have g3 := g2.trans (k3.mono g2.size)
    clear k3 A2 S2
    go_wp2_with fail
    refine Calls.mono (HDec.out b w3 (by omega)) ?_
    rintro e w4 ⟨rfl, k4⟩
    have A4 := A3.stays k4
    have S4 := S3.below k4
    have g4 := g3.trans (k4.mono g3.size)
    clear k4 A3 S3
    go_wp2_with fail
    refine Calls.mono (HR.out b x y w4 (by omega) (by omega) HE2.out A4 S4 (by omega)) ?_
    rintro e w5 ⟨rfl, k5⟩
    have A5 := A4.stays k5
    have S5 := S4.below k5
    have g5 := g4.trans (k5.mono g4.size)
    clear k5 A4 S4
    go_wp2_with fail
    refine Calls.mono (HDec.out b w5 (by omega)) ?_
    rintro e w6 ⟨rfl, k6⟩
    have A6 := A5.stays k6
    have S6 := S5.below k6
    have g6 := g5.trans (k6.mono g5.size)
    clear k6 A5 S5
    go_wp2_with fail
    refine Calls.mono (HR.out b s y w6 (by omega) (by omega) HE3.out A6 S6 (by omega)) ?_
    rintro e w7 ⟨rfl, k7⟩
    have A7 := A6.stays k7
    have g7 := g6.trans (k7.mono g6.size)
    clear k7 A6 S6 HR HE1 HE2 HE3
    go_wp2_with fail
    refine Calls.mono (HR4.out w7 A7) ?_
    rintro e w8 ⟨rfl, k8⟩
    have A8 := A7.stays k8
    have g8 := g7.trans (k8.mono g7.size)
    clear k8 A7
    go_wp2_with fail
    refine Calls.mono (HR5.out w8 A8) ?_
    rintro e w9 ⟨rfl, k9⟩
    have g9 := g8.trans (k9.mono g8.size)
    clear k9 A8 HR4 HR5
    go_wp2_with fail
    refine Calls.mono (HX.out w9) ?_
    rintro e w10 ⟨v, rfl, ⟨p10, c10, rfl, _, _⟩, k10⟩
    have g10 := g9.trans (k10.mono g9.size)
    clear k10 HX g1 g2 g3 g4 g5 g6 g7 g8 g9
    go_wp2
    refine heads_end s x l n L.length p10 c10 _ _ _ (fun _ i _ _ _ h => by cases i <;> exact h) rfl rfl rfl rfl rfl rfl hl1 hl2 hxl HP.out (by omega) hs HN HDec ?_
    intro a' w' hn' hd' h6 hb'
    go_wp2
    have h6' : a'.tmps.getD 6 undef = .bool true := h6
    exact bodyPost_ret (results_tmp (fn := Tryz.f7) (t := 6) rfl _ _ _) hd' ⟨ret_eq h6', below_then g10 hb'⟩
  · have d0 : (a : Int) ≤ (b : Int) := by omega
    have zc : (0 : Int) ≤ (a : Int) := by omega
    go_wp2_with fail
    refine Calls.mono (HDec.out a w1 (by omega)) ?_
    rintro e w2 ⟨rfl, k2⟩
    have A2 := A1.stays k2
    have S2 := S1.below k2
    have g2 := g1.trans (k2.mono g1.size)
    clear k2
    go_wp2_with fail
    refine Calls.mono (HR.out a s x w2 (by omega) (by omega) HE1.out A2 S2 (by omega)) ?_
    rintro e w3 ⟨rfl, k3⟩
    have A3 := A2.stays k3
    have S3 := S2.below k3
    have g3 := g2.trans (k3.mono g2.size)
    clear k3 A2 S2
    go_wp2_with fail
    refine Calls.mono (HDec.out b w3 (by omega)) ?_
    rintro e w4 ⟨rfl, k4⟩
    have A4 := A3.stays k4
    have S4 := S3.below k4
    have g4 := g3.trans (k4.mono g3.size)
    clear k4 A3 S3
    go_wp2_with fail
    refine Calls.mono (HR.out b x y w4 (by omega) (by omega) HE2.out A4 S4 (by omega)) ?_
    rintro e w5 ⟨rfl, k5⟩
    have A5 := A4.stays k5
    have S5 := S4.below k5
    have g5 := g4.trans (k5.mono g4.size)
    clear k5 A4 S4
    go_wp2_with fail
    refine Calls.mono (HDec.out a w5 (by omega)) ?_
    rintro e w6 ⟨rfl, k6⟩
    have A6 := A5.stays k6
    have S6 := S5.below k6
    have g6 := g5.trans (k6.mono g5.size)
    clear k6 A5 S5
    go_wp2_with fail
    refine Calls.mono (HR.out a s y w6 (by omega) (by omega) HE3.out A6 S6 (by omega)) ?_
    rintro e w7 ⟨rfl, k7⟩
    have A7 := A6.stays k7
    have g7 := g6.trans (k7.mono g6.size)
    clear k7 A6 S6 HR HE1 HE2 HE3
    go_wp2_with fail
    refine Calls.mono (HR4.out w7 A7) ?_
    rintro e w8 ⟨rfl, k8⟩
    have A8 := A7.stays k8
    have g8 := g7.trans (k8.mono g7.size)
    clear k8 A7
    go_wp2_with fail
    refine Calls.mono (HR5.out w8 A8) ?_
    rintro e w9 ⟨rfl, k9⟩
    have g9 := g8.trans (k9.mono g8.size)
    clear k9 A8 HR4 HR5
    go_wp2_with fail
    refine Calls.mono (HX.out w9) ?_
    rintro e w10 ⟨v, rfl, ⟨p10, c10, rfl, _, _⟩, k10⟩
    have g10 := g9.trans (k10.mono g9.size)
    clear k10 HX g1 g2 g3 g4 g5 g6 g7 g8 g9
    go_wp2
    refine heads_end s x l n L.length p10 c10 _ _ _ (fun _ i _ _ _ h => by cases i <;> exact h) rfl rfl rfl rfl rfl rfl hl1 hl2 hxl HP.out (by omega) hs HN HDec ?_
    intro a' w' hn' hd' h6 hb'
    go_wp2
    have h6' : a'.tmps.getD 6 undef = .bool true := h6
    exact bodyPost_ret (results_tmp (fn := Tryz.f7) (t := 6) rfl _ _ _) hd' ⟨ret_eq h6', below_then g10 hb'⟩
end Go.Proofs.YtigcogfjclohjaaGreatDoor
