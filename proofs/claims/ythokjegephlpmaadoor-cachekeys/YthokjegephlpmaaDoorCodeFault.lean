/- plain.Code of a *api.Fault that holds a sentinel: the walk; coded, SameInts. -/
import Derived.Test.YthokjegephlpmaaDoorCode
import Derived.Test.YthokjegephlpmaaDoorErrHit
namespace Go.Proofs.YthokjegephlpmaaDoor
open Go.RowKit Go.Extern.Stop Go.Stop Go.Extern

set_option maxHeartbeats 2000000 in
theorem Code_fault (pb : Nat) (n : Int) (m : Nat) (hm : m < 12) (es : Nat → Addr) (w : World) (hE : E12 w es)
    (h0 : w.cell? ⟨pb, 0, none⟩ = some (.int .i64 n)) (h1 : w.cell? ⟨pb, 1, none⟩ = some (.iface 130 (.pointer (some (es m))))) :
    Calls Tryd.prog 30 #[.iface 74 (.pointer (some ⟨pb, 0, none⟩))] w fun e w' => e = .returned (.tuple #[.int .i64 ((m : Int) + 1), .int .i64 n]) ∧ Below w.heap.size w w' := by
  have hB0 : Below w.heap.size w (w.alloc (.cells #[.pointer none] 74)) := (Below.refl _ w).alloc (Nat.le_refl _) _
  have hE0 := hE.below hB0
  go_enter Tryd.func30, Tryd.ntmps30
  go_wp2_with fail
  refine (as_hit ⟨pb, 0, none⟩ ⟨w.heap.size, 0, none⟩ (.pointer none) _ hE0.t (by simp) (by simp)).mono ?_
  rintro e w1 ⟨rfl, hw1⟩
  have hB1 : Below w.heap.size w w1 := by
    rw [hw1]
    exact (((((hB0.alloc (by simp) _).alloc (by simp; omega) _).alloc (by simp; omega) _).alloc (by simp; omega) _).setCell (p := ⟨w.heap.size, 0, none⟩) (Nat.le_refl _) _)
  have hc1 : w1.cell? ⟨w.heap.size, 0, none⟩ = some (.pointer (some ⟨pb, 0, none⟩)) := by
    rw [hw1]
    refine World.cell?_setCell_same' _ _ _ ?_
    rw [World.cell?_alloc_lt _ _ ⟨w.heap.size, 0, none⟩ (by simp; omega), World.cell?_alloc_lt _ _ ⟨w.heap.size, 0, none⟩ (by simp; omega), World.cell?_alloc_lt _ _ ⟨w.heap.size, 0, none⟩ (by simp; omega), World.cell?_alloc_lt _ _ ⟨w.heap.size, 0, none⟩ (by simp)]
    simp
  clear hw1
  have hE1 := hE.below hB1
  have g0 := cell_below h0 hB1
  have g1 := cell_below h1 hB1
  have k0 := hE1.c0; have k1 := hE1.c1; have k2 := hE1.c2; have k3 := hE1.c3; have k4 := hE1.c4; have k5 := hE1.c5
  have k6 := hE1.c6; have k7 := hE1.c7; have k8 := hE1.c8; have k9 := hE1.c9; have k10 := hE1.c10; have k11 := hE1.c11
  clear hE0 hB0
  go_wp2
  have hB2 : Below w1.heap.size w1 (w1.alloc (.cells (esV es) 32)) := (Below.refl _ w1).alloc (Nat.le_refl _) _
  have hE2 := hE1.below hB2
  have g2 := cell_below g1 hB2
  have hBB := hB1.trans (hB2.mono hB1.size)
  have hsl := es_cells es w1
  unfold esV at hB2 hE2 g2 hBB hsl
  clear k0 k1 k2 k3 k4 k5 k6 k7 k8 k9 k10 k11 hE1 hB2 hE g0 g1 h0 h1 hc1
  generalize w1.alloc _ = W2 at *
  have HE : Hid (E12 W2 es) := hE2
  clear hE2
  go_loop [3, 30] (fun a i => a = .int .i64 n ∧ ∃ k : Nat, k ≤ m ∧ i = .int .i64 k) (fun _ i => 12 - (intOf i).toNat)
  case atStart => exact ⟨rfl, 0, by omega, rfl⟩
  case round =>
    obtain ⟨rfl, k, hk, rfl⟩ := hrel
    have hlt : k < 12 := by omega
    have hck := hsl k hlt
    have hlt' : (k : Int) < 12 := by omega
    have hk0 : (0 : Int) ≤ (k : Int) := by omega
    by_cases hek : k = m
    · subst hek
      clear hsl
      go_wp2_with fail
      refine (is_fault_same pb (es k) _ g2).mono ?_
      rintro e w' ⟨rfl, rfl⟩
      go_wp2
      go_ret2
      exact ⟨rfl, hBB⟩
    · obtain ⟨c, t, hr⟩ := HE.out.rows k hlt
      obtain ⟨c', t', hr'⟩ := HE.out.rows m hm
      have hio := is_fault_other pb (es m) (es k) c' c t' t W2 g2 (HE.out.inj m k hm hlt (fun e => hek e.symm)) hr' hr
      have HI : Hid (Calls Tryd.prog 39 #[.iface 74 (.pointer (some ⟨pb, 0, none⟩)), .iface 130 (.pointer (some (es k)))] W2 fun e w' => e = .returned (.bool false) ∧ w' = W2) := hio
      have hkm : k < m := by omega
      clear hio hsl hr hr' hek
      go_wp2_with fail
      refine HI.out.mono ?_
      rintro e w' ⟨rfl, rfl⟩
      go_wp2
      go_round
      case rel => exact ⟨rfl, k + 1, by omega, by go_num⟩
      case measure => simp [intOf]; omega

theorem coded_nil (c : Int) (w : World) : Calls Tryd.prog 17 #[.nilIface, .int .i64 c] w fun e w' => e = .returned (.bool (decide (0 = c))) ∧ w' = w := by
  by_cases h : 0 = c
  · subst h
    go_enter Tryd.func17, Tryd.ntmps17
    go_wp2_with fail
    refine (Code_nil _).mono ?_
    rintro e w' ⟨rfl, rfl⟩
    go_wp2
    go_ret
    exact ⟨rfl, rfl⟩
  · have hb : ((0 : Int) == c) = false := by simpa using h
    have hd : decide (0 = c) = false := by simpa using h
    rw [hd]
    go_enter Tryd.func17, Tryd.ntmps17
    go_wp2_with fail
    refine (Code_nil _).mono ?_
    rintro e w' ⟨rfl, rfl⟩
    go_wp2
    go_ret
    exact ⟨rfl, rfl⟩

theorem coded_ptr (c : Int) (x : Addr) (es : Nat → Addr) (cx : Array Value) (tx : TypeId) (w : World) (hE : E12 w es) (hx : w.heap[x.block]? = some (.cells cx tx (0, 0))) :
    Calls Tryd.prog 17 #[.iface 130 (.pointer (some x)), .int .i64 c] w fun e w' => e = .returned (.bool (decide (codeOf es x = c))) ∧ Below w.heap.size w w' := by
  have HC : Hid (Calls Tryd.prog 30 #[.iface 130 (.pointer (some x))] w fun e w' => e = .returned (.tuple #[.int .i64 (codeOf es x), .int .i64 (-1)]) ∧ Below w.heap.size w w') := Code_ptr x es cx tx w hE hx
  generalize codeOf es x = y at *
  clear hE hx
  by_cases h : y = c
  · subst h
    have hd : decide (y = y) = true := by simp
    rw [hd]
    go_enter Tryd.func17, Tryd.ntmps17
    go_wp2_with fail
    refine HC.out.mono ?_
    rintro e w' ⟨rfl, hb⟩
    go_wp2
    go_ret
    exact ⟨rfl, hb⟩
  · have hb : (y == c) = false := by simpa using h
    have hd : decide (y = c) = false := by simpa using h
    rw [hd]
    go_enter Tryd.func17, Tryd.ntmps17
    go_wp2_with fail
    refine HC.out.mono ?_
    rintro e w' ⟨rfl, hb⟩
    go_wp2
    go_ret
    exact ⟨rfl, hb⟩
end Go.Proofs.YthokjegephlpmaaDoor
