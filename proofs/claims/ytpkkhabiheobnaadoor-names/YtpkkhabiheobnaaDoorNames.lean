/- SameInts at two lists of the same numbers, and the walk of Names. -/
import Derived.Test.YtpkkhabiheobnaaDoorCodeFault
import Derived.WalkSmall
import Derived.RangeFuncBox
namespace Go.Proofs.YtpkkhabiheobnaaDoor
open Go.RowKit Go.Extern.Stop Go.Stop Go.Extern

set_option maxHeartbeats 1000000 in
theorem SameInts_same (A B n ca cb : Nat) (f : Nat → Int) (hn : n ≤ 1000) (w : World) (ha : ∀ k, k < n → w.cell? ⟨A, k, none⟩ = some (.int .i64 (f k))) (hb : ∀ k, k < n → w.cell? ⟨B, k, none⟩ = some (.int .i64 (f k))) :
    Calls Tryd.prog 8 #[.slice (some ⟨A, 0, none⟩) n ca, .slice (some ⟨B, 0, none⟩) n cb] w fun e w' => e = .returned (.bool true) ∧ ∃ q, w' = w.drewN q := by
  have hn' : (n : Int) ≤ 1000 := by omega
  go_enter Tryd.func8, Tryd.ntmps8
  go_wp2
  go_loopw [5] (fun i wr => ∃ k : Nat, k ≤ n ∧ i = .int .i64 k ∧ ∃ q, wr = w.drewN q) (fun i _ => n - (intOf i).toNat)
  case atStart => exact ⟨0, by omega, rfl, 0, rfl⟩
  case round =>
    obtain ⟨k, hk, rfl, q, rfl⟩ := hrel
    by_cases hlt : k < n
    · have h1 : w.cell? ⟨A, k, none⟩ = some (.int .i64 (f k)) := ha k hlt
      have h2 : w.cell? ⟨B, k, none⟩ = some (.int .i64 (f k)) := hb k hlt
      have c1 : (k : Int) < (n : Int) := by omega
      have c0 : (0 : Int) ≤ (k : Int) := by omega
      clear ha hb
      go_wp2
      go_region
      go_wp2
      go_roundw
      case rel => exact ⟨k + 1, by omega, by go_num, q + 1, rfl⟩
      case measure => simp [intOf]; omega
    · have c1 : (n : Int) ≤ (k : Int) := by omega
      clear ha hb
      go_wp2
      go_ret
      exact ⟨rfl, q, rfl⟩

theorem errNew_calls (t : ByteArray) (w : World) : Calls Tryd.prog 11 #[.string t] w fun e w' => e = .returned (.iface 54 (.pointer (some ⟨w.heap.size, 0, none⟩))) ∧ w' = w.alloc (.cells #[.string t] 56) := by
  go_enter Tryd.func11, Tryd.ntmps11
  go_wp2
  go_ret
  exact ⟨rfl, rfl⟩

/-- package api's bounds. -/
def bounds : Array Value := #[.int .i64 12, .int .i64 5, .int .i64 2000, .int .i64 60, .int .i64 40, .int .i64 8, .int .i64 10000, .int .i64 100, .int .i64 3000, .int .i64 100, .int .i64 16]
def boundAt (k : Nat) : Int := [12, 5, 2000, 60, 40, 8, 10000, 100, 3000, 100, 16].getD k 0
theorem bounds_cells (W : World) (B k : Nat) (hk : k < 11) (h : ∀ j, W.cell? ⟨B, j, none⟩ = bounds[j]?) : W.cell? ⟨B, k, none⟩ = some (.int .i64 (boundAt k)) := by
  rw [h]
  have : k = 0 ∨ k = 1 ∨ k = 2 ∨ k = 3 ∨ k = 4 ∨ k = 5 ∨ k = 6 ∨ k = 7 ∨ k = 8 ∨ k = 9 ∨ k = 10 := by omega
  rcases this with rfl | rfl | rfl | rfl | rfl | rfl | rfl | rfl | rfl | rfl | rfl <;> rfl

set_option maxHeartbeats 2000000 in
theorem Names_calls (es : Nat → Addr) (w : World) (hE : E12 w es) :
    Calls Tryd.prog 3 #[] w fun e w' => e = .returned (.bool true) ∧ Below w.heap.size w w' := by
  have hB0 : Below w.heap.size w ((w.alloc (.cells bounds 3)).alloc (.cells bounds 3)) := ((Below.refl _ w).alloc (Nat.le_refl _) _).alloc (by simp) _
  have hs := SameInts_same w.heap.size (w.heap.size + 1) 11 11 11 boundAt (by omega) ((w.alloc (.cells bounds 3)).alloc (.cells bounds 3))
    (fun k hk => bounds_cells _ _ k hk (fun j => by rw [World.cell?_alloc_lt _ _ ⟨w.heap.size, j, none⟩ (by simp)]; simp))
    (fun k hk => bounds_cells _ _ k hk (fun j => by rw [World.cell?_alloc_at _ _ _ _ (by simp)]))
  unfold bounds at hB0 hs
  go_enter Tryd.func3, Tryd.ntmps3
  go_wp2_with fail
  refine hs.mono ?_
  rintro e w1 ⟨rfl, q, rfl⟩
  have hB1 := below_drewN hB0 q
  have hE1 := hE.below hB1
  clear hs hB0
  generalize World.drewN _ q = w1 at *
  have k0 := hE1.c0; have k1 := hE1.c1; have k2 := hE1.c2; have k3 := hE1.c3; have k4 := hE1.c4; have k5 := hE1.c5
  have k6 := hE1.c6; have k7 := hE1.c7; have k8 := hE1.c8; have k9 := hE1.c9; have k10 := hE1.c10; have k11 := hE1.c11
  go_wp2
  have hB2 : Below w1.heap.size w1 (w1.alloc (.cells (esV es) 25)) := (Below.refl _ w1).alloc (Nat.le_refl _) _
  have hE2 := hE1.below hB2
  have hBB := hB1.trans (hB2.mono hB1.size)
  have hsl := es_cells es w1
  have hS : w1.heap.size < (w1.alloc (.cells (esV es) 25)).heap.size := by simp
  unfold esV at hB2 hE2 hBB hsl hS
  clear k0 k1 k2 k3 k4 k5 k6 k7 k8 k9 k10 k11 hE1 hB2 hE hB1
  generalize hSz : w1.heap.size = S at *
  generalize w1.alloc _ = W2 at *
  go_loopw [4] (fun i wr => ∃ k : Nat, k ≤ 12 ∧ i = .int .i64 k ∧ Below W2.heap.size W2 wr) (fun i _ => 12 - (intOf i).toNat)
  case atStart => exact ⟨0, by omega, rfl, Below.refl _ _⟩
  case round =>
    obtain ⟨k, hk, rfl, hbr⟩ := hrel
    have hEr := hE2.below hbr
    by_cases hlt : k < 12
    · have hck := cell_below (hsl k hlt) hbr
      have hlt' : (k : Int) < 12 := by omega
      have hk0 : (0 : Int) ≤ (k : Int) := by omega
      have hB3 : Below wr.heap.size wr (wr.alloc (.cells #[.int .i64 7, .iface 54 (.pointer (some (es k)))] 31)) := (Below.refl _ wr).alloc (Nat.le_refl _) _
      have hE3 := hEr.below hB3
      have hbr3 := hbr.trans (hB3.mono hbr.size)
      have hcd : codeOf es (es k) = (k : Int) + 1 := codeOf_some hlt rfl (fun j hj => hE2.inj j k (by omega) hlt (by omega))
      have HCD : Hid (codeOf es (es k) = (k : Int) + 1) := hcd
      have HSL : Hid (W2.cell? ⟨S, k, none⟩ = some (.iface 54 (.pointer (some (es k))))) := hsl k hlt
      clear hsl hSz hcd
      go_wp2_with fail
      refine (Code_fault wr.heap.size 7 k hlt es _ hE3 (by simp) (by simp)).mono ?_
      rintro e w4 ⟨rfl, hb4⟩
      have hbr4 := hbr3.trans (hb4.mono hbr3.size)
      have hE4 := hE2.below hbr4
      have hck4 := cell_below HSL.out hbr4
      obtain ⟨c, t, hr⟩ := hE4.rows k hlt
      have hcp := coded_ptr ((k : Int) + 1) (es k) es c t w4 hE4 hr
      rw [HCD.out, show decide ((k : Int) + 1 = (k : Int) + 1) = true from decide_eq_true rfl] at hcp
      have HCP : Hid (Calls Tryd.prog 10 #[.iface 54 (.pointer (some (es k))), .int .i64 ((k : Int) + 1)] w4 fun e w' => e = .returned (.bool true) ∧ Below w4.heap.size w4 w') := hcp
      clear hcp hr hck hB3 hE3 hEr hbr
      go_wp2_with fail
      refine HCP.out.mono ?_
      rintro e w5 ⟨rfl, hb5⟩
      have hbr5 := hbr4.trans (hb5.mono hbr4.size)
      go_wp2
      go_roundw
      case rel => exact ⟨k + 1, by omega, by go_num, hbr5⟩
      case measure => simp [intOf]; omega
    · have hge : (12 : Int) ≤ (k : Int) := by omega
      clear hsl
      go_wp2_with fail
      refine (errNew_calls _ wr).mono ?_
      rintro e w4 ⟨rfl, hw4⟩
      have hb4 : Below wr.heap.size wr w4 := by rw [hw4]; exact (Below.refl _ wr).alloc (Nat.le_refl _) _
      have hE4 := hEr.below hb4
      have hrow : w4.heap[wr.heap.size]? = some (.cells #[.string ⟨#[97, 110, 111, 116, 104, 101, 114, 32, 111, 110, 101]⟩] 56 (0, 0)) := by rw [hw4]; exact World.alloc_heap_new wr _
      have hno : codeOf es ⟨wr.heap.size, 0, none⟩ = -1 := codeOf_none (fun j hj e => by
        obtain ⟨c, t, hr⟩ := hEr.rows j hj
        have := (Array.getElem?_eq_some_iff.1 hr).1
        rw [e] at this
        simp at this)
      have hcp := Code_ptr ⟨wr.heap.size, 0, none⟩ es _ _ w4 hE4 hrow
      rw [hno] at hcp
      have HCP : Hid (Calls Tryd.prog 9 #[.iface 54 (.pointer (some ⟨wr.heap.size, 0, none⟩))] w4 fun e w' => e = .returned (.tuple #[.int .i64 (-1), .int .i64 (-1)]) ∧ Below w4.heap.size w4 w') := hcp
      have hbr4 := hbr.trans (hb4.mono hbr.size)
      clear hcp hw4 hrow hno
      go_wp2_with fail
      refine HCP.out.mono ?_
      rintro e w5 ⟨rfl, hb5⟩
      have hbr5 := hbr4.trans (hb5.mono hbr4.size)
      go_wp2_with fail
      have hcn := coded_nil 0 w5
      rw [show decide ((0 : Int) = 0) = true from rfl] at hcn
      refine hcn.mono ?_
      rintro e w6 ⟨rfl, rfl⟩
      clear hcn
      go_wp2
      go_ret
      exact ⟨rfl, hBB.trans (hbr5.mono hBB.size)⟩
end Go.Proofs.YtpkkhabiheobnaaDoor
