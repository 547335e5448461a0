/- plain.Code of nil and of errors of errors.New's make: the walk. -/
import Derived.Test.YthokjegephlpmaaDoorErrAs
namespace Go.Proofs.YthokjegephlpmaaDoor
open Go.RowKit Go.Extern.Stop Go.Stop Go.Extern

/-- The twelve sentinels of package api, and package errors' errorType, as they lie. -/
structure E12 (w : World) (es : Nat → Addr) : Prop where
  c0 : w.cell? ⟨1, 0, none⟩ = some (.iface 130 (.pointer (some (es 0))))
  c1 : w.cell? ⟨0, 0, none⟩ = some (.iface 130 (.pointer (some (es 1))))
  c2 : w.cell? ⟨2, 0, none⟩ = some (.iface 130 (.pointer (some (es 2))))
  c3 : w.cell? ⟨3, 0, none⟩ = some (.iface 130 (.pointer (some (es 3))))
  c4 : w.cell? ⟨4, 0, none⟩ = some (.iface 130 (.pointer (some (es 4))))
  c5 : w.cell? ⟨5, 0, none⟩ = some (.iface 130 (.pointer (some (es 5))))
  c6 : w.cell? ⟨6, 0, none⟩ = some (.iface 130 (.pointer (some (es 6))))
  c7 : w.cell? ⟨7, 0, none⟩ = some (.iface 130 (.pointer (some (es 7))))
  c8 : w.cell? ⟨8, 0, none⟩ = some (.iface 130 (.pointer (some (es 8))))
  c9 : w.cell? ⟨9, 0, none⟩ = some (.iface 130 (.pointer (some (es 9))))
  c10 : w.cell? ⟨10, 0, none⟩ = some (.iface 130 (.pointer (some (es 10))))
  c11 : w.cell? ⟨11, 0, none⟩ = some (.iface 130 (.pointer (some (es 11))))
  t : w.cell? ⟨12, 0, none⟩ = some (.iface 105 (.agg #[.pointer (some ⟨16, 32, none⟩)]))
  rows : ∀ k, k < 12 → ∃ c t, w.heap[(es k).block]? = some (.cells c t (0, 0))
  inj : ∀ j k, j < 12 → k < 12 → j ≠ k → es j ≠ es k

theorem blt_of_cell {w : World} {a : Addr} {v : Value} (h : w.cell? a = some v) : a.block < w.heap.size := by
  rcases Nat.lt_or_ge a.block w.heap.size with h' | h'
  · exact h'
  · simp [World.cell?, Array.getElem?_eq_none h'] at h
theorem cell_below {w w' : World} {a : Addr} {v : Value} (h : w.cell? a = some v) (hb : Below w.heap.size w w') : w'.cell? a = some v := (hb.cell (p := a) (blt_of_cell h)).trans h
theorem row_below {w w' : World} {b : Nat} {o : Obj} (h : w.heap[b]? = some o) (hb : Below w.heap.size w w') : w'.heap[b]? = some o := (hb.block b (Array.getElem?_eq_some_iff.1 h).1).trans h

theorem E12.below {w w' : World} {es : Nat → Addr} (h : E12 w es) (hb : Below w.heap.size w w') : E12 w' es :=
  ⟨cell_below h.c0 hb, cell_below h.c1 hb, cell_below h.c2 hb, cell_below h.c3 hb, cell_below h.c4 hb, cell_below h.c5 hb, cell_below h.c6 hb, cell_below h.c7 hb, cell_below h.c8 hb, cell_below h.c9 hb, cell_below h.c10 hb, cell_below h.c11 hb, cell_below h.t hb,
   fun k hk => by obtain ⟨c, t, hc⟩ := h.rows k hk; exact ⟨c, t, row_below hc hb⟩, h.inj⟩

/-- The number of an error of errors.New's make. -/
def codeOf (es : Nat → Addr) (x : Addr) : Int :=
  match (List.range 12).find? (fun k => decide (es k = x)) with
  | some k => (k : Int) + 1
  | none => -1

theorem codeOf_none {es : Nat → Addr} {x : Addr} (h : ∀ j, j < 12 → es j ≠ x) : codeOf es x = -1 := by
  have : (List.range 12).find? (fun k => decide (es k = x)) = none := by
    rw [List.find?_eq_none]
    intro k hk
    simpa using h k (List.mem_range.1 hk)
  unfold codeOf
  rw [this]
theorem codeOf_some {es : Nat → Addr} {x : Addr} {k : Nat} (hk : k < 12) (he : es k = x) (h : ∀ j, j < k → es j ≠ x) : codeOf es x = (k : Int) + 1 := by
  have : (List.range 12).find? (fun k => decide (es k = x)) = some k := by
    rw [List.find?_range_eq_some]
    simp [he, hk]
    exact fun j hj => h j hj
  unfold codeOf
  rw [this]

theorem Code_nil (w : World) : Calls Tryd.prog 30 #[.nilIface] w fun e w' => e = .returned (.tuple #[.int .i64 0, .int .i64 (-1)]) ∧ w' = w := by
  go_enter Tryd.func30, Tryd.ntmps30
  go_wp2
  go_ret2
  exact ⟨rfl, rfl⟩

/-- The twelve, as a list's cells. -/
def esV (es : Nat → Addr) : Array Value := #[.iface 130 (.pointer (some (es 0))), .iface 130 (.pointer (some (es 1))), .iface 130 (.pointer (some (es 2))), .iface 130 (.pointer (some (es 3))), .iface 130 (.pointer (some (es 4))), .iface 130 (.pointer (some (es 5))), .iface 130 (.pointer (some (es 6))), .iface 130 (.pointer (some (es 7))), .iface 130 (.pointer (some (es 8))), .iface 130 (.pointer (some (es 9))), .iface 130 (.pointer (some (es 10))), .iface 130 (.pointer (some (es 11)))]
theorem es_cells (es : Nat → Addr) (w : World) (k : Nat) (hk : k < 12) : (w.alloc (.cells (esV es) 32)).cell? ⟨w.heap.size, k, none⟩ = some (.iface 130 (.pointer (some (es k)))) := by
  have : k = 0 ∨ k = 1 ∨ k = 2 ∨ k = 3 ∨ k = 4 ∨ k = 5 ∨ k = 6 ∨ k = 7 ∨ k = 8 ∨ k = 9 ∨ k = 10 ∨ k = 11 := by omega
  rcases this with rfl | rfl | rfl | rfl | rfl | rfl | rfl | rfl | rfl | rfl | rfl | rfl <;> simp [esV]

set_option maxHeartbeats 2000000 in
theorem Code_ptr (x : Addr) (es : Nat → Addr) (cx : Array Value) (tx : TypeId) (w : World) (hE : E12 w es) (hx : w.heap[x.block]? = some (.cells cx tx (0, 0))) :
    Calls Tryd.prog 30 #[.iface 130 (.pointer (some x))] w fun e w' => e = .returned (.tuple #[.int .i64 (codeOf es x), .int .i64 (-1)]) ∧ Below w.heap.size w w' := by
  have hB0 : Below w.heap.size w (w.alloc (.cells #[.pointer none] 74)) := (Below.refl _ w).alloc (Nat.le_refl _) _
  have hE0 := hE.below hB0
  go_enter Tryd.func30, Tryd.ntmps30
  go_wp2_with fail
  refine (as_miss x _ _ hE0.t).mono ?_
  rintro e w1 ⟨rfl, hb1'⟩
  have hB1 := hB0.trans (hb1'.mono hB0.size)
  have hE1 := hE.below hB1
  have hx1 := row_below hx hB1
  have k0 := hE1.c0; have k1 := hE1.c1; have k2 := hE1.c2; have k3 := hE1.c3; have k4 := hE1.c4; have k5 := hE1.c5
  have k6 := hE1.c6; have k7 := hE1.c7; have k8 := hE1.c8; have k9 := hE1.c9; have k10 := hE1.c10; have k11 := hE1.c11
  clear hE0 hB0 hb1'
  go_wp2
  have hB2 : Below w1.heap.size w1 (w1.alloc (.cells (esV es) 32)) := (Below.refl _ w1).alloc (Nat.le_refl _) _
  have hE2 := hE1.below hB2
  have hx2 := row_below hx1 hB2
  have hBB := hB1.trans (hB2.mono hB1.size)
  have hsl := es_cells es w1
  unfold esV at hB2 hE2 hx2 hBB hsl
  clear k0 k1 k2 k3 k4 k5 k6 k7 k8 k9 k10 k11 hE1 hB2 hx1 hE hx
  generalize w1.alloc _ = W2 at *
  have HE : Hid (E12 W2 es) := hE2
  clear hE2
  go_loop [3, 30] (fun a i => a = .int .i64 (-1) ∧ ∃ k : Nat, k ≤ 12 ∧ i = .int .i64 k ∧ ∀ j, j < k → es j ≠ x) (fun _ i => 12 - (intOf i).toNat)
  case atStart => exact ⟨rfl, 0, by omega, rfl, fun j hj => by omega⟩
  case round =>
    obtain ⟨rfl, k, hk, rfl, hno⟩ := hrel
    have HN : Hid (∀ j, j < k → es j ≠ x) := hno
    clear hno
    by_cases hlt : k < 12
    · have hck := hsl k hlt
      have hlt' : (k : Int) < 12 := by omega
      have hk0 : (0 : Int) ≤ (k : Int) := by omega
      by_cases hek : es k = x
      · have hc := codeOf_some hlt hek HN.out
        have HC : Hid (codeOf es x = (k : Int) + 1) := hc
        have HK : Hid (es k = x) := hek
        clear hc hsl hek
        go_wp2_with fail
        rw [HK.out]
        refine (is_same x _).mono ?_
        rintro e w' ⟨rfl, rfl⟩
        go_wp2
        go_ret2
        exact ⟨by rw [HC.out]; rfl, hBB⟩
      · obtain ⟨c, t, hr⟩ := HE.out.rows k hlt
        have hio := is_other x (es k) cx c tx t W2 (fun e => hek e.symm) hx2 hr
        have HI : Hid (Calls Tryd.prog 39 #[.iface 130 (.pointer (some x)), .iface 130 (.pointer (some (es k)))] W2 fun e w' => e = .returned (.bool false) ∧ w' = W2) := hio
        have HK : Hid (¬ es k = x) := hek
        clear hio hsl hek hr
        go_wp2_with fail
        refine HI.out.mono ?_
        rintro e w' ⟨rfl, rfl⟩
        go_wp2
        go_round
        case rel =>
          refine ⟨rfl, k + 1, by omega, by go_num, fun j hj => ?_⟩
          rcases Nat.lt_or_ge j k with h | h
          · exact HN.out j h
          · obtain rfl : j = k := by omega
            exact HK.out
        case measure => simp [intOf]; omega
    · have hc := codeOf_none (es := es) (x := x) (fun j hj => HN.out j (by omega))
      have HC : Hid (codeOf es x = -1) := hc
      have hge : (12 : Int) ≤ (k : Int) := by omega
      clear hc hsl
      go_wp2
      go_ret2
      exact ⟨by rw [HC.out]; rfl, hBB⟩
end Go.Proofs.YthokjegephlpmaaDoor
