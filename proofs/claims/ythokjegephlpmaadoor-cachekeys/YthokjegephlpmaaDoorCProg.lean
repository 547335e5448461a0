/- Package cache's New, Get, Keys and Len: the walks. -/
import Derived.Test.YthokjegephlpmaaDoorCLast2
import Derived.Test.YthokjegephlpmaaDoorCacheC
namespace Go.Proofs.YthokjegephlpmaaDoor
open Go.RowKit Go.Shelf Go.Lib

set_option maxRecDepth 100000 in
set_option maxHeartbeats 4000000 in
theorem cNew_yes (W : World) (m : Nat) (h1 : 1 ≤ m) (h2 : m ≤ 100) :
    Calls Tryd.prog 12 #[.int .i64 m] W fun e w' => ∃ p S, e = .returned (.tuple #[.pointer (some p), .nilIface]) ∧ Below W.heap.size W w' ∧ CAt S w' (.pointer (some p)) m [] ∧ ∀ k, S k → W.heap.size ≤ k := by
  have z1 : (1 : Int) ≤ (m : Int) := by omega
  have z2 : (m : Int) ≤ 100 := by omega
  have hmm := @run_makeMap Tryd.prog
  go_enter Tryd.func12, Tryd.ntmps12
  go_wp2
  go_ret2
  clear hmm
  have hz : (W.alloc (.map #[] 0)).heap.size = W.heap.size + 1 := by simp
  have g1 : Below W.heap.size W (W.alloc (.map #[] 0)) := (Below.refl _ W).alloc (Nat.le_refl _) _
  have hm0 := CMap.made W
  generalize W.alloc (.map #[] 0) = W1 at *
  have g2 : Below W1.heap.size W1 (W1.alloc (.cells #[.int .i64 m, .map (some W.heap.size), .slice none 0 0] 61)) := (Below.refl _ W1).alloc (Nat.le_refl _) _
  refine ⟨⟨W.heap.size + 1, 0, none⟩, CBlk (W.heap.size + 1) W.heap.size (.slice none 0 0), rfl, g1.trans (g2.mono (by omega)), ⟨_, _, _, rfl, fun j => Iff.rfl, ⟨?_, ?_, ?_, ?_, World.ownsRow_nil _ _ _ _, hm0.same (g2.block _ (by omega)), by omega, by simp [Value.ownBlock], by simp [Value.ownBlock]⟩, fun e he => by simp at he⟩, ?_⟩
  · rw [← hz]; simp
  · rw [← hz]; simp
  · rw [← hz]; simp
  · rw [← hz]; simp
  · rintro k (rfl | rfl | hk)
    · omega
    · omega
    · simp [Value.ownBlock] at hk

set_option maxRecDepth 100000 in
set_option maxHeartbeats 4000000 in
theorem cNew_no {es : Nat → Addr} (W : World) (m : Int) (hm : m < 1 ∨ 100 < m) (hE : W.cell? ⟨0, 0, none⟩ = some (erOf es 2)) :
    Calls Tryd.prog 12 #[.int .i64 m] W fun e w' => e = .returned (.tuple #[.pointer none, erOf es 2]) ∧ Below W.heap.size W w' := by
  generalize erOf es 2 = er at *
  rcases hm with hm | hm
  · go_enter Tryd.func12, Tryd.ntmps12
    go_wp2
    go_region
    go_wp2
    go_ret2
    exact ⟨rfl, by first | exact Below.refl _ _ | exact below_draws (Below.refl _ _) _⟩
  · have z1 : (1 : Int) ≤ m := by omega
    go_enter Tryd.func12, Tryd.ntmps12
    go_wp2
    go_region
    go_wp2
    go_ret2
    exact ⟨rfl, by first | exact Below.refl _ _ | exact below_draws (Below.refl _ _) _⟩

set_option maxRecDepth 100000 in
set_option maxHeartbeats 4000000 in
theorem cLen_calls {S : Nat → Prop} {W : World} {v : Value} {m : Nat} {l : Cf.Ens} (h : CAt S W v m l) :
    Calls Tryd.prog 15 #[v] W fun e w' => e = .returned (.int .i64 (l.length : Int)) ∧ Below W.heap.size W w' := by
  obtain ⟨cb, eb, u, rfl, -, h, -⟩ := h
  have c2 := h.c2
  have hr := h.row
  unfold KRow at hr
  rw [Cf.keys_len] at hr
  obtain ⟨p, c, rfl⟩ : ∃ p c, u = .slice p l.length c := by
    rcases hr.2 with ⟨rfl, h0⟩ | ⟨g, cap, cur, rfl, _⟩
    · exact ⟨none, 0, by rw [h0]⟩
    · exact ⟨_, _, rfl⟩
  clear h hr
  go_enter Tryd.func15, Tryd.ntmps15
  go_wp2
  go_ret
  exact ⟨rfl, Below.refl _ _⟩

set_option maxRecDepth 100000 in
set_option maxHeartbeats 4000000 in
theorem cKeys_calls {S : Nat → Prop} {W : World} {v : Value} {m : Nat} {l : Cf.Ens} (h : CAt S W v m l) (hl : l.length ≤ 1000) :
    Calls Tryd.prog 20 #[v] W fun e w' => ∃ u, e = .returned u ∧ IRow w' u (Cf.keys l) ∧ Below W.heap.size W w' := by
  obtain ⟨cb, eb, u, rfl, -, h, -⟩ := h
  have c2 := h.c2
  have hkl := Cf.keys_len l
  have hr : W.ownsRow 0 9 1 u (Cf.keys l).length ((Cf.keys l).map sv) := h.row
  have HC : Hid (Calls Tryd.prog 32 #[u] W fun e w' => ∃ u, e = .returned u ∧ IRow w' u (Cf.keys l) ∧ Below W.heap.size W w') := hid1 (by
    generalize Cf.keys l = ks at *
    by_cases hu : u = .slice none 0 0
    · subst hu
      obtain rfl : ks = [] := by
        rcases hr.2 with ⟨_, h⟩ | ⟨g, cap, cur, h, _⟩
        · exact List.length_eq_zero_iff.1 h
        · cases h
      refine (Tryd.slices_Clone_string_nil 0 0 W).mono ?_
      rintro e w' ⟨rfl, rfl⟩
      exact ⟨_, rfl, (XRow.nil _).irow, Below.refl _ _⟩
    · obtain ⟨g, cap, rfl, -, hg, hcap, hm, -, hH⟩ := Lib.holds_of_ownsRow hr hu
      have key := Tryd.slices_Clone_string g 0 ks.length cap (ks.map ba) W (by simp) (by omega) (fun j hj => by
        have hj' : j < ks.length := by simpa using hj
        rw [(hH j (by simpa using hj')).1]
        simp [hj'])
      refine key.mono ?_
      rintro e w' ⟨v', rfl, ho, -, hb⟩
      rw [List.take_of_length_le (by simp), List.map_map] at ho
      exact ⟨_, rfl, (XRow.of_owns (l := ks) ho).irow, hb⟩)
  clear h hr
  go_enter Tryd.func20, Tryd.ntmps20
  go_wp2_with fail
  refine HC.out.mono ?_
  rintro e w1 ⟨u1, rfl, hi, hb⟩
  have HR := hid1 (And.intro hi hb)
  clear HC hi hb
  go_wp2
  go_ret
  exact ⟨_, rfl, HR.out.1, HR.out.2⟩
end Go.Proofs.YthokjegephlpmaaDoor
