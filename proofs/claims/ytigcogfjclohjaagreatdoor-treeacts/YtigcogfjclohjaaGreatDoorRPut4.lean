/- The document's answer's Put, whole. -/
import Derived.Test.YtigcogfjclohjaaGreatDoorM6
import Derived.Test.YtigcogfjclohjaaGreatDoorM3
namespace Go.Proofs.YtigcogfjclohjaaGreatDoor
open Go.RowKit Go.Shelf Go.Lib Go.Maps
open Tf (Fs)

theorem Made.shape2 {B : Nat} {w w' : World} {tb : Nat} {v : Value} {l : Fs} (h : Made B w w' tb v l) (hne : l ≠ []) (N : Nat) (hN : l.length = N) : ∃ g c, v = .slice (some ⟨g, 0, none⟩) N c ∧ N ≤ c := by
  subst hN
  rcases h.row.2 with ⟨_, h0⟩ | ⟨g, c, cur, rfl, _, _, h1, _⟩
  · exact absurd (List.length_eq_zero_iff.1 h0) hne
  · exact ⟨g, c, rfl, h1⟩

set_option maxRecDepth 100000 in
set_option maxHeartbeats 4000000 in
theorem rPut_first {B : Nat} {w : World} {tb : Nat} {v : Value} (h : RTreeAt B w tb [] v) (p b : List UInt8) (hp : p.length ≤ 1000000) (hn : pathB p = true) (hb : b.length ≤ 2000) :
    Calls Tryz.prog 20 #[Ptr tb, .string (ba p), .string (ba b)] w fun e w' => e = .returned (.int .i64 0) ∧ (∃ v', RTreeAt B w' tb [(p, b)] v') ∧ Below B w w' := by
  have hBw : B ≤ w.heap.size := by have := h.low; have := h.lt; omega
  obtain ⟨i0, hi, hz0, hz1, hz2⟩ := info_parts Tryz.infoRFile
  have HI := isPath_hid p hp true hn w
  obtain rfl := h.nil rfl
  have z : (b.length : Int) ≤ 2000 := by omega
  clear hn hb
  go_enter Tryz.func20, Tryz.ntmps20
  go_wp2_with fail
  refine HI.out.mono ?_
  rintro e w1 ⟨rfl, g1⟩
  have h1 := h.below g1
  have HF := rFind_calls h1 (by simp) p
  have hcell := h1.cell
  have hfree := h1.free
  have htb := h1.lt
  have hBw1 : B ≤ w1.heap.size := Nat.le_trans hBw g1.size
  have M0 := Made.start B w1 tb
  clear HI
  go_wp2
  refine wp_loop_rounds 1 ?_
  rw [rounds_succ]
  go_wp2_with fail
  refine HF.mono ?_
  rintro e w2 ⟨hres, rfl⟩
  rcases hres with ⟨k', hk', _, _⟩ | ⟨_, rfl⟩
  · simp at hk'
  · go_wp2
    refine wp_loop_rounds 1 ?_
    rw [rounds_succ]
    go_wp2_with (first
      | (at_builtin; refine wpList_append_own_at _ rfl _ _ 44 rfl B 54 i0 (.agg #[.string ⟨#[]⟩, .string ⟨#[]⟩]) 2 32 Tryz.underlying44 hi hz0 hz1 hz2 rfl (by decide) _ _ _ rfl (M0.alloc _).row ⟨w2.heap.size, 0, none⟩ 1 1 [.string (ba p), .string (ba b)] rfl rfl (two_new _ _ _ _) (by simp [Value.oneCell']) (by unfold maxLen; simp) (by simp) (by simp; omega) ?_; intro v2 w4 o2 gr2 n2 loc2; have M2 : Made B w2 w4 tb v2 [(p, b)] := (M0.alloc _).more (l := []) (m := [(p, b)]) o2 gr2 rfl loc2; have hcell4 := M2.cell hcell; have hfree4 := (M2.below.frozen (p := ⟨tb, 0, none⟩) htb).trans hfree; (obtain ⟨g3, c3, rfl, hc3⟩ := M2.shape2 (by simp) 1 rfl); (have hc3' : (1 : Int) ≤ (c3 : Int) := by omega); (have hc3n : ¬ c3 < 1 := by omega))
      | go_in)
    go_wp2
    go_ret
    have hne3 : _ ≠ some tb := fun e => by have := M2.new tb e; omega
    refine ⟨rfl, ⟨_, h1.low, World.cell?_setCell_same' _ _ _ (by rw [hcell4]; rfl), by rw [World.frozen?_setCell]; exact hfree4, ?_, hne3, fun e => by simp at e⟩, ((g1.mono hBw).trans (M2.below.mono hBw1)).setCell (p := ⟨tb, 0, none⟩) h1.low _⟩
    exact ownsRow_setCell_other M2.row (a := ⟨tb, 0, none⟩) hne3 _
theorem well_clash {fs : Fs} (hw : Tf.Well pathB fs) {p : List UInt8} (ht : Tf.hasP fs p = true) : Tf.clash fs p = false := by
  obtain ⟨g, hg, e⟩ := List.any_eq_true.1 ht
  obtain rfl : g.1 = p := by simpa using e
  unfold Tf.clash
  rw [List.any_eq_false]
  intro f hf
  rw [hw.apart f hf g hg, hw.apart g hg f hf]
  simp

theorem rPut_calls {B : Nat} {w : World} {tb : Nat} {fs : Fs} {v : Value} (h : RTreeAt B w tb fs v) (hw : Tf.Well pathB fs) (p b : List UInt8) (hp : p.length ≤ 1000000) :
    Calls Tryz.prog 20 #[Ptr tb, .string (ba p), .string (ba b)] w fun e w' => e = .returned (.int .i64 (Tf.putCode pathB fs p b)) ∧ (∃ v', RTreeAt B w' tb (Tf.putF pathB fs p b) v') ∧ Below B w w' := by
  have hBw : B ≤ w.heap.size := by have := h.low; have := h.lt; omega
  have hlen : ∀ f ∈ fs, f.1.length ≤ 1000000 := fun f hf => by have := well_len hw f hf; omega
  have hfew : fs.length ≤ 1000 := by have := hw.few; omega
  have keep : ∀ {c : Nat}, Tf.putCode pathB fs p b = c → c ≠ 0 → (Calls Tryz.prog 20 #[Ptr tb, .string (ba p), .string (ba b)] w fun e w' => e = .returned (.int .i64 (c : Int)) ∧ Below w.heap.size w w') →
      Calls Tryz.prog 20 #[Ptr tb, .string (ba p), .string (ba b)] w fun e w' => e = .returned (.int .i64 (Tf.putCode pathB fs p b)) ∧ (∃ v', RTreeAt B w' tb (Tf.putF pathB fs p b) v') ∧ Below B w w' := fun {c} e hc H => by
    rw [e, show Tf.putF pathB fs p b = fs by unfold Tf.putF; rw [e, if_neg hc]]
    exact H.mono fun _ _ ⟨h1, h2⟩ => ⟨h1, ⟨_, h.below h2⟩, h2.mono hBw⟩
  cases hn : pathB p with
  | false => exact keep (c := 4) (by simp [Tf.putCode, hn]) (by omega) (rPut_name w tb p b hp hn)
  | true =>
    rcases Nat.lt_or_ge 2000 b.length with hb | hb
    · exact keep (c := 2) (by simp [Tf.putCode, hn, hb]) (by omega) (rPut_bound w tb p b hp hn hb)
    · cases ht : Tf.hasP fs p with
      | true =>
        have e : Tf.putCode pathB fs p b = 0 := by unfold Tf.putCode; rw [if_neg (by simp [hn]), if_neg (by omega), if_pos ht]
        rw [e, show Tf.putF pathB fs p b = Tf.put fs p b by unfold Tf.putF; rw [if_pos e]]
        exact rPut_there h hlen hfew p b hp hn hb (well_clash hw ht) hw.rises ht
      | false =>
        have e := putCode_new fs p b hn hb ht
        cases hc : Tf.clash fs p with
        | true => exact keep (c := 7) (by rw [e]; simp [newCode, hc]) (by omega) (rPut_clash h hlen hfew p b hp hn hb hc)
        | false =>
          rcases Nat.lt_or_ge fs.length 60 with h60 | h60
          · have e0 : Tf.putCode pathB fs p b = 0 := by rw [e]; simp [newCode, hc]; omega
            rw [e0, show Tf.putF pathB fs p b = Tf.put fs p b by unfold Tf.putF; rw [if_pos e0]]
            by_cases hne : fs = []
            · subst hne
              exact rPut_first h p b hp hn hb
            · exact rPut_new h hlen hfew p b hp hn hb hc hw.rises ht h60 hne
          · exact keep (c := 8) (by rw [e]; simp [newCode, hc, h60]) (by omega) (rPut_full h hlen hfew p b hp hn hb hc ht h60)
end Go.Proofs.YtigcogfjclohjaaGreatDoor
