/- Walks of package tree's readNumber and readEntry, where a text is not read. -/
import Derived.Test.YtigcogfjclohjaaGreatDoorM3
import Derived.Test.YtigcogfjclohjaaGreatDoorTreeFail
namespace Go.Proofs.YtigcogfjclohjaaGreatDoor
open Go.RowKit Go.Shelf Go.Lib Go.Maps
open Tf (Fs)

theorem readNumber_no (d : List UInt8) (h : Tf.numT d = none) (hd : d.length ≤ 1000000) (w : World) (hP : Pow w) (hS : SynAt w) :
    Calls Tryz.prog 78 #[.string (ba d), .int .i64 4] w fun e w' => (∃ x : Int, e = .returned (.tuple #[.int .i64 x, .bool false])) ∧ Below w.heap.size w w' :=
  (nRead_no 4 (by omega) d h hd w hP hS).mono fun e w' ⟨h1, h2⟩ => ⟨⟨0, h1⟩, h2⟩

theorem readNumber_calls (d : List UInt8) (hd : d.length ≤ 1000000) (w : World) (hP : Pow w) (hS : SynAt w) :
    Calls Tryz.prog 78 #[.string (ba d), .int .i64 4] w fun e w' => (∃ x : Int, e = .returned (.tuple #[.int .i64 x, .bool (Tf.numT d).isSome]) ∧ ∀ n, Tf.numT d = some n → x = (n : Int) ∧ n ≤ 1000000) ∧ Below w.heap.size w w' := by
  cases h : Tf.numT d with
  | none => exact (readNumber_no d h hd w hP hS).mono fun e w' ⟨⟨x, h1⟩, h2⟩ => ⟨⟨x, h1, fun n hn => by cases hn⟩, h2⟩
  | some n =>
    obtain ⟨h4, ha, _⟩ := numT_some h
    have := atoi_small ha h4
    exact (readNumber_yes d n h (by omega) w hP).mono fun e w' ⟨h1, h2⟩ => ⟨⟨n, h1, fun m hm => by cases hm; exact ⟨rfl, by omega⟩⟩, h2⟩

theorem ent_cells {W : World} {b : Nat} {u u' : Value} (hA : W.cell? ⟨b, 0, none⟩ = some u) (hB : W.cell? ⟨b, 1, none⟩ = some u') (x y : Value) :
    ((W.setCell ⟨b, 0, none⟩ x).setCell ⟨b, 1, none⟩ y).cell? ⟨b, 0, none⟩ = some x ∧ ((W.setCell ⟨b, 0, none⟩ x).setCell ⟨b, 1, none⟩ y).cell? ⟨b, 1, none⟩ = some y := by
  have h1 : (W.setCell ⟨b, 0, none⟩ x).cell? ⟨b, 0, none⟩ = some x := World.cell?_setCell_same' _ _ _ (by rw [hA]; rfl)
  refine ⟨?_, World.cell?_setCell_same' _ _ _ (by rw [World.cell?_setCell_other _ _ _ _ (by simp), hB]; rfl)⟩
  rw [World.cell?_setCell_other _ _ _ _ (by simp)]
  exact h1

set_option maxRecDepth 100000 in
set_option maxHeartbeats 4000000 in
theorem readEntry_no (s : List UInt8) (h : Tf.readE s = none) (hs : s.length ≤ 1000000) (m : Int) (w : World) (hP : Pow w) (hm : MaxAt w m) (hS : SynAt w) :
    Calls Tryz.prog 57 #[.string (ba s)] w fun e' w' => (∃ x y, e' = .returned (.tuple #[entV x, .string (ba y), .bool false])) ∧ Below w.heap.size w w' := by
  have g0 : Below w.heap.size w (w.alloc (.cells #[.string ⟨#[]⟩, .string ⟨#[]⟩] 75)) := (Below.refl _ w).alloc (Nat.le_refl _) _
  have hlen : (Lib.cut s [10]).1.length ≤ 1000000 ∧ (Lib.cut s [10]).2.1.length ≤ 1000000 ∧ (Lib.cut (Lib.cut s [10]).1 [32]).2.1.length ≤ 1000000 := by
    unfold Lib.cut
    split <;> split <;> simp <;> omega
  have H1 : Hid (∀ W, Below w.heap.size w W → Calls Tryz.prog 77 #[.string (ba s), .string (ba [10])] W fun e w' => e = .returned (.tuple #[.string (ba (Lib.cut s [10]).1), .string (ba (Lib.cut s [10]).2.1), .bool (Lib.cut s [10]).2.2]) ∧ Below W.heap.size W w') := fun W hW =>
    cut_calls s [10] hs m W (cell_below' hm hW)
  have H2 : Hid (∀ W, Below w.heap.size w W → Calls Tryz.prog 77 #[.string (ba (Lib.cut s [10]).1), .string (ba [32])] W fun e w' => e = .returned (.tuple #[.string (ba (Lib.cut (Lib.cut s [10]).1 [32]).1), .string (ba (Lib.cut (Lib.cut s [10]).1 [32]).2.1), .bool (Lib.cut (Lib.cut s [10]).1 [32]).2.2]) ∧ Below W.heap.size W w') := fun W hW =>
    cut_calls (Lib.cut s [10]).1 [32] hlen.1 m W (cell_below' hm hW)
  have H3 : Hid (∀ W, Below w.heap.size w W → Calls Tryz.prog 78 #[.string (ba (Lib.cut (Lib.cut s [10]).1 [32]).2.1), .int .i64 4] W fun e w' => (∃ x : Int, e = .returned (.tuple #[.int .i64 x, .bool (Tf.numT (Lib.cut (Lib.cut s [10]).1 [32]).2.1).isSome]) ∧ ∀ n, Tf.numT (Lib.cut (Lib.cut s [10]).1 [32]).2.1 = some n → x = (n : Int) ∧ n ≤ 1000000) ∧ Below W.heap.size W w') := fun W hW =>
    readNumber_calls _ hlen.2.2 W (pow_below hP hW) (hS.below hW)
  unfold Tf.readE at h
  generalize (Lib.cut (Lib.cut s [10]).1 [32]).2.1 = d at *
  generalize (Lib.cut (Lib.cut s [10]).1 [32]).1 = p at *
  generalize (Lib.cut (Lib.cut s [10]).1 [32]).2.2 = b2 at *
  generalize (Lib.cut s [10]).1 = hd at *
  generalize (Lib.cut s [10]).2.1 = t at *
  generalize (Lib.cut s [10]).2.2 = b1 at *
  have zt : (t.length : Int) ≤ 1000000 := by omega
  have hk0 := pair_new w (.string ⟨#[]⟩) (.string ⟨#[]⟩) 75
  have done : ∀ w3, Below (w.heap.size + 1) (w.alloc (.cells #[.string ⟨#[]⟩, .string ⟨#[]⟩] 75)) w3 → w3.cell? ⟨w.heap.size, 0, none⟩ = some (.string ⟨#[]⟩) ∧ w3.cell? ⟨w.heap.size, 1, none⟩ = some (.string ⟨#[]⟩) ∧ w3.frozen? ⟨w.heap.size, 0, none⟩ = false ∧ w3.frozen? ⟨w.heap.size, 1, none⟩ = false := fun w3 hb => by
    have hk := (hb.block w.heap.size (by omega)).trans hk0
    exact ⟨cell_of_row hk rfl, cell_of_row hk rfl, by simp [World.frozen?, hk], by simp [World.frozen?, hk]⟩
  have hdone : Hid (∀ w3, Below (w.heap.size + 1) (w.alloc (.cells #[.string ⟨#[]⟩, .string ⟨#[]⟩] 75)) w3 → w3.cell? ⟨w.heap.size, 0, none⟩ = some (.string ⟨#[]⟩) ∧ w3.cell? ⟨w.heap.size, 1, none⟩ = some (.string ⟨#[]⟩) ∧ w3.frozen? ⟨w.heap.size, 0, none⟩ = false ∧ w3.frozen? ⟨w.heap.size, 1, none⟩ = false) := done
  have hsz0 : (w.alloc (.cells #[.string ⟨#[]⟩, .string ⟨#[]⟩] 75)).heap.size = w.heap.size + 1 := by simp
  have hfin : b1 = true → b2 = true → ∀ n, Tf.numT d = some n → n ≤ t.length → Lib.hasPrefix (t.drop n) [10] = false := fun c1 c2 n hn hle => by
    rw [if_neg (by simp [c1]), if_neg (by simp [c2]), hn] at h
    simp only at h
    rw [if_neg (by omega)] at h
    split at h
    · assumption
    · cases h
  have HF : Hid (b1 = true → b2 = true → ∀ n, Tf.numT d = some n → n ≤ t.length → Lib.hasPrefix (t.drop n) [10] = false) := hfin
  clear h hP hm hS done hfin
  go_enter Tryz.func57, Tryz.ntmps57
  go_wp2_with fail
  refine (H1.out _ g0).mono ?_
  rintro e w1 ⟨rfl, g1'⟩
  rw [hsz0] at g1'
  have g1 := g0.trans (g1'.mono (Nat.le_succ _))
  have hsz1 : w.heap.size + 1 ≤ w1.heap.size := by have := g1'.size; rw [hsz0] at this; exact this
  clear H1
  cases b1 with
  | false =>
    obtain ⟨hcA, hcB, hfA, hfB⟩ := hdone.out w1 g1'
    obtain ⟨q1, q2⟩ := ent_cells hcA hcB (.string ⟨#[]⟩) (.string ⟨#[]⟩)
    clear H2 H3 HF hdone
    go_wp2
    refine bodyPost_ret (v := .tuple #[entV ([], []), .string (ba []), .bool false]) ?_ rfl ?_
    · simp [results, Tryz.f57, go_sem, q1, q2]
    · exact ⟨⟨_, _, rfl⟩, (g1.setCell (p := ⟨w.heap.size, 0, none⟩) (Nat.le_refl _) _).setCell (p := ⟨w.heap.size, 1, none⟩) (Nat.le_refl _) _⟩
  | true =>
  go_wp2_with fail
  refine (H2.out w1 g1).mono ?_
  rintro e w2 ⟨rfl, g2'⟩
  have g2 := g1.trans (g2'.mono g1.size)
  have k2 := g1'.trans (g2'.mono hsz1)
  have hsz2 : w.heap.size + 1 ≤ w2.heap.size := Nat.le_trans hsz1 g2'.size
  clear H2
  cases b2 with
  | false =>
    obtain ⟨hcA, hcB, hfA, hfB⟩ := hdone.out w2 k2
    obtain ⟨q1, q2⟩ := ent_cells hcA hcB (.string ⟨#[]⟩) (.string ⟨#[]⟩)
    clear H3 HF hdone
    go_wp2
    refine bodyPost_ret (v := .tuple #[entV ([], []), .string (ba []), .bool false]) ?_ rfl ?_
    · simp [results, Tryz.f57, go_sem, q1, q2]
    · exact ⟨⟨_, _, rfl⟩, (g2.setCell (p := ⟨w.heap.size, 0, none⟩) (Nat.le_refl _) _).setCell (p := ⟨w.heap.size, 1, none⟩) (Nat.le_refl _) _⟩
  | true =>
  go_wp2_with fail
  refine (H3.out w2 g2).mono ?_
  rintro e w3 ⟨⟨x, rfl, hx⟩, g3'⟩
  have g3 := g2.trans (g3'.mono g2.size)
  have k3 := k2.trans (g3'.mono hsz2)
  obtain ⟨hcA, hcB, hfA, hfB⟩ := hdone.out w3 k3
  clear H3 hdone
  cases hn : Tf.numT d with
  | none =>
    obtain ⟨q1, q2⟩ := ent_cells hcA hcB (.string ⟨#[]⟩) (.string ⟨#[]⟩)
    clear hx HF
    simp only [Option.isSome_none]
    go_wp2
    refine bodyPost_ret (v := .tuple #[entV ([], []), .string (ba []), .bool false]) ?_ rfl ?_
    · simp [results, Tryz.f57, go_sem, q1, q2]
    · exact ⟨⟨_, _, rfl⟩, (g3.setCell (p := ⟨w.heap.size, 0, none⟩) (Nat.le_refl _) _).setCell (p := ⟨w.heap.size, 1, none⟩) (Nat.le_refl _) _⟩
  | some n =>
    obtain ⟨rfl, hn6⟩ := hx n hn
    have z0 : (0 : Int) ≤ (n : Int) := by omega
    rcases Nat.lt_or_ge t.length n with hlt | hge
    · have z3 : (t.length : Int) < (n : Int) := by omega
      obtain ⟨q1, q2⟩ := ent_cells hcA hcB (.string ⟨#[]⟩) (.string ⟨#[]⟩)
      clear hx HF hn
      simp only [Option.isSome_some]
      go_wp2
      refine bodyPost_ret (v := .tuple #[entV ([], []), .string (ba []), .bool false]) ?_ rfl ?_
      · simp [results, Tryz.f57, go_sem, q1, q2]
      · exact ⟨⟨_, _, rfl⟩, (g3.setCell (p := ⟨w.heap.size, 0, none⟩) (Nat.le_refl _) _).setCell (p := ⟨w.heap.size, 1, none⟩) (Nat.le_refl _) _⟩
    · have z3 : (n : Int) ≤ (t.length : Int) := by omega
      have hpre := HF.out (by first | rfl | trivial) (by first | rfl | trivial) n hn hge
      have H4 : Hid (∀ W, Calls Tryz.prog 79 #[.string (ba (t.drop n)), .string (ba [10])] W fun e w' => e = .returned (.tuple #[.string (ba (t.drop n)), .bool false]) ∧ w' = W) := fun W => by
        have := Tryz.strings_CutPrefix (ba (t.drop n)) (ba [10]) W
        rw [show Lib.hasPrefix (ba (t.drop n)).data.toList (ba [10]).data.toList = false from hpre, show Lib.trimPrefix (ba (t.drop n)).data.toList (ba [10]).data.toList = t.drop n by
          show Lib.trimPrefix (t.drop n) [10] = _
          unfold Lib.trimPrefix
          rw [if_neg (by simp [hpre])]] at this
        exact this
      have e1 : (ba t).extract n t.length = ba (t.drop n) := by rw [ba_extract, List.take_of_length_le (by simp)]
      have e2 : (ba t).extract 0 n = ba (t.take n) := by rw [ba_extract]; simp
      obtain ⟨q1, q2⟩ := ent_cells hcA hcB (.string (ba p)) (.string (ba (t.take n)))
      clear hx HF hn hpre
      simp only [Option.isSome_some]
      go_wp2_with fail
      refine (H4.out _).mono ?_
      rintro e w' ⟨rfl, rfl⟩
      go_wp2
      refine bodyPost_ret (v := .tuple #[entV (p, t.take n), .string (ba (t.drop n)), .bool false]) ?_ rfl ?_
      · simp [results, Tryz.f57, go_sem, q1, q2]
      · exact ⟨⟨_, _, rfl⟩, (g3.setCell (p := ⟨w.heap.size, 0, none⟩) (Nat.le_refl _) _).setCell (p := ⟨w.heap.size, 1, none⟩) (Nat.le_refl _) _⟩
end Go.Proofs.YtigcogfjclohjaaGreatDoor
