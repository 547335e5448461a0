/- Walks of package tree's readEntry and rise, where a text is well. -/
import Derived.Test.YtigcogfjclohjaaGreatDoorTreeText
import Derived.Test.YtigcogfjclohjaaGreatDoorANum
namespace Go.Proofs.YtigcogfjclohjaaGreatDoor
open Go.RowKit Go.Shelf Go.Lib Go.Maps
open Tf (Fs)

abbrev MaxAt (w : World) (m : Int) : Prop := w.cell? ⟨14, 0, none⟩ = some (.int .i64 m)

theorem numT_some {d : List UInt8} {n : Nat} (h : Tf.numT d = some n) : d.length ≤ 4 ∧ Lib.atoi d = some (n : Int) ∧ Lib.decDigits n = d := numM_some (k := 4) h

theorem readNumber_yes (d : List UInt8) (n : Nat) (h : Tf.numT d = some n) (hn : n ≤ 1000000) (w : World) (hP : Pow w) :
    Calls Tryz.prog 78 #[.string (ba d), .int .i64 4] w fun e w' => e = .returned (.tuple #[.int .i64 n, .bool true]) ∧ Below w.heap.size w w' := nRead_yes 4 (by omega) d n h hn w hP

theorem cut_calls (s sep : List UInt8) (hs : s.length ≤ 1000000) (m : Int) (w : World) (hm : MaxAt w m) :
    Calls Tryz.prog 77 #[.string (ba s), .string (ba sep)] w fun e w' => e = .returned (.tuple #[.string (ba (Lib.cut s sep).1), .string (ba (Lib.cut s sep).2.1), .bool (Lib.cut s sep).2.2]) ∧ Below w.heap.size w w' :=
  (Tryz.strings_Cut (ba s) (ba sep) m w (by rw [ba_size]; omega) hm).mono fun e w' ⟨h1, n, h2⟩ => ⟨h1, h2 ▸ below_draws (Below.refl _ w) n⟩

theorem ba_extract (t : List UInt8) (a b : Nat) : (ba t).extract a b = ba ((t.drop a).take (b - a)) := ba_eq (by rw [← Lib.toList_data, Lib.extract_toList])

theorem pair_new (w : World) (x y : Value) (t : TypeId) : (w.alloc (.cells #[x, y] t)).heap[w.heap.size]? = some (.cells #[x, y] t (0, 0)) := (MapKept.heap_alloc w _).1

abbrev entV (e : List UInt8 × List UInt8) : Value := .agg #[.string (ba e.1), .string (ba e.2)]

set_option maxRecDepth 100000 in
set_option maxHeartbeats 4000000 in
theorem readEntry_yes (s : List UInt8) (e : List UInt8 × List UInt8) (r : List UInt8) (h : Tf.readE s = some (e, r)) (hs : s.length ≤ 1000000) (m : Int) (w : World) (hP : Pow w) (hm : MaxAt w m) :
    Calls Tryz.prog 57 #[.string (ba s)] w fun e' w' => e' = .returned (.tuple #[entV e, .string (ba r), .bool true]) ∧ Below w.heap.size w w' := by
  unfold Tf.readE at h
  split at h
  · cases h
  rename_i c1
  split at h
  · cases h
  rename_i c2
  split at h
  · cases h
  rename_i n hnum
  split at h
  · cases h
  rename_i c3
  split at h
  · cases h
  rename_i c4
  have c1' : (Lib.cut s [10]).2.2 = true := by simpa using c1
  have c2' : (Lib.cut (Lib.cut s [10]).1 [32]).2.2 = true := by simpa using c2
  have c4' : Lib.hasPrefix ((Lib.cut s [10]).2.1.drop n) [10] = true := by simpa using c4
  have hlen : (Lib.cut s [10]).1.length ≤ 1000000 ∧ (Lib.cut s [10]).2.1.length ≤ 1000000 := by
    unfold Lib.cut
    split <;> simp <;> omega
  have g0 : Below w.heap.size w (w.alloc (.cells #[.string ⟨#[]⟩, .string ⟨#[]⟩] 75)) := (Below.refl _ w).alloc (Nat.le_refl _) _
  have H1 : Hid (∀ W, Below w.heap.size w W → Calls Tryz.prog 77 #[.string (ba s), .string (ba [10])] W fun e w' => e = .returned (.tuple #[.string (ba (Lib.cut s [10]).1), .string (ba (Lib.cut s [10]).2.1), .bool true]) ∧ Below W.heap.size W w') := fun W hW => by
    have := cut_calls s [10] hs m W (cell_below' hm hW)
    rw [c1'] at this
    exact this
  have H2 : Hid (∀ W, Below w.heap.size w W → Calls Tryz.prog 77 #[.string (ba (Lib.cut s [10]).1), .string (ba [32])] W fun e w' => e = .returned (.tuple #[.string (ba (Lib.cut (Lib.cut s [10]).1 [32]).1), .string (ba (Lib.cut (Lib.cut s [10]).1 [32]).2.1), .bool true]) ∧ Below W.heap.size W w') := fun W hW => by
    have := cut_calls (Lib.cut s [10]).1 [32] hlen.1 m W (cell_below' hm hW)
    rw [c2'] at this
    exact this
  have H3 : Hid (∀ W, Below w.heap.size w W → Calls Tryz.prog 78 #[.string (ba (Lib.cut (Lib.cut s [10]).1 [32]).2.1), .int .i64 4] W fun e w' => e = .returned (.tuple #[.int .i64 n, .bool true]) ∧ Below W.heap.size W w') := fun W hW =>
    readNumber_yes _ n hnum (by omega) W (pow_below hP hW)
  generalize (Lib.cut (Lib.cut s [10]).1 [32]).2.1 = d at *
  generalize (Lib.cut (Lib.cut s [10]).1 [32]).1 = p at *
  generalize (Lib.cut s [10]).1 = hd at *
  generalize (Lib.cut s [10]).2.1 = t at *
  obtain ⟨rfl, rfl⟩ : e = (p, t.take n) ∧ r = t.drop (n + 1) := by simp at h; exact ⟨h.1.symm, h.2.symm⟩
  have H4 : Hid (∀ W, Calls Tryz.prog 79 #[.string (ba (t.drop n)), .string (ba [10])] W fun e w' => e = .returned (.tuple #[.string (ba (t.drop (n + 1))), .bool true]) ∧ w' = W) := fun W => by
    have := Tryz.strings_CutPrefix (ba (t.drop n)) (ba [10]) W
    rw [show Lib.hasPrefix (ba (t.drop n)).data.toList (ba [10]).data.toList = true from c4', show Lib.trimPrefix (ba (t.drop n)).data.toList (ba [10]).data.toList = t.drop (n + 1) by
      show Lib.trimPrefix (t.drop n) [10] = _
      unfold Lib.trimPrefix
      rw [if_pos c4']
      simp] at this
    exact this
  have z3 : (n : Int) ≤ (t.length : Int) := by omega
  have z0 : (0 : Int) ≤ (n : Int) := by omega
  have zt : (t.length : Int) ≤ 1000000 := by omega
  clear h hnum c4 c4' c1 c1' c2 c2' hP hm
  go_enter Tryz.func57, Tryz.ntmps57
  go_wp2_with fail
  refine (H1.out _ g0).mono ?_
  rintro e w1 ⟨rfl, g1'⟩
  have g1 := g0.trans (g1'.mono g0.size)
  go_wp2_with fail
  refine (H2.out w1 g1).mono ?_
  rintro e w2 ⟨rfl, g2'⟩
  have g2 := g1.trans (g2'.mono g1.size)
  go_wp2_with fail
  refine (H3.out w2 g2).mono ?_
  rintro e w3 ⟨rfl, g3'⟩
  have g3 := g2.trans (g3'.mono g2.size)
  have hk : w3.heap[w.heap.size]? = some (.cells #[.string ⟨#[]⟩, .string ⟨#[]⟩] 75 (0, 0)) :=
    ((g3'.block _ (by have := g2'.size; have := g1'.size; simp at this; omega)).trans ((g2'.block _ (by have := g1'.size; simp at this; omega)).trans (g1'.block _ (by simp)))).trans (pair_new w _ _ _)
  have hcA : w3.cell? ⟨w.heap.size, 0, none⟩ = some (.string ⟨#[]⟩) := cell_of_row hk rfl
  have hcB : w3.cell? ⟨w.heap.size, 1, none⟩ = some (.string ⟨#[]⟩) := cell_of_row hk rfl
  have hfA : w3.frozen? ⟨w.heap.size, 0, none⟩ = false := by simp [World.frozen?, hk]
  have hfB : w3.frozen? ⟨w.heap.size, 1, none⟩ = false := by simp [World.frozen?, hk]
  have e1 : (ba t).extract n t.length = ba (t.drop n) := by rw [ba_extract, List.take_of_length_le (by simp)]
  have e2 : (ba t).extract 0 n = ba (t.take n) := by rw [ba_extract]; simp
  clear H1 H2 H3 hk
  go_wp2_with fail
  refine (H4.out _).mono ?_
  rintro e w' ⟨rfl, rfl⟩
  go_wp2
  have hs1 : (w'.setCell ⟨w.heap.size, 0, none⟩ (.string (ba p))).cell? ⟨w.heap.size, 0, none⟩ = some (.string (ba p)) := World.cell?_setCell_same' _ _ _ (by rw [hcA]; rfl)
  have hs2 : ((w'.setCell ⟨w.heap.size, 0, none⟩ (.string (ba p))).setCell ⟨w.heap.size, 1, none⟩ (.string (ba (t.take n)))).cell? ⟨w.heap.size, 0, none⟩ = some (.string (ba p)) := by
    rw [World.cell?_setCell_other _ _ _ _ (by simp)]; exact hs1
  have hs3 : ((w'.setCell ⟨w.heap.size, 0, none⟩ (.string (ba p))).setCell ⟨w.heap.size, 1, none⟩ (.string (ba (t.take n)))).cell? ⟨w.heap.size, 1, none⟩ = some (.string (ba (t.take n))) :=
    World.cell?_setCell_same' _ _ _ (by rw [World.cell?_setCell_other _ _ _ _ (by simp), hcB]; rfl)
  refine bodyPost_ret (v := .tuple #[entV (p, t.take n), .string (ba (t.drop (n + 1))), .bool true]) ?_ rfl ?_
  · simp [results, Tryz.f57, go_sem, hs2, hs3]
  · exact ⟨rfl, (g3.setCell (p := ⟨w.heap.size, 0, none⟩) (Nat.le_refl _) _).setCell (p := ⟨w.heap.size, 1, none⟩) (Nat.le_refl _) _⟩
end Go.Proofs.YtigcogfjclohjaaGreatDoor
