/- The walk of package number's Read: a number that is written as it would be. -/
import Derived.Test.YtigcogfjclohjaaGreatDoorTRowT
import Derived.Test.YtigcogfjclohjaaGreatDoorTreeParse
namespace Go.Proofs.YtigcogfjclohjaaGreatDoor
open Go.RowKit Go.Shelf Go.Lib Go.Maps

/-- The cell of strconv.ErrSyntax. -/
def SynAt (w : World) : Prop := ∃ ev, w.cell? ⟨15, 0, none⟩ = some ev ∧ (ev = .nilIface ∨ ∃ te pe, ev = .iface te pe)

theorem SynAt.below {w w' : World} (h : SynAt w) (hb : Below w.heap.size w w') : SynAt w' := by
  obtain ⟨ev, h1, h2⟩ := h
  exact ⟨ev, cell_below' h1 hb, h2⟩

/-- A number of at most k digits. -/
def numM (k : Nat) (d : List UInt8) : Option Nat :=
  if k < d.length then none else match Lib.atoi d with
    | some n => if 0 ≤ n ∧ Lib.itoa n = d then some n.toNat else none
    | none => none
theorem numT_numM (d : List UInt8) : Tf.numT d = numM 4 d := rfl

theorem numM_some {k : Nat} {d : List UInt8} {n : Nat} (h : numM k d = some n) : d.length ≤ k ∧ Lib.atoi d = some (n : Int) ∧ Lib.decDigits n = d := by
  unfold numM at h
  split at h
  · cases h
  rename_i h4
  split at h
  · rename_i z hz
    split at h
    · rename_i hc
      obtain ⟨h0, h1⟩ := hc
      have e : z = (n : Int) := by
        have := Option.some.inj h
        omega
      subst e
      rw [Lib.itoa_nonneg] at h1
      exact ⟨by omega, hz, h1⟩
    · cases h
  · cases h

theorem atoi_small {d : List UInt8} {z : Int} (h : Lib.atoi d = some z) (h4 : d.length ≤ 4) : -100000 ≤ z ∧ z ≤ 100000 := by
  obtain ⟨b0, r, rfl, hc⟩ := Lib.atoi_cases h
  have key : ∀ (l : List UInt8) (m : Nat), l.length ≤ 4 → Lib.decFrom 0 l = some m → m < 100000 := fun l m hl hm => by
    have h1 := Lib.decFrom_lt l 0 m hm
    have h2 : 10 ^ l.length ≤ 10 ^ 4 := Nat.pow_le_pow_right (by omega) hl
    omega
  have hr : r.length ≤ 4 := by simp at h4; omega
  rcases hc with ⟨_, m, _, hm, rfl⟩ | ⟨_, m, _, hm, rfl⟩ | ⟨_, _, m, hm, rfl⟩
  · have := key _ m hr hm; omega
  · have := key _ m hr hm; omega
  · have := key _ m h4 hm; omega

set_option maxRecDepth 100000 in
theorem nRead_yes (k : Nat) (hk : k ≤ 4) (d : List UInt8) (n : Nat) (h : numM k d = some n) (hn : n ≤ 1000000) (w : World) (hP : Pow w) :
    Calls Tryz.prog 78 #[.string (ba d), .int .i64 k] w fun e w' => e = .returned (.tuple #[.int .i64 n, .bool true]) ∧ Below w.heap.size w w' := by
  obtain ⟨h4, ha, hd⟩ := numM_some h
  have HA : Hid (Calls Tryz.prog 115 #[.string (ba d)] w fun e w' => e = .returned (.tuple #[.int .i64 n, .nilIface]) ∧ Below w.heap.size w w') :=
    (Tryz.strconv_Atoi (ba d) (n : Int) (by rw [ba_size]; omega) ha w).mono fun e w' ⟨h1, t, h2⟩ => ⟨h1, h2 ▸ Go.Joins.below_bytesWorld _ w 5 t (Nat.le_refl _)⟩
  have HI : Hid (∀ W, Below w.heap.size w W → Calls Tryz.prog 42 #[.int .i64 n] W fun e w' => e = .returned (.string (ba d)) ∧ Below W.heap.size W w') := fun W hW => by
    refine (Tryz.strconv_Itoa (n : Int) (by omega) (by omega) W (pow_below hP hW)).mono ?_
    rintro e w' ⟨rfl, k, os, rfl⟩
    rw [Lib.itoa_nonneg, hd]
    exact ⟨rfl, below_grow W k os⟩
  have z4 : (d.length : Int) ≤ (k : Int) := by omega
  have z0 : (0 : Int) ≤ (n : Int) := by omega
  clear h ha hd h4 hP
  go_enter Tryz.func78, Tryz.ntmps78
  go_wp2_with fail
  refine HA.out.mono ?_
  rintro e w1 ⟨rfl, g1⟩
  go_wp2_with fail
  refine (HI.out w1 g1).mono ?_
  rintro e w2 ⟨rfl, g2⟩
  go_wp2
  go_ret2
  exact ⟨by first | rfl | simp, g1.trans (g2.mono g1.size)⟩

set_option maxRecDepth 100000 in
theorem nRead_no (k : Nat) (hk : k ≤ 4) (d : List UInt8) (h : numM k d = none) (hd : d.length ≤ 1000000) (w : World) (hP : Pow w) (hS : SynAt w) :
    Calls Tryz.prog 78 #[.string (ba d), .int .i64 k] w fun e w' => e = .returned (.tuple #[.int .i64 0, .bool false]) ∧ Below w.heap.size w w' := by
  by_cases h4 : k < d.length
  · have z4 : (k : Int) < (d.length : Int) := by omega
    have zd : (d.length : Int) ≤ 1000000 := by omega
    clear h hP hS
    go_enter Tryz.func78, Tryz.ntmps78
    go_wp2
    go_ret2
    exact ⟨rfl, Below.refl _ _⟩
  have z4 : (d.length : Int) ≤ (k : Int) := by omega
  cases ha : Lib.atoi d with
  | none =>
    obtain ⟨ev, hv, hev⟩ := hS
    have HA : Hid (Calls Tryz.prog 115 #[.string (ba d)] w fun e w' => (∃ t v, e = .returned (.tuple #[.int .i64 0, .iface t v])) ∧ Below w.heap.size w w') :=
      (Tryz.strconv_Atoi_err (ba d) (by rw [ba_size]; omega) ha ev w hv hev).mono fun e w' ⟨N, h1, _, _, h2⟩ => ⟨⟨_, _, h1⟩, h2⟩
    clear h hP ha hv hev h4
    go_enter Tryz.func78, Tryz.ntmps78
    go_wp2_with fail
    refine HA.out.mono ?_
    rintro e w1 ⟨⟨t, v, rfl⟩, g1⟩
    go_wp2
    go_ret2
    exact ⟨rfl, g1⟩
  | some z =>
    obtain ⟨hz0, hz1⟩ := atoi_small ha (by omega)
    have HA : Hid (Calls Tryz.prog 115 #[.string (ba d)] w fun e w' => e = .returned (.tuple #[.int .i64 z, .nilIface]) ∧ Below w.heap.size w w') :=
      (Tryz.strconv_Atoi (ba d) z (by rw [ba_size]; omega) ha w).mono fun e w' ⟨h1, t, h2⟩ => ⟨h1, h2 ▸ Go.Joins.below_bytesWorld _ w 5 t (Nat.le_refl _)⟩
    by_cases hz : 0 ≤ z
    · have hne : (Lib.itoa z == d) = false := by
        unfold numM at h
        rw [if_neg h4, ha] at h
        simp only at h
        split at h
        · cases h
        · rename_i hc
          simp
          exact fun e => hc ⟨hz, e⟩
      have HI : Hid (∀ W, Below w.heap.size w W → Calls Tryz.prog 42 #[.int .i64 z] W fun e w' => e = .returned (.string (ba (Lib.itoa z))) ∧ Below W.heap.size W w') := fun W hW => by
        refine (Tryz.strconv_Itoa z (by omega) (by omega) W (pow_below hP hW)).mono ?_
        rintro e w' ⟨rfl, k, os, rfl⟩
        exact ⟨rfl, below_grow W k os⟩
      generalize Lib.itoa z = y at *
      clear h ha h4 hP hS
      go_enter Tryz.func78, Tryz.ntmps78
      go_wp2_with fail
      refine HA.out.mono ?_
      rintro e w1 ⟨rfl, g1⟩
      go_wp2_with fail
      refine (HI.out w1 g1).mono ?_
      rintro e w2 ⟨rfl, g2⟩
      go_wp2
      go_ret2
      exact ⟨rfl, g1.trans (g2.mono g1.size)⟩
    · have hz' : z < 0 := by omega
      clear h ha h4 hP hS hz
      go_enter Tryz.func78, Tryz.ntmps78
      go_wp2_with fail
      refine HA.out.mono ?_
      rintro e w1 ⟨rfl, g1⟩
      go_wp2
      go_ret2
      exact ⟨rfl, g1⟩
end Go.Proofs.YtigcogfjclohjaaGreatDoor
