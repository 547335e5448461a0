/- The document's answer's KeyOf; the law CacheKeys over what package cache's Key tells. -/
import Derived.Test.YthokjegephlpmaaDoorCacheC
import Derived.Test.YthokjegephlpmaaDoorLongT
namespace Go.Proofs.YthokjegephlpmaaDoor
open Go.RowKit Go.Shelf Go.Lib

theorem kadd (a b : List UInt8) (h : a.length + b.length ≤ 100000000) (W : World) : (Op.stringOp .add (ba a) (ba b)).run Tryd.prog W = .ok (.string (ba (a ++ b))) W := by
  rw [run_string_add_sum (P := Tryd.prog) W (ba a) (ba b) (by rw [ba_size, ba_size]; omega), ba_append]
theorem piece_len (x : List UInt8) (h : x.length ≤ 1000) : (Kp.piece x).length ≤ x.length + 22 := by
  unfold Kp.piece
  have := digits_len x.length (by omega)
  simp
  omega

set_option maxRecDepth 100000 in
set_option maxHeartbeats 8000000 in
theorem KeyOf_calls {W : World} (kind word : List UInt8) (v : Value) (ins : List (List UInt8)) (hrow : IRow W v ins) (hk : kind.length ≤ 100) (hw : word.length ≤ 100) (hn : ins.length ≤ 10) (hx : ∀ x ∈ ins, x.length ≤ 300) :
    Calls Tryd.prog 11 #[.string (ba kind), .string (ba word), v] W fun e w' => e = .returned (.string (ba (Kp.key kind word ins))) ∧ Below W.heap.size W w' := by
  obtain ⟨p, cap, rfl, hin⟩ := hrow
  have HI := hid1 hin
  clear hin
  have zl : (ins.length : Int) ≤ 10 := by omega
  have HD := hid1 fun (n : Nat) (h : n ≤ 1000000) (X : World) => Decimal_calls n h X
  have l1 := digits_len kind.length (by omega)
  have l2 := digits_len word.length (by omega)
  have zk : (kind.length : Int) ≤ 100 := by omega
  have zw : (word.length : Int) ≤ 100 := by omega
  obtain ⟨A1, hA1⟩ : ∃ x, x = Lib.decDigits kind.length := ⟨_, rfl⟩
  obtain ⟨A2, hA2⟩ : ∃ x, x = A1 ++ [58] := ⟨_, rfl⟩
  obtain ⟨A3, hA3⟩ : ∃ x, x = A2 ++ kind := ⟨_, rfl⟩
  obtain ⟨D2, hD2⟩ : ∃ x, x = Lib.decDigits word.length := ⟨_, rfl⟩
  obtain ⟨A4, hA4⟩ : ∃ x, x = A3 ++ D2 := ⟨_, rfl⟩
  obtain ⟨A5, hA5⟩ : ∃ x, x = A4 ++ [58] := ⟨_, rfl⟩
  obtain ⟨A6, hA6⟩ : ∃ x, x = A5 ++ word := ⟨_, rfl⟩
  rw [← hA1] at l1
  rw [← hD2] at l2
  have m2 : A2.length = A1.length + 1 := by rw [hA2]; simp
  have m3 : A3.length = A2.length + kind.length := by rw [hA3]; simp
  have m4 : A4.length = A3.length + D2.length := by rw [hA4]; simp
  have m5 : A5.length = A4.length + 1 := by rw [hA5]; simp
  have m6 : A6.length = A5.length + word.length := by rw [hA6]; simp
  have s2 : ∀ X, (Op.stringOp .add (ba A1) ⟨#[58]⟩).run Tryd.prog X = .ok (.string (ba A2)) X := fun X => by rw [hA2]; exact kadd A1 [58] (by simp; omega) X
  have s3 : ∀ X, (Op.stringOp .add (ba A2) (ba kind)).run Tryd.prog X = .ok (.string (ba A3)) X := fun X => by rw [hA3]; exact kadd A2 kind (by omega) X
  have s4 : ∀ X, (Op.stringOp .add (ba A3) (ba D2)).run Tryd.prog X = .ok (.string (ba A4)) X := fun X => by rw [hA4]; exact kadd A3 D2 (by omega) X
  have s5 : ∀ X, (Op.stringOp .add (ba A4) ⟨#[58]⟩).run Tryd.prog X = .ok (.string (ba A5)) X := fun X => by rw [hA5]; exact kadd A4 [58] (by simp; omega) X
  have s6 : ∀ X, (Op.stringOp .add (ba A5) (ba word)).run Tryd.prog X = .ok (.string (ba A6)) X := fun X => by rw [hA6]; exact kadd A5 word (by omega) X
  have HA : Hid (A6 = Kp.piece kind ++ Kp.piece word) := hid1 (by rw [hA6, hA5, hA4, hA3, hA2, hA1, hD2]; unfold Kp.piece; simp)
  have hA6l : A6.length ≤ 300 := by omega
  have H1 := hid1 (HD.out kind.length (by omega) W)
  rw [← hA1] at H1
  have H2 := hid1 (HD.out word.length (by omega))
  rw [← hD2] at H2
  have HKey : Hid (Kp.key kind word ins = A6 ++ ins.flatMap Kp.piece) := hid1 (by rw [HA.out]; rfl)
  have HX := hid1 hx
  clear hA1 hA2 hA3 hA4 hA5 hA6 hD2 HA hx
  go_enter Tryd.func11, Tryd.ntmps11
  go_wp2_with fail
  refine H1.out.mono ?_
  rintro e w1 ⟨rfl, g1⟩
  clear H1
  go_wp2_with fail
  refine (H2.out w1).mono ?_
  rintro e w2 ⟨rfl, g2⟩
  have g3 := below_then g1 g2
  clear H2 g1 g2
  go_wp2
  clear s2 s3 s4 s5 s6
  go_loopw [7, 8] (fun ov iv wr => ∃ j : Nat, j ≤ ins.length ∧ iv = .int .i64 j ∧ ov = .string (ba (A6 ++ (ins.take j).flatMap Kp.piece)) ∧ Below W.heap.size W wr) (fun _ iv _ => ins.length - (intOf iv).toNat)
  case atStart => exact ⟨0, Nat.zero_le _, rfl, by simp, g3⟩
  case round =>
    obtain ⟨j, hj, rfl, rfl, B⟩ := hrel
    have j0 : (0 : Int) ≤ (j : Int) := by omega
    by_cases hlt : j < ins.length
    · have j1 : (j : Int) < (ins.length : Int) := by omega
      obtain ⟨g, o, rfl, hg, hc⟩ := HI.out (by intro e; rw [e] at hlt; simp at hlt)
      have d0 := (B.cell (p := ⟨g, o + j, none⟩) hg).trans (hc j hlt)
      have hxl := HX.out _ (List.getElem_mem hlt)
      have hacc : ((ins.take j).flatMap Kp.piece).length ≤ j * 322 := by
        have key : ∀ k, k ≤ ins.length → ((ins.take k).flatMap Kp.piece).length ≤ k * 322 := by
          intro k
          induction k with
          | zero => intro _; simp
          | succ k ih =>
            intro hk
            have h1 := ih (by omega)
            have h2 := piece_len ins[k] (by have := HX.out _ (List.getElem_mem (show k < ins.length by omega)); omega)
            have h3 := HX.out _ (List.getElem_mem (show k < ins.length by omega))
            rw [List.take_succ_eq_append_getElem (by omega), List.flatMap_append, List.length_append]
            simp only [List.flatMap_cons, List.flatMap_nil, List.append_nil]
            omega
        exact key j (by omega)
      have HS : Hid (A6 ++ (ins.take (j + 1)).flatMap Kp.piece = A6 ++ (ins.take j).flatMap Kp.piece ++ Lib.decDigits ins[j].length ++ [58] ++ ins[j]) := hid1 (by
        rw [List.take_succ_eq_append_getElem hlt, List.flatMap_append]
        simp [Kp.piece])
      have hlx := digits_len ins[j].length (by omega)
      have HDx := hid1 fun X => HD.out ins[j].length (by omega) X
      clear hc HI
      have hj10 : j * 322 ≤ 3220 := by omega
      generalize ins[j] = y at *
      have hout : (A6 ++ (ins.take j).flatMap Kp.piece).length ≤ 4000 := by rw [List.length_append]; omega
      generalize A6 ++ (ins.take j).flatMap Kp.piece = t at *
      obtain ⟨D, hD⟩ : ∃ x, x = Lib.decDigits y.length := ⟨_, rfl⟩
      obtain ⟨T1, hT1⟩ : ∃ x, x = t ++ D := ⟨_, rfl⟩
      obtain ⟨T2, hT2⟩ : ∃ x, x = T1 ++ [58] := ⟨_, rfl⟩
      obtain ⟨T3, hT3⟩ : ∃ x, x = T2 ++ y := ⟨_, rfl⟩
      rw [← hD] at hlx HDx HS
      have n1 : T1.length = t.length + D.length := by rw [hT1]; simp
      have n2 : T2.length = T1.length + 1 := by rw [hT2]; simp
      have s1 : ∀ X, (Op.stringOp .add (ba t) (ba D)).run Tryd.prog X = .ok (.string (ba T1)) X := fun X => by rw [hT1]; exact kadd t D (by omega) X
      have s2 : ∀ X, (Op.stringOp .add (ba T1) ⟨#[58]⟩).run Tryd.prog X = .ok (.string (ba T2)) X := fun X => by rw [hT2]; exact kadd T1 [58] (by simp; omega) X
      have s3 : ∀ X, (Op.stringOp .add (ba T2) (ba y)).run Tryd.prog X = .ok (.string (ba T3)) X := fun X => by rw [hT3]; exact kadd T2 y (by omega) X
      rw [← hT1, ← hT2, ← hT3] at HS
      clear hD hT1 hT2 hT3
      go_wp2
      go_region_held3 (fun w' => w'.cell? ⟨g, o + j, none⟩ = some (.string (ba y))) (first | go_keep | fail)
        (first | (go_at_call 27; refine (HDx.out _).mono ?_; rintro e w5 ⟨rfl, g5⟩; have e0 := cell_below' (w := wr.drew) d0 g5; have B5 := below_then B.drew g5) | fail)
      all_goals
        go_wp2
        exact ⟨⟨j + 1, by omega, by go_num, by rw [HS.out], B5⟩, by simp [intOf]; omega⟩
    · have j1 : (ins.length : Int) ≤ (j : Int) := by omega
      obtain rfl : j = ins.length := by omega
      clear HI
      rw [List.take_length]
      go_wp2
      go_ret
      exact ⟨ret_eq (by rw [HKey.out]; rfl), B⟩
end Go.Proofs.YthokjegephlpmaaDoor
