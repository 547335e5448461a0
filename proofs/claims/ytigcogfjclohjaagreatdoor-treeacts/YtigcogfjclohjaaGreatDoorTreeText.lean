/- The walk of package tree's Text. -/
import Derived.Test.YtigcogfjclohjaaGreatDoorM2
import Derived.Test.YtigcogfjclohjaaGreatDoorTRowT
import Derived.Shelf.Strings.BuilderK
import Derived.Lib.SmallJoins
import Derived.Lib.ItoaLen
import Derived.Sort.Grow
namespace Go.Proofs.YtigcogfjclohjaaGreatDoor
open Go.RowKit Go.Shelf Go.Lib Go.Maps
open Tf (Fs)
open Go.Sort (grow)

theorem get_at {fs : Fs} (hr : Tf.Rises fs) {k : Nat} (hk : k < fs.length) : Tf.get fs fs[k].1 = some fs[k].2 := by
  unfold Tf.get
  have : fs.find? (fun f => f.1 == fs[k].1) = some fs[k] := by
    rw [List.find?_eq_some_iff_getElem]
    refine ⟨by simp, k, hk, rfl, fun j hj => ?_⟩
    have h1 := List.pairwise_iff_getElem.1 hr j k (by omega) hk hj
    simp only [Bool.not_eq_true', beq_eq_false_iff_ne]
    intro e
    rw [e, WideAt.bytes_irrefl] at h1
    cases h1
  rw [this]
  rfl

theorem textT_take {fs : Fs} {k : Nat} (hk : k < fs.length) : Tf.textT (fs.take (k + 1)) = Tf.textT (fs.take k) ++ Tf.entryT fs[k] := by
  unfold Tf.textT
  rw [List.take_succ_eq_append_getElem hk, List.flatMap_append, List.flatMap_cons, List.flatMap_nil, List.append_nil]

theorem textT_len {fs : Fs} (h : ∀ f ∈ fs, f.1.length ≤ 1000 ∧ f.2.length ≤ 2000) : (Tf.textT fs).length ≤ fs.length * 4000 := by
  unfold Tf.textT
  induction fs with
  | nil => simp
  | cons f r ih =>
    have h1 := h f (by simp)
    have h2 := ih fun g hg => h g (List.mem_cons_of_mem _ hg)
    have h3 := digits_len f.2.length (by omega)
    simp [Tf.entryT] at *
    omega

set_option maxRecDepth 100000 in
set_option maxHeartbeats 4000000 in
theorem Text_calls {B : Nat} {w : World} {tb : Nat} {fs : Fs} {o : Option Nat} (h : TreeAt B w tb fs o) (hP : Pow w) (hr : Tf.Rises fs) (hn : fs.length ≤ 1000) (hsz : ∀ f ∈ fs, f.1.length ≤ 1000 ∧ f.2.length ≤ 2000) :
    Calls Tryz.prog 13 #[Ptr tb] w fun e w' => e = .returned (.string (ba (Tf.textT fs))) ∧ Below w.heap.size w w' := by
  have g0 : Below w.heap.size w (w.alloc (.cells #[.pointer none, .slice none 0 0] 83)) := (Below.refl _ w).alloc (Nat.le_refl _) _
  have b0 : Lib.IsBuilderF 83 5 w.heap.size w.heap.size [] (w.alloc (.cells #[.pointer none, .slice none 0 0] 83)) := Lib.IsBuilderF.of (Lib.fresh_isBuilder 83 5 w)
  have HP : Hid (Calls Tryz.prog 19 #[Ptr tb] (w.alloc (.cells #[.pointer none, .slice none 0 0] 83)) fun e w' => ∃ v, e = .returned v ∧ TRow w' v (fs.map (·.1)) ∧ Below (w.alloc (.cells #[.pointer none, .slice none 0 0] 83)).heap.size (w.alloc (.cells #[.pointer none, .slice none 0 0] 83)) w') :=
    (Paths_calls (h.below g0) hr hn).mono fun e w' ⟨v, h1, h2, h3⟩ => ⟨v, h1, TRow.of_owns h2, h3⟩
  have HG : Hid (∀ k (hk : k < fs.length) W, Below w.heap.size w W → Calls Tryz.prog 24 #[Ptr tb, .string (ba fs[k].1)] W fun e w' => e = .returned (.tuple #[.string (ba fs[k].2), .bool (Tf.hasP fs fs[k].1)]) ∧ Below W.heap.size W w') := fun k hk W hW => by
    have := Get_calls (h.below hW) fs[k].1 (by have := (hsz _ (List.getElem_mem hk)).1; omega)
    rw [get_at hr hk] at this
    exact this
  have HI : Hid (∀ (n : Nat) W, n ≤ 2000 → Below w.heap.size w W → Calls Tryz.prog 42 #[.int .i64 n] W fun e w' => e = .returned (.string (ba (Lib.decDigits n))) ∧ Below W.heap.size W w') := fun n W hn hW => by
    refine (Tryz.strconv_Itoa (n : Int) (by omega) (by omega) W (pow_below hP hW)).mono ?_
    rintro e w' ⟨rfl, k, os, rfl⟩
    rw [Lib.itoa_nonneg]
    exact ⟨rfl, below_grow W k os⟩
  have HW : Hid (∀ (bs : List UInt8) (s : List UInt8) W, bs.length + s.length ≤ 100000000 → w.heap.size ≤ W.heap.size → Lib.IsBuilderF 83 5 w.heap.size w.heap.size (Lib.byteCells bs) W → Calls Tryz.prog 41 #[.pointer (some ⟨w.heap.size, 0, none⟩), .string (ba s)] W fun e w' =>
      e = .returned (.tuple #[.int .i64 s.length, .nilIface]) ∧ Lib.IsBuilderF 83 5 w.heap.size w.heap.size (Lib.byteCells (bs ++ s)) w' ∧ Below w.heap.size W w' ∧ Lib.OthersKept 5 (some w.heap.size) W w') := fun bs s W hl hW hb => by
    refine (Any.Builder_WriteString_k Tryz.lays166 Tryz.Builder_Extra_166 w.heap.size w.heap.size (Lib.byteCells bs) (ba s) W hb (by rw [Lib.byteCells_length, ba_size]; omega) hW).mono ?_
    rintro e w' ⟨rfl, h1, h2, h3⟩
    refine ⟨by rw [ba_size], .inr ?_, h2, h3⟩
    rw [Lib.byteCells_append]
    exact h1
  have HS : Hid (∀ W, w.heap.size ≤ W.heap.size → Lib.IsBuilderF 83 5 w.heap.size w.heap.size (Lib.byteCells (Tf.textT fs)) W → Calls Tryz.prog 43 #[.pointer (some ⟨w.heap.size, 0, none⟩)] W fun e w' => e = .returned (.string (ba (Tf.textT fs))) ∧ Below w.heap.size W w') := fun W hW hb => by
    refine (Any.Builder_String_any_k Tryz.lays169 Tryz.Builder_Extra_169 w.heap.size w.heap.size (Tf.textT fs) W hb hW).mono ?_
    rintro e w' ⟨rfl, _, h2, _⟩
    exact ⟨rfl, h2⟩
  have hzn : (fs.length : Int) ≤ 1000 := by omega
  have hlenA := fun k : Nat => textT_len (fs := fs.take k) (fun f hf => hsz f (List.mem_of_mem_take hf))
  clear h hP
  go_enter Tryz.func13, Tryz.ntmps13
  go_wp2_with fail
  refine HP.out.mono ?_
  rintro e w1 ⟨v, rfl, ⟨pa, cap, rfl, hcap, hrow⟩, g1⟩
  have B1 := isBuilder_below b0 g1
  have G1 : Below w.heap.size w w1 := g0.trans (g1.mono g0.size)
  have R1 : TRow w1 (.slice pa (fs.map (·.1)).length cap) (fs.map (·.1)) := ⟨pa, cap, rfl, hcap, hrow⟩
  rw [List.length_map] at R1 hcap ⊢
  clear HP g0 b0 g1 hrow
  go_wp2
  go_loopw [11] (fun i wr => ∃ k : Nat, k ≤ fs.length ∧ i = .int .i64 k ∧ Lib.IsBuilderF 83 5 w.heap.size w.heap.size (Lib.byteCells (Tf.textT (fs.take k))) wr ∧ TRow wr (.slice pa fs.length cap) (fs.map (·.1)) ∧ Below w.heap.size w wr) (fun i _ => fs.length - (intOf i).toNat)
  case atStart => exact ⟨0, Nat.zero_le _, rfl, by simpa [Tf.textT, Lib.byteCells] using B1, R1, G1⟩
  case round =>
    obtain ⟨k, hk, rfl, hbld, hrow, hB⟩ := hrel
    by_cases hlt : k < fs.length
    · have c1 : (k : Int) < (fs.length : Int) := by omega
      have c0 : (0 : Int) ≤ (k : Int) := by omega
      obtain ⟨p', cap', ev, _, hin⟩ := hrow
      obtain ⟨g, cur, rfl, hg, hcur⟩ := hin (by intro e; rw [List.map_eq_nil_iff] at e; rw [e] at hlt; simp at hlt)
      have hrow : TRow wr (.slice pa fs.length cap) (fs.map (·.1)) := ⟨_, cap', ev, by assumption, hin⟩
      have hcell := cell_of_row hg (hcur k (by simpa using hlt))
      rw [List.getElem_map] at hcell
      have epa : pa = some ⟨g, 0, none⟩ := by simp at ev; exact ev.1
      subst epa
      obtain ⟨hp1, hp2⟩ := hsz _ (List.getElem_mem hlt)
      have hl0 := hlenA k
      rw [List.length_take] at hl0
      have zp : ((ba fs[k].1).size : Int) ≤ 1000 := by rw [ba_size]; omega
      have HG' := HG.out k hlt wr hB
      clear ev hin hcur hg
      generalize ht : Tf.hasP fs fs[k].1 = t at *
      have hstep := textT_take hlt
      unfold Tf.entryT at hstep
      have hdl := digits_len fs[k].2.length (by omega)
      generalize fs[k].1 = q at *
      generalize fs[k].2 = bt at *
      go_wp2_with fail
      refine HG'.mono ?_
      rintro e w2 ⟨rfl, g2⟩
      have B2 := isBuilder_below hbld g2
      have R2 := hrow.below g2
      have G2 := hB.trans (g2.mono hB.size)
      go_wp2_with fail
      refine (HI.out bt.length w2 hp2 G2).mono ?_
      rintro e w3 ⟨rfl, g3⟩
      have B3 := isBuilder_below B2 g3
      have R3 := R2.below g3
      have G3 := G2.trans (g3.mono G2.size)
      have ecat : ba q ++ { data := #[32] } ++ ba (Lib.decDigits bt.length) ++ { data := #[10] } ++ ba bt ++ { data := #[10] } = ba (q ++ 32 :: (Lib.decDigits bt.length ++ 10 :: (bt ++ [10]))) := by
        rw [show (ByteArray.mk #[32]) = ba [32] from rfl, show (ByteArray.mk #[10]) = ba [10] from rfl]
        simp only [ba_append]
        simp
      clear HG'
      go_wp2_with fail
      refine (HW.out _ _ w3 ?_ G3.size B3).mono ?_
      · simp only [List.length_append, List.length_cons, List.length_nil]; omega
      rintro e w4 ⟨rfl, B4, g4, k4⟩
      have R4 := R3.others' k4 B3
      go_wp2
      go_roundw
      case rel => exact ⟨k + 1, by omega, by go_num, by rw [hstep]; exact B4, R4, G3.trans g4⟩
      case measure => simp [intOf]; omega
    · have c1 : (fs.length : Int) ≤ (k : Int) := by omega
      obtain rfl : k = fs.length := by omega
      rw [List.take_length] at hbld
      have HS' := HS.out wr hB.size hbld
      go_wp2_with fail
      refine HS'.mono ?_
      rintro e w5 ⟨rfl, g5⟩
      go_wp2
      go_ret
      exact ⟨rfl, hB.trans g5⟩
end Go.Proofs.YtigcogfjclohjaaGreatDoor
