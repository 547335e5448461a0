import Derived.Test.YtgdjgohiaffejaaGreatDoorYF33
import Derived.Test.YtgdjgohiaffejaaGreatDoorYF06
import Derived.Shelf.Strings.BuilderK
import Derived.Lib.SmallJoins
import Derived.Lib.ItoaLen
import Derived.Sort.Grow
import Derived.Test.YtgdjgohiaffejaaGreatDoorYF12
import Derived.OwnWalk
import Derived.Test.YtgdjgohiaffejaaGreatDoorYF07
import Derived.Test.YtgdjgohiaffejaaGreatDoorYF14
import Derived.Test.YtgdjgohiaffejaaGreatDoorYF08
import Derived.Deep.RegionHeld3
import Derived.Test.YtgdjgohiaffejaaGreatDoorYF17
namespace Go.Proofs.YtgdjgohiaffejaaGreatDoor
open Go.RowKit Go.Shelf Go.Lib Go.Maps
open Tf (Fs)
set_option maxRecDepth 100000 in
set_option maxHeartbeats 2000000 in
theorem mayPut_empty {B : Nat} {w : World} {tb : Nat} {fs : Fs} (h : TreeAt B w tb fs none) (p b : List UInt8) (hp : p.length ≤ 1000000) (hn : pathB p = true) (hb : b.length ≤ 2000) :
    Calls Tryz.prog 99 #[Ptr tb, .string (ba p), .string (ba b)] w fun e w' => e = .returned .nilIface ∧ Below w.heap.size w w' := by
  have HK : Hid (Calls Tryz.prog 157 #[.string (ba p)] w fun e w' => e = .returned .nilIface ∧ Below w.heap.size w w') := Check_yes p hp hn w
  have z : (b.length : Int) ≤ 2000 := by omega
  have hl := fun w' => look_nofile w' p hp
  have hc := h.cell
  clear hn hb h
  go_enter Tryz.func99, Tryz.ntmps99
  go_wp2_with fail
  refine HK.out.mono ?_
  rintro e w1 ⟨rfl, g1⟩
  have hc1 := cell_below' hc g1
  have g2 := g1.alloc g1.size (.cells #[.string (ba [])] 167)
  have hc2 := cell_below' hc g2
  have g3 := g2.alloc g2.size (.mapIter none 0 #[] 0)
  have hc3 := cell_below' hc g3
  have hrg := run_range_nilMap (P := Tryz.prog) (w1.alloc (.cells #[.string (ba [])] 167)) 163 9 167 Tryz.underlying163
  have hnx : ∀ ty, (Instr.next (.pointer (some ⟨(w1.alloc (.cells #[.string (ba [])] 167)).heap.size, 0, none⟩)) false ty).run Tryz.prog ((w1.alloc (.cells #[.string (ba [])] 167)).alloc (.mapIter none 0 #[] 0)) = _ := fun ty => run_next_nilMap (w1.alloc (.cells #[.string (ba [])] 167)) ty 0 0 #[]
  have hln : ∀ W ty, (Builtin.len_ #[163] ty #[.map none]).run Tryz.prog W = .ok (.int .i64 0) W := fun W ty => Maps.len_nil (w := W) Tryz.underlying163 ty
  have e1 : (w1.alloc (.cells #[.string (ba [])] 167)).heap.size = w1.heap.size + 1 := by simp
  rw [e1] at hrg hnx
  clear e1 HK
  go_wp2
  refine wp_loop_rounds 1 ?_
  rw [rounds_succ]
  go_wp2
  go_ret
  exact ⟨rfl, g3⟩
theorem putCode_new (fs : Fs) (p b : List UInt8) (hn : pathB p = true) (hb : b.length ≤ 2000) (ht : Tf.hasP fs p = false) : Tf.putCode pathB fs p b = newCode fs p := by
  unfold Tf.putCode newCode
  rw [if_neg (by simp [hn]), if_neg (by omega), if_neg (by simp [ht])]
theorem mayPut_calls {B : Nat} {w : World} {tb : Nat} {fs : Fs} {o : Option Nat} {es : Nat → Value} (h : TreeAt B w tb fs o) (hE : TErr w es) (hlen : ∀ f ∈ fs, f.1.length ≤ 1000000) (hfew : fs.length ≤ 1000) (p b : List UInt8) (hp : p.length ≤ 1000000) :
    Calls Tryz.prog 99 #[Ptr tb, .string (ba p), .string (ba b)] w fun e w' => e = .returned (es (Tf.putCode pathB fs p b)) ∧ Below w.heap.size w w' := by
  cases hn : pathB p with
  | false =>
    rw [show Tf.putCode pathB fs p b = 4 by simp [Tf.putCode, hn]]
    exact mayPut_name h hE p b hp hn
  | true =>
    rcases Nat.lt_or_ge 2000 b.length with hb | hb
    · rw [show Tf.putCode pathB fs p b = 2 by simp [Tf.putCode, hn, hb]]
      exact mayPut_bound h hE p b hp hn hb
    · cases ht : Tf.hasP fs p with
      | true =>
        rw [show Tf.putCode pathB fs p b = 0 by unfold Tf.putCode; rw [if_neg (by simp [hn]), if_neg (by omega), if_pos ht], hE.nil]
        exact mayPut_there h p b hp hn hb ht
      | false =>
        cases o with
        | none =>
          obtain rfl : fs = [] := h.isMap
          rw [show Tf.putCode pathB [] p b = 0 by rw [putCode_new _ _ _ hn hb ht]; simp [newCode, Tf.clash], hE.nil]
          exact mayPut_empty h p b hp hn hb
        | some bm =>
          rw [putCode_new _ _ _ hn hb ht]
          exact mayPut_new h hE hlen hfew p b hp hn hb ht
set_option maxRecDepth 100000 in
theorem Remove_no {B : Nat} {w : World} {tb : Nat} {fs : Fs} {o : Option Nat} {es : Nat → Value} (h : TreeAt B w tb fs o) (hE : TErr w es) (p : List UInt8) (hp : p.length ≤ 1000000) (ht : Tf.hasP fs p = false) :
    Calls Tryz.prog 23 #[Ptr tb, .string (ba p)] w fun e w' => e = .returned (es 6) ∧ Below w.heap.size w w' := by
  have hl := look_tree h p hp
  rw [ht] at hl
  have HA : Hid (Calls Tryz.prog 102 #[Ptr tb] w fun e w' => e = .returned (.map o) ∧ w' = w) := all_calls tb o w h.cell
  generalize (Tf.get fs p).getD [] = x at *
  obtain ⟨t, u, e6⟩ := hE.faces 5
  have hn := hE.none6
  rw [e6] at hn ⊢
  have g1 : Below w.heap.size w (w.alloc (.cells #[.string (ba x)] 167)) := (Below.refl _ w).alloc (Nat.le_refl _) _
  have hn1 := cell_below' hn g1
  clear ht h hE
  go_enter Tryz.func23, Tryz.ntmps23
  go_wp2_with fail
  refine HA.out.mono ?_
  rintro e w' ⟨rfl, rfl⟩
  go_wp2
  go_ret
  exact ⟨rfl, g1⟩
end Go.Proofs.YtgdjgohiaffejaaGreatDoor
namespace Go.Proofs.YtgdjgohiaffejaaGreatDoor
open Go.RowKit Go.Shelf Go.Lib Go.Maps
open Tf (Fs)
open Go.Sort (grow)
theorem get_at {fs : Fs} (hr : Tf.Rises fs) {k : Nat} (hk : k < fs.length) : Tf.get fs fs[k].1 = some fs[k].2 := by
  unfold Tf.get
  have : fs.find? (fun f => f.1 == fs[k].1) = some fs[k] := by
    rw [List.find?_eq_some_iff_getElem]
    refine ⟨by simp, k, hk, rfl, fun j hj => ?_⟩
    have h1 := List.pairwise_iff_getElem.1 hr j k (by omega) hk hj
    simp only [Bool.not_eq_true', beq_eq_false_iff_ne]
    intro e
    rw [e, WideAt.bytes_irrefl] at h1
    cases h1
  rw [this]
  rfl
theorem textT_take {fs : Fs} {k : Nat} (hk : k < fs.length) : Tf.textT (fs.take (k + 1)) = Tf.textT (fs.take k) ++ Tf.entryT fs[k] := by
  unfold Tf.textT
  rw [List.take_succ_eq_append_getElem hk, List.flatMap_append, List.flatMap_cons, List.flatMap_nil, List.append_nil]
theorem textT_len {fs : Fs} (h : ∀ f ∈ fs, f.1.length ≤ 1000 ∧ f.2.length ≤ 2000) : (Tf.textT fs).length ≤ fs.length * 4000 := by
  unfold Tf.textT
  induction fs with
  | nil => simp
  | cons f r ih =>
    have h1 := h f (by simp)
    have h2 := ih fun g hg => h g (List.mem_cons_of_mem _ hg)
    have h3 := digits_len f.2.length (by omega)
    simp [Tf.entryT] at *
    omega
set_option maxRecDepth 100000 in
set_option maxHeartbeats 4000000 in
theorem Text_calls {B : Nat} {w : World} {tb : Nat} {fs : Fs} {o : Option Nat} (h : TreeAt B w tb fs o) (hP : Pow w) (hr : Tf.Rises fs) (hn : fs.length ≤ 1000) (hsz : ∀ f ∈ fs, f.1.length ≤ 1000 ∧ f.2.length ≤ 2000) :
    Calls Tryz.prog 18 #[Ptr tb] w fun e w' => e = .returned (.string (ba (Tf.textT fs))) ∧ Below w.heap.size w w' := by
  have g0 : Below w.heap.size w (w.alloc (.cells #[.pointer none, .slice none 0 0] 159)) := (Below.refl _ w).alloc (Nat.le_refl _) _
  have b0 : Lib.IsBuilderF 159 5 w.heap.size w.heap.size [] (w.alloc (.cells #[.pointer none, .slice none 0 0] 159)) := Lib.IsBuilderF.of (Lib.fresh_isBuilder 159 5 w)
  have HP : Hid (Calls Tryz.prog 30 #[Ptr tb] (w.alloc (.cells #[.pointer none, .slice none 0 0] 159)) fun e w' => ∃ v, e = .returned v ∧ TRow w' v (fs.map (·.1)) ∧ Below (w.alloc (.cells #[.pointer none, .slice none 0 0] 159)).heap.size (w.alloc (.cells #[.pointer none, .slice none 0 0] 159)) w') :=
    (Paths_calls (h.below g0) hr hn).mono fun e w' ⟨v, h1, h2, h3⟩ => ⟨v, h1, TRow.of_owns h2, h3⟩
  have HG : Hid (∀ k (hk : k < fs.length) W, Below w.heap.size w W → Calls Tryz.prog 28 #[Ptr tb, .string (ba fs[k].1)] W fun e w' => e = .returned (.tuple #[.string (ba fs[k].2), .bool (Tf.hasP fs fs[k].1)]) ∧ Below W.heap.size W w') := fun k hk W hW => by
    have := Get_calls (h.below hW) fs[k].1 (by have := (hsz _ (List.getElem_mem hk)).1; omega)
    rw [get_at hr hk] at this
    exact this
  have HI : Hid (∀ (n : Nat) W, n ≤ 2000 → Below w.heap.size w W → Calls Tryz.prog 96 #[.int .i64 n] W fun e w' => e = .returned (.string (ba (Lib.decDigits n))) ∧ Below W.heap.size W w') := fun n W hn hW => by
    refine (Tryz.strconv_Itoa (n : Int) (by omega) (by omega) W (pow_below hP hW)).mono ?_
    rintro e w' ⟨rfl, k, os, rfl⟩
    rw [Lib.itoa_nonneg]
    exact ⟨rfl, below_grow W k os⟩
  have HW : Hid (∀ (bs : List UInt8) (s : List UInt8) W, bs.length + s.length ≤ 100000000 → w.heap.size ≤ W.heap.size → Lib.IsBuilderF 159 5 w.heap.size w.heap.size (Lib.byteCells bs) W → Calls Tryz.prog 95 #[.pointer (some ⟨w.heap.size, 0, none⟩), .string (ba s)] W fun e w' =>
      e = .returned (.tuple #[.int .i64 s.length, .nilIface]) ∧ Lib.IsBuilderF 159 5 w.heap.size w.heap.size (Lib.byteCells (bs ++ s)) w' ∧ Below w.heap.size W w' ∧ Lib.OthersKept 5 (some w.heap.size) W w') := fun bs s W hl hW hb => by
    refine (Any.Builder_WriteString_k Tryz.lays166 Tryz.Builder_Extra_166 w.heap.size w.heap.size (Lib.byteCells bs) (ba s) W hb (by rw [Lib.byteCells_length, ba_size]; omega) hW).mono ?_
    rintro e w' ⟨rfl, h1, h2, h3⟩
    refine ⟨by rw [ba_size], .inr ?_, h2, h3⟩
    rw [Lib.byteCells_append]
    exact h1
  have HS : Hid (∀ W, w.heap.size ≤ W.heap.size → Lib.IsBuilderF 159 5 w.heap.size w.heap.size (Lib.byteCells (Tf.textT fs)) W → Calls Tryz.prog 97 #[.pointer (some ⟨w.heap.size, 0, none⟩)] W fun e w' => e = .returned (.string (ba (Tf.textT fs))) ∧ Below w.heap.size W w') := fun W hW hb => by
    refine (Any.Builder_String_any_k Tryz.lays169 Tryz.Builder_Extra_169 w.heap.size w.heap.size (Tf.textT fs) W hb hW).mono ?_
    rintro e w' ⟨rfl, _, h2, _⟩
    exact ⟨rfl, h2⟩
  have hzn : (fs.length : Int) ≤ 1000 := by omega
  have hlenA := fun k : Nat => textT_len (fs := fs.take k) (fun f hf => hsz f (List.mem_of_mem_take hf))
  clear h hP
  go_enter Tryz.func18, Tryz.ntmps18
  go_wp2_with fail
  refine HP.out.mono ?_
  rintro e w1 ⟨v, rfl, ⟨pa, cap, rfl, hcap, hrow⟩, g1⟩
  have B1 := isBuilder_below b0 g1
  have G1 : Below w.heap.size w w1 := g0.trans (g1.mono g0.size)
  have R1 : TRow w1 (.slice pa (fs.map (·.1)).length cap) (fs.map (·.1)) := ⟨pa, cap, rfl, hcap, hrow⟩
  rw [List.length_map] at R1 hcap ⊢
  clear HP g0 b0 g1 hrow
  go_wp2
  go_loopw [11] (fun i wr => ∃ k : Nat, k ≤ fs.length ∧ i = .int .i64 k ∧ Lib.IsBuilderF 159 5 w.heap.size w.heap.size (Lib.byteCells (Tf.textT (fs.take k))) wr ∧ TRow wr (.slice pa fs.length cap) (fs.map (·.1)) ∧ Below w.heap.size w wr) (fun i _ => fs.length - (intOf i).toNat)
  case atStart => exact ⟨0, Nat.zero_le _, rfl, by simpa [Tf.textT, Lib.byteCells] using B1, R1, G1⟩
  case round =>
    obtain ⟨k, hk, rfl, hbld, hrow, hB⟩ := hrel
    by_cases hlt : k < fs.length
    · have c1 : (k : Int) < (fs.length : Int) := by omega
      have c0 : (0 : Int) ≤ (k : Int) := by omega
      obtain ⟨p', cap', ev, _, hin⟩ := hrow
      obtain ⟨g, cur, rfl, hg, hcur⟩ := hin (by intro e; rw [List.map_eq_nil_iff] at e; rw [e] at hlt; simp at hlt)
      have hrow : TRow wr (.slice pa fs.length cap) (fs.map (·.1)) := ⟨_, cap', ev, by assumption, hin⟩
      have hcell := cell_of_row hg (hcur k (by simpa using hlt))
      rw [List.getElem_map] at hcell
      have epa : pa = some ⟨g, 0, none⟩ := by simp at ev; exact ev.1
      subst epa
      obtain ⟨hp1, hp2⟩ := hsz _ (List.getElem_mem hlt)
      have hl0 := hlenA k
      rw [List.length_take] at hl0
      have zp : ((ba fs[k].1).size : Int) ≤ 1000 := by rw [ba_size]; omega
      have HG' := HG.out k hlt wr hB
      clear ev hin hcur hg
      generalize ht : Tf.hasP fs fs[k].1 = t at *
      have hstep := textT_take hlt
      unfold Tf.entryT at hstep
      have hdl := digits_len fs[k].2.length (by omega)
      generalize fs[k].1 = q at *
      generalize fs[k].2 = bt at *
      go_wp2_with fail
      refine HG'.mono ?_
      rintro e w2 ⟨rfl, g2⟩
      have B2 := isBuilder_below hbld g2
      have R2 := hrow.below g2
      have G2 := hB.trans (g2.mono hB.size)
      go_wp2_with fail
      refine (HI.out bt.length w2 hp2 G2).mono ?_
      rintro e w3 ⟨rfl, g3⟩
      have B3 := isBuilder_below B2 g3
      have R3 := R2.below g3
      have G3 := G2.trans (g3.mono G2.size)
      have ecat : ba q ++ { data := #[32] } ++ ba (Lib.decDigits bt.length) ++ { data := #[10] } ++ ba bt ++ { data := #[10] } = ba (q ++ 32 :: (Lib.decDigits bt.length ++ 10 :: (bt ++ [10]))) := by
        rw [show (ByteArray.mk #[32]) = ba [32] from rfl, show (ByteArray.mk #[10]) = ba [10] from rfl]
        simp only [ba_append]
        simp
      clear HG'
      go_wp2_with fail
      refine (HW.out _ _ w3 ?_ G3.size B3).mono ?_
      · simp only [List.length_append, List.length_cons, List.length_nil]; omega
      rintro e w4 ⟨rfl, B4, g4, k4⟩
      have R4 := R3.others' k4 B3
      go_wp2
      go_roundw
      case rel => exact ⟨k + 1, by omega, by go_num, by rw [hstep]; exact B4, R4, G3.trans g4⟩
      case measure => simp [intOf]; omega
    · have c1 : (fs.length : Int) ≤ (k : Int) := by omega
      obtain rfl : k = fs.length := by omega
      rw [List.take_length] at hbld
      have HS' := HS.out wr hB.size hbld
      go_wp2_with fail
      refine HS'.mono ?_
      rintro e w5 ⟨rfl, g5⟩
      go_wp2
      go_ret
      exact ⟨rfl, hB.trans g5⟩
end Go.Proofs.YtgdjgohiaffejaaGreatDoor
namespace Go.Proofs.YtgdjgohiaffejaaGreatDoor
open Go.RowKit Go.Shelf Go.Lib Go.Maps
open Tf (Fs)
theorem ba_extract (t : List UInt8) (a b : Nat) : (ba t).extract a b = ba ((t.drop a).take (b - a)) := ba_eq (by rw [← Lib.toList_data, Lib.extract_toList])
def entCells (es : Fs) : List Value := es.flatMap fun e => [.string (ba e.1), .string (ba e.2)]
theorem entCells_at : ∀ (es : Fs) (j : Nat) (hj : j < es.length), (entCells es)[j * 2]? = some (.string (ba es[j].1)) ∧ (entCells es)[j * 2 + 1]? = some (.string (ba es[j].2))
  | e :: r, 0, _ => by simp [entCells]
  | e :: r, j + 1, hj => by
    have := entCells_at r j (by simpa using hj)
    have e1 : entCells (e :: r) = .string (ba e.1) :: .string (ba e.2) :: entCells r := by simp [entCells]
    rw [e1, show (j + 1) * 2 = j * 2 + 1 + 1 by omega]
    simpa using this
theorem ownsRow_below {w w' : World} {base : Nat} {e : TypeId} {size : Nat} {v : Value} {n : Nat} {xs : List Value} (h : w.ownsRow base e size v n xs) (hb : Below w.heap.size w w') : w'.ownsRow base e size v n xs := by
  obtain ⟨h0, h1⟩ := h
  refine ⟨h0, h1.imp id ?_⟩
  rintro ⟨g, cap, cur, e1, e2, e3, e4⟩
  exact ⟨g, cap, cur, e1, e2, (hb.block g (Array.getElem?_eq_some_iff.1 e3).1).trans e3, e4⟩
theorem well_len {fs : Fs} (h : Tf.Well pathB fs) : ∀ f ∈ fs, f.1.length ≤ 64 := by
  intro f hf
  have h1 := (h.each f hf).1
  unfold pathB allB at h1
  simp only [Bool.and_eq_true, decide_eq_true_eq, List.all_eq_true] at h1
  have h2 : ∀ x ∈ Kf.parts f.1, x.length ≤ 12 := fun x hx => by
    have := h1.2 x hx
    unfold nameK at this
    simp only [Bool.and_eq_true, decide_eq_true_eq] at this
    have e : (ba x).size = x.length := ba_size x
    revert this
    simp [e]
    omega
  have h3 := Kf.tot_parts f.1
  have h4 : Kf.tot (Kf.parts f.1) ≤ (Kf.parts f.1).length * 13 := by
    generalize Kf.parts f.1 = l at h2
    clear h1 h3
    induction l with
    | nil => simp [Kf.tot]
    | cons x r ih =>
      have := ih fun y hy => h2 y (List.mem_cons_of_mem _ hy)
      have := h2 x (by simp)
      simp [Kf.tot] at *
      omega
  omega
end Go.Proofs.YtgdjgohiaffejaaGreatDoor
namespace Go.Proofs.YtgdjgohiaffejaaGreatDoor
open Go.RowKit Go.Shelf Go.Lib Go.Maps
open Tf (Fs)
structure RTreeAt (B : Nat) (w : World) (tb : Nat) (fs : Fs) (v : Value) : Prop where
  low : B ≤ tb
  cell : w.cell? ⟨tb, 0, none⟩ = some v
  free : w.frozen? ⟨tb, 0, none⟩ = false
  row : w.ownsRow B 51 2 v fs.length (entCells fs)
  apart : v.ownBlock ≠ some tb
  nil : fs = [] → v = .slice none 0 0
theorem RTreeAt.lt {B : Nat} {w : World} {tb : Nat} {fs : Fs} {v : Value} (h : RTreeAt B w tb fs v) : tb < w.heap.size := lt_of_cell h.cell
theorem RTreeAt.below {B : Nat} {w w' : World} {tb : Nat} {fs : Fs} {v : Value} (h : RTreeAt B w tb fs v) (hb : Below w.heap.size w w') : RTreeAt B w' tb fs v :=
  ⟨h.low, (hb.cell (p := ⟨tb, 0, none⟩) h.lt).trans h.cell, (hb.frozen (p := ⟨tb, 0, none⟩) h.lt).trans h.free, ownsRow_below h.row hb, h.apart, h.nil⟩
def FRow (w : World) (v : Value) (es : Fs) : Prop :=
  ∃ p cap, v = .slice p es.length cap ∧ es.length ≤ cap ∧ (es ≠ [] → ∃ g cur, p = some ⟨g, 0, none⟩ ∧ w.heap[g]? = some (.cells cur 51 (0, 0)) ∧ ∀ j (hj : j < es.length), cur[j * 2]? = some (.string (ba es[j].1)) ∧ cur[j * 2 + 1]? = some (.string (ba es[j].2)))
theorem FRow.of_owns {w : World} {base : Nat} {v : Value} {es : Fs} (h : w.ownsRow base 51 2 v es.length (entCells es)) : FRow w v es := by
  rcases h.2 with ⟨rfl, hn⟩ | ⟨g, cap, cur, rfl, _, hb, h1, _, _, h4⟩
  · obtain rfl : es = [] := by simpa using hn
    exact ⟨none, 0, rfl, Nat.le_refl _, fun h => absurd rfl h⟩
  · refine ⟨_, cap, rfl, h1, fun _ => ⟨g, cur, rfl, hb, fun j hj => ?_⟩⟩
    obtain ⟨h5, h6⟩ := entCells_at es j hj
    rw [← h4, List.getElem?_take, if_pos (by omega), Array.getElem?_toList] at h5 h6
    exact ⟨h5, h6⟩
end Go.Proofs.YtgdjgohiaffejaaGreatDoor
namespace Go.Proofs.YtgdjgohiaffejaaGreatDoor
open Go.RowKit Go.Shelf Go.Lib
def PlRow (W : World) (g n : Nat) (f : Nat → Value) : Prop := g < W.heap.size ∧ ∀ j, j < n → W.cell? ⟨g, j, none⟩ = some (f j) ∧ W.frozen? ⟨g, j, none⟩ = false
def upd (f : Nat → Value) (i : Nat) (v : Value) : Nat → Value := fun j => if j = i then v else f j
theorem upd_same (f : Nat → Value) (i : Nat) (v : Value) : upd f i v i = v := if_pos rfl
theorem upd_other {f : Nat → Value} {i j : Nat} {v : Value} (h : j ≠ i) : upd f i v j = f j := if_neg h
theorem PlRow.same {W W' : World} {g n : Nat} {f : Nat → Value} (h : PlRow W g n f) (hz : W.heap.size ≤ W'.heap.size) (hb : W'.heap[g]? = W.heap[g]?) : PlRow W' g n f :=
  ⟨Nat.lt_of_lt_of_le h.1 hz, fun j hj => ⟨(World.cell?_of_block (a := ⟨g, j, none⟩) hb).trans (h.2 j hj).1, (World.frozen?_of_block (a := ⟨g, j, none⟩) hb).trans (h.2 j hj).2⟩⟩
theorem PlRow.set {W : World} {g n : Nat} {f : Nat → Value} (h : PlRow W g n f) {i : Nat} (hi : i < n) (v : Value) : PlRow (W.setCell ⟨g, i, none⟩ v) g n (upd f i v) := by
  refine ⟨by simpa using h.1, fun j hj => ⟨?_, ?_⟩⟩
  · by_cases e : j = i
    · subst e
      rw [upd_same]
      exact World.cell?_setCell_same' _ _ _ (by rw [(h.2 j hj).1]; rfl)
    · rw [upd_other e, World.cell?_setCell_other]
      · exact (h.2 j hj).1
      · simp
  · rw [World.frozen?_setCell]
    exact (h.2 j hj).2
theorem size_setCell (W : World) (a : Addr) (v : Value) : (W.setCell a v).heap.size = W.heap.size := by simp
theorem below_setCell {B : Nat} {w W : World} (h : Below B w W) {g i : Nat} (hg : B ≤ g) (v : Value) : Below B w (W.setCell ⟨g, i, none⟩ v) :=
  ⟨h.os, h.tape, h.output, by rw [size_setCell]; exact h.size, fun j hj => (Below.heap_setCell W ⟨g, i, none⟩ v j (by show j ≠ g; omega)).trans (h.block j hj)⟩
structure MBr (w0 W : World) (mb tb : Nat) (tv lv cv : Value) (gs go gh gw : Nat) (l : List Ru) (fs : Tf.Fs) (vS vO vH vW : Nat → Value) : Prop where
  base : Below w0.heap.size w0 W
  rules : RRow w0 lv l
  low : w0.heap.size ≤ mb ∧ w0.heap.size ≤ gs ∧ w0.heap.size ≤ go ∧ w0.heap.size ≤ gh ∧ w0.heap.size ≤ gw
  c0 : W.cell? ⟨mb, 0, none⟩ = some (Ptr tb)
  c1 : W.cell? ⟨mb, 1, none⟩ = some lv
  c2 : W.cell? ⟨mb, 2, none⟩ = some (.slice (some ⟨gs, 0, none⟩) l.length l.length)
  c3 : W.cell? ⟨mb, 3, none⟩ = some (.slice (some ⟨go, 0, none⟩) l.length l.length)
  c4 : W.cell? ⟨mb, 4, none⟩ = some (.slice (some ⟨gh, 0, none⟩) l.length l.length)
  c5 : W.cell? ⟨mb, 5, none⟩ = some (.slice (some ⟨gw, 0, none⟩) l.length l.length)
  c6 : W.cell? ⟨mb, 6, none⟩ = some cv
  rs : PlRow W gs l.length vS
  ro : PlRow W go l.length vO
  rh : PlRow W gh l.length vH
  rw : PlRow W gw l.length vW
  tree : RTreeAt w0.heap.size W tb fs tv
  n1 : gs ≠ go ∧ gs ≠ gh ∧ gs ≠ gw ∧ go ≠ gh ∧ go ≠ gw ∧ gh ≠ gw
  nm : mb ≠ gs ∧ mb ≠ go ∧ mb ≠ gh ∧ mb ≠ gw
  nt : ∀ j, (j = tb ∨ some j = tv.ownBlock) → j ≠ gs ∧ j ≠ go ∧ j ≠ gh ∧ j ≠ gw
section
variable {w0 W W' : World} {mb tb : Nat} {tv lv cv : Value} {gs go gh gw : Nat} {l : List Ru} {fs : Tf.Fs} {vS vO vH vW : Nat → Value}
def MBlk (mb tb : Nat) (tv : Value) (gs go gh gw : Nat) (j : Nat) : Prop := j = mb ∨ j = tb ∨ some j = tv.ownBlock ∨ j = gs ∨ j = go ∨ j = gh ∨ j = gw
theorem MBr.lt (h : MBr w0 W mb tb tv lv cv gs go gh gw l fs vS vO vH vW) : ∀ j, MBlk mb tb tv gs go gh gw j → j < W.heap.size := by
  rintro j (rfl | rfl | hj | rfl | rfl | rfl | rfl)
  · exact lt_of_cell h.c0
  · exact h.tree.lt
  · exact (h.tree.row.lt j hj.symm).2
  · exact h.rs.1
  · exact h.ro.1
  · exact h.rh.1
  · exact h.rw.1
theorem MBr.ge (h : MBr w0 W mb tb tv lv cv gs go gh gw l fs vS vO vH vW) : ∀ j, MBlk mb tb tv gs go gh gw j → w0.heap.size ≤ j := by
  obtain ⟨h1, h2, h3, h4, h5⟩ := h.low
  rintro j (rfl | rfl | hj | rfl | rfl | rfl | rfl)
  · exact h1
  · exact h.tree.low
  · exact (h.tree.row.lt j hj.symm).1
  · exact h2
  · exact h3
  · exact h4
  · exact h5
theorem RTreeAt.same {B : Nat} (h : RTreeAt B W tb fs tv) (hb : ∀ j, (j = tb ∨ some j = tv.ownBlock) → W'.heap[j]? = W.heap[j]?) : RTreeAt B W' tb fs tv := by
  have bt := hb tb (.inl rfl)
  refine ⟨h.low, (World.cell?_of_block (a := ⟨tb, 0, none⟩) bt).trans h.cell, (World.frozen?_of_block (a := ⟨tb, 0, none⟩) bt).trans h.free, ⟨h.row.1, ?_⟩, h.apart, h.nil⟩
  rcases h.row.2 with h1 | ⟨g, cap, cur, e, h0, hg, h2⟩
  · exact .inl h1
  · exact .inr ⟨g, cap, cur, e, h0, (hb g (.inr (by rw [e]; rfl))).trans hg, h2⟩
theorem MBr.same (h : MBr w0 W mb tb tv lv cv gs go gh gw l fs vS vO vH vW) (hB : Below w0.heap.size w0 W') (hz : W.heap.size ≤ W'.heap.size) (hb : ∀ j, MBlk mb tb tv gs go gh gw j → W'.heap[j]? = W.heap[j]?) : MBr w0 W' mb tb tv lv cv gs go gh gw l fs vS vO vH vW := by
  have bm := hb mb (.inl rfl)
  have cc : ∀ {i : Nat} {u : Value}, W.cell? ⟨mb, i, none⟩ = some u → W'.cell? ⟨mb, i, none⟩ = some u := fun {i u} hc => (World.cell?_of_block (a := ⟨mb, i, none⟩) bm).trans hc
  exact ⟨hB, h.rules, h.low, cc h.c0, cc h.c1, cc h.c2, cc h.c3, cc h.c4, cc h.c5, cc h.c6, h.rs.same hz (hb gs (.inr (.inr (.inr (.inl rfl))))), h.ro.same hz (hb go (.inr (.inr (.inr (.inr (.inl rfl)))))), h.rh.same hz (hb gh (.inr (.inr (.inr (.inr (.inr (.inl rfl))))))), h.rw.same hz (hb gw (.inr (.inr (.inr (.inr (.inr (.inr rfl))))))), h.tree.same (fun j hj => hb j (hj.elim (fun e => .inr (.inl e)) fun e => .inr (.inr (.inl e)))), h.n1, h.nm, h.nt⟩
theorem MBr.below (h : MBr w0 W mb tb tv lv cv gs go gh gw l fs vS vO vH vW) (hb : Below W.heap.size W W') : MBr w0 W' mb tb tv lv cv gs go gh gw l fs vS vO vH vW :=
  h.same (h.base.trans (hb.mono h.base.size)) hb.size fun j hj => hb.block j (h.lt j hj)
theorem MBr.row (h : MBr w0 W mb tb tv lv cv gs go gh gw l fs vS vO vH vW) : RRow W lv l := h.rules.below h.base
theorem MBr.store (h : MBr w0 W mb tb tv lv cv gs go gh gw l fs vS vO vH vW) {g i : Nat} (hg : g = gs ∨ g = go ∨ g = gh ∨ g = gw) (v : Value) {vS' vO' vH' vW' : Nat → Value}
    (rs : PlRow (W.setCell ⟨g, i, none⟩ v) gs l.length vS') (ro : PlRow (W.setCell ⟨g, i, none⟩ v) go l.length vO') (rh : PlRow (W.setCell ⟨g, i, none⟩ v) gh l.length vH') (rw : PlRow (W.setCell ⟨g, i, none⟩ v) gw l.length vW') :
    MBr w0 (W.setCell ⟨g, i, none⟩ v) mb tb tv lv cv gs go gh gw l fs vS' vO' vH' vW' := by
  have hS : ∀ c, c ≠ g → (W.setCell ⟨g, i, none⟩ v).heap[c]? = W.heap[c]? := fun c hc => Below.heap_setCell W ⟨g, i, none⟩ v c hc
  obtain ⟨l1, l2, l3, l4, l5⟩ := h.low
  have hlow : w0.heap.size ≤ g := by rcases hg with e | e | e | e <;> omega
  obtain ⟨m1, m2, m3, m4⟩ := h.nm
  have bm := hS mb (by rcases hg with e | e | e | e <;> omega)
  have cc : ∀ {j : Nat} {u : Value}, W.cell? ⟨mb, j, none⟩ = some u → (W.setCell ⟨g, i, none⟩ v).cell? ⟨mb, j, none⟩ = some u := fun {j u} hc => (World.cell?_of_block (a := ⟨mb, j, none⟩) bm).trans hc
  refine ⟨below_setCell h.base hlow v, h.rules, h.low, cc h.c0, cc h.c1, cc h.c2, cc h.c3, cc h.c4, cc h.c5, cc h.c6, rs, ro, rh, rw, h.tree.same (fun j hj => hS j ?_), h.n1, h.nm, h.nt⟩
  obtain ⟨t1, t2, t3, t4⟩ := h.nt j hj
  rcases hg with e | e | e | e <;> omega
theorem PlRow.other {g g' i n : Nat} {f : Nat → Value} (h : PlRow W g n f) (hg : g ≠ g') (v : Value) : PlRow (W.setCell ⟨g', i, none⟩ v) g n f :=
  h.same (by rw [size_setCell]; exact Nat.le_refl _) (Below.heap_setCell W ⟨g', i, none⟩ v g hg)
theorem MBr.setS (h : MBr w0 W mb tb tv lv cv gs go gh gw l fs vS vO vH vW) {i : Nat} (hi : i < l.length) (v : Value) : MBr w0 (W.setCell ⟨gs, i, none⟩ v) mb tb tv lv cv gs go gh gw l fs (upd vS i v) vO vH vW := by
  obtain ⟨a1, a2, a3, a4, a5, a6⟩ := h.n1
  exact h.store (.inl rfl) v (h.rs.set hi v) (h.ro.other (by omega) v) (h.rh.other (by omega) v) (h.rw.other (by omega) v)
end
end Go.Proofs.YtgdjgohiaffejaaGreatDoor
namespace Go.Proofs.YtgdjgohiaffejaaGreatDoor
open Go.RowKit Go.Shelf Go.Lib
abbrev FailO (gs gw : Nat) (W w : World) : Prop := Only (fun j => j = gs ∨ j = gw) W w
theorem FailO.drew {gs gw : Nat} {W w : World} (h : FailO gs gw W w) (q : Nat) : FailO gs gw W (w.drewN q) := ⟨h.os, h.tape, h.output, h.size, h.block⟩
theorem FailO.set {gs gw : Nat} {W w : World} (h : FailO gs gw W w) (i : Nat) (v : Value) : FailO gs gw W (w.setCell ⟨gs, i, none⟩ v) :=
  ⟨h.os, h.tape, h.output, by rw [size_setCell]; exact h.size, fun j hj hn => (Below.heap_setCell w ⟨gs, i, none⟩ v j (fun e => hn (.inl e))).trans (h.block j hj hn)⟩
theorem MBr.drew {w0 W : World} {mb tb : Nat} {tv lv cv : Value} {gs go gh gw : Nat} {l : List Ru} {fs : Tf.Fs} {vS vO vH vW : Nat → Value} (h : MBr w0 W mb tb tv lv cv gs go gh gw l fs vS vO vH vW) (q : Nat) : MBr w0 (W.drewN q) mb tb tv lv cv gs go gh gw l fs vS vO vH vW :=
  h.same (below_draws h.base q) (Nat.le_refl _) fun _ _ => rfl
end Go.Proofs.YtgdjgohiaffejaaGreatDoor
namespace Go.Proofs.YtgdjgohiaffejaaGreatDoor
open Go.RowKit Go.Shelf Go.Lib
set_option maxRecDepth 100000 in
set_option maxHeartbeats 4000000 in
theorem LongTexts_any {w : World} (v : Value) (ls : List (List UInt8)) (many most : Nat) (hmany : many ≤ 1000000) (hmost : most ≤ 1000000) (hrow : IRow w v ls) :
    Calls Tryz.prog 33 #[v, .int .i64 many, .int .i64 most] w fun e w' => ∃ r : Int, e = .returned (.int .i64 r) ∧ w' = w ∧ (r = 1 ∨ (r = 0 ∧ ls.length ≤ many ∧ ∀ x ∈ ls, x.length ≤ most)) := by
  obtain ⟨p, cap, rfl, hin⟩ := hrow
  have zM : (most : Int) ≤ 1000000 := by omega
  have zN : (many : Int) ≤ 1000000 := by omega
  have HI := hid1 hin
  clear hin
  by_cases h12 : ls.length ≤ many
  · have z12 : (ls.length : Int) ≤ (many : Int) := by omega
    go_enter Tryz.func33, Tryz.ntmps33
    go_wp2
    go_loopw [7, 8] (fun n i wr => ∃ k m : Nat, k ≤ ls.length ∧ m ≤ most ∧ n = .int .i64 m ∧ i = .int .i64 k ∧ (∀ j (hj : j < ls.length), j < k → ls[j].length ≤ most) ∧ w = wr) (fun _ i _ => ls.length - (intOf i).toNat)
    case atStart => exact ⟨0, 0, Nat.zero_le _, Nat.zero_le _, rfl, rfl, fun j hj h => by omega, rfl⟩
    case round =>
      obtain ⟨k, m, hk, hm, rfl, rfl, hall, rfl⟩ := hrel
      have HA := hid1 hall
      clear hall
      have c0 : (0 : Int) ≤ (k : Int) := by omega
      have zm : (m : Int) ≤ (most : Int) := by omega
      have q8 : IntKind.i64.wrap (k : Int) = (k : Int) := by rw [IntKind.wrap_i64]; omega
      by_cases hlt : k < ls.length
      · have c1 : (k : Int) < (ls.length : Int) := by omega
        obtain ⟨g, o, rfl, hg, hcur⟩ := HI.out (by intro e; rw [e] at hlt; simp at hlt)
        have hcell := hcur k hlt
        have HS : Hid (ls[k].length ≤ most → ∀ j (hj : j < ls.length), j < k + 1 → ls[j].length ≤ most) := by
          refine hid1 fun h j hj hjk => ?_
          by_cases e : j = k
          · subst e; exact h
          · exact HA.out j hj (by omega)
        clear hcur HI HA
        generalize ls[k] = y at *
        by_cases hy : y.length ≤ most
        · have zy : (y.length : Int) ≤ (most : Int) := by omega
          have HN := hid1 (HS.out hy)
          clear HS
          have q7 : IntKind.i64.wrap ((m : Int) + (y.length : Int)) = ((m + y.length : Nat) : Int) := by rw [IntKind.wrap_i64]; omega
          by_cases hs : m + y.length ≤ most
          · have zs : ((m + y.length : Nat) : Int) ≤ (most : Int) := by omega
            generalize hmy : m + y.length = m1 at *
            clear hmy
            go_wp2
            exact ⟨⟨k + 1, m1, by omega, hs, rfl, by go_num, HN.out, trivial⟩, by simp [intOf]; omega⟩
          · have zs : (most : Int) < ((m + y.length : Nat) : Int) := by omega
            generalize hmy : m + y.length = m1 at *
            clear hmy
            go_wp2
            go_ret
            exact ⟨1, rfl, rfl, .inl rfl⟩
        · have zy : (most : Int) < (y.length : Int) := by omega
          clear HS
          go_wp2
          go_ret
          exact ⟨1, rfl, rfl, .inl rfl⟩
      · obtain rfl : k = ls.length := by omega
        have c1 : ¬ (ls.length : Int) < (ls.length : Int) := by omega
        have HF : Hid (∀ x ∈ ls, x.length ≤ most) := by
          refine hid1 fun x hx => ?_
          obtain ⟨j, hj, rfl⟩ := List.getElem_of_mem hx
          exact HA.out j hj hj
        clear HI HA
        go_wp2
        go_ret
        exact ⟨0, rfl, rfl, .inr ⟨rfl, HF.out⟩⟩
  · have z12 : (many : Int) < (ls.length : Int) := by omega
    go_enter Tryz.func33, Tryz.ntmps33
    go_wp2
    go_ret
    exact ⟨1, rfl, rfl, .inl rfl⟩
set_option maxRecDepth 100000 in
set_option maxHeartbeats 4000000 in
theorem OwnTexts_nil (w : World) :
    Calls Tryz.prog 35 #[.slice none 0 0] w fun e w' => ∃ v', e = .returned v' ∧ XRow w' v' [] ∧ TRow w' v' [] ∧ Below w.heap.size w w' := by
  obtain ⟨i0, hi, hz0, hz1, hz2⟩ := info_parts Tryz.infoStr
  have n1 : World.ownsRow w w.heap.size 9 1 (.slice none 0 0) 0 [] := World.ownsRow_nil _ _ _ _
  go_enter Tryz.func35, Tryz.ntmps35
  go_wp2_with (first
    | (at_builtin; refine wpList_append_own_none rfl _ _ 45 rfl w.heap.size 9 i0 1 Tryz.underlying45 hi _ _ _ rfl n1 rfl ?_)
    | go_in)
  go_ret
  exact ⟨_, rfl, XRow.of_owns (l := []) n1, TRow.of_owns (l := []) n1, Below.refl _ _⟩
set_option maxRecDepth 100000 in
set_option maxHeartbeats 4000000 in
theorem OwnTexts_some (w : World) (a : Addr) (cap : Nat) (ls : List (List UInt8)) (hn : ls.length ≤ 12) (hsrc : ∀ j u, (ls.map sv)[j]? = some u → w.cell? (a.add j) = some u) :
    Calls Tryz.prog 35 #[.slice (some a) ls.length cap] w fun e w' => ∃ v', e = .returned v' ∧ XRow w' v' ls ∧ TRow w' v' ls ∧ Below w.heap.size w w' := by
  obtain ⟨i0, hi, hz0, hz1, hz2⟩ := info_parts Tryz.infoStr
  have n1 : World.ownsRow w w.heap.size 9 1 (.slice none 0 0) 0 [] := World.ownsRow_nil _ _ _ _
  go_enter Tryz.func35, Tryz.ntmps35
  go_wp2_with (first
    | (at_builtin; refine wpList_append_own _ rfl _ _ 45 rfl w.heap.size 9 i0 (.string ⟨#[]⟩) 1 16 Tryz.underlying45 hi hz0 hz1 hz2 rfl (by decide) _ _ _ rfl n1 a ls.length cap (ls.map sv) rfl (by simp) hsrc one_sv (by unfold maxLen; omega) (by omega) (Nat.le_refl _) ?_; intro v1 w1 hown1 hgrow1 _; have b1 := lay_b1 n1 hgrow1; clear hsrc n1 hgrow1)
    | go_in)
  go_ret
  exact ⟨_, rfl, XRow.of_owns hown1, TRow.of_owns hown1, b1⟩
theorem OwnTexts_x {w : World} (v : Value) (ls : List (List UInt8)) (hrow : XRow w v ls) (h12 : ls.length ≤ 12) :
    Calls Tryz.prog 35 #[v] w fun e w' => ∃ v', e = .returned v' ∧ XRow w' v' ls ∧ TRow w' v' ls ∧ Below w.heap.size w w' := by
  have hx := hrow.irow
  have hv := hrow.shape
  obtain ⟨p, cap, rfl, hin⟩ := hx
  rcases hv with e | ⟨a, n, c, e⟩
  · obtain ⟨rfl, e2, rfl⟩ : p = none ∧ ls.length = 0 ∧ cap = 0 := by simpa using e
    obtain rfl := List.length_eq_zero_iff.1 e2
    exact OwnTexts_nil w
  · obtain ⟨rfl, rfl, rfl⟩ : p = some a ∧ ls.length = n ∧ cap = c := by simpa using e
    refine OwnTexts_some w a cap ls h12 fun j u hj => ?_
    have hjl : j < ls.length := by simpa using (List.getElem?_eq_some_iff.1 hj).1
    obtain ⟨g, o, e1, hg, hcur⟩ := hin (by intro e; rw [e] at hjl; simp at hjl)
    obtain rfl := Option.some.inj e1
    rw [List.getElem?_map, List.getElem?_eq_getElem hjl] at hj
    simp only [Option.map_some, Option.some.injEq] at hj
    rw [← hj, add_at2]
    exact hcur j hjl
end Go.Proofs.YtgdjgohiaffejaaGreatDoor
namespace Go.Proofs.YtgdjgohiaffejaaGreatDoor
open Go.RowKit Go.Shelf Go.Lib
theorem piece_len (x : List UInt8) (h : x.length ≤ 5000) : (Kp.piece x).length ≤ x.length + 22 := by
  unfold Kp.piece
  have := digits_len x.length (by omega)
  simp
  omega
end Go.Proofs.YtgdjgohiaffejaaGreatDoor
namespace Go.Proofs.YtgdjgohiaffejaaGreatDoor
open Go.RowKit Go.Shelf Go.Lib
def MCa (T : Nat → Prop) (W : World) (cv : Value) : Bf.Ca → Prop
  | none => cv = .pointer none ∧ ∀ j, ¬ T j
  | some (m, l) => (∃ p, cv = .pointer (some p)) ∧ MAt T W cv m l
theorem MCa.same {T : Nat → Prop} {W W' : World} {cv : Value} {c : Bf.Ca} (h : MCa T W cv c) (hz : W.heap.size ≤ W'.heap.size) (hb : ∀ k, T k → W'.heap[k]? = W.heap[k]?) : MCa T W' cv c := by
  match c, h with
  | none, h => exact h
  | some (m, l), h => exact ⟨h.1, h.2.same hz hb⟩
theorem MCa.lt {T : Nat → Prop} {W : World} {cv : Value} {c : Bf.Ca} (h : MCa T W cv c) : ∀ k, T k → k < W.heap.size := by
  match c, h with
  | none, h => exact fun k hk => absurd hk (h.2 k)
  | some (m, l), h => exact h.2.lt
theorem MCa.below {T : Nat → Prop} {W W' : World} {cv : Value} {c : Bf.Ca} (h : MCa T W cv c) (hb : Below W.heap.size W W') : MCa T W' cv c := h.same hb.size fun k hk => hb.block k (h.lt k hk)
theorem MCa.fail {W V w' : World} {mb tb : Nat} {tv cv : Value} {gs go gh gw : Nat} {T : Nat → Prop} {c : Bf.Ca} (h : MCa T W cv c) (hT : ∀ j, MBlk mb tb tv gs go gh gw j → ¬ T j) (g : Below W.heap.size W V) (o : FailO gs gw V w') : MCa T w' cv c :=
  (h.below g).same o.size fun k hk => o.block k ((h.below g).lt k hk) fun x => hT k (x.elim (fun e => .inr (.inr (.inr (.inl e)))) fun e => .inr (.inr (.inr (.inr (.inr (.inr e)))))) hk
theorem MCa.stored {W V : World} {mb tb : Nat} {tv cv : Value} {gs go gh gw : Nat} {T : Nat → Prop} {c : Bf.Ca} (h : MCa T W cv c) (hT : ∀ j, MBlk mb tb tv gs go gh gw j → ¬ T j) (g : Below W.heap.size W V) {a b i : Nat} {u v : Value} (ha : a = gs ∨ a = go ∨ a = gh ∨ a = gw) (hb : b = gs ∨ b = go ∨ b = gh ∨ b = gw) : MCa T ((V.setCell ⟨a, i, none⟩ u).setCell ⟨b, i, none⟩ v) cv c := by
  have key : ∀ x j, (x = gs ∨ x = go ∨ x = gh ∨ x = gw) → T j → j ≠ x := fun x j hx ht e => hT j (by subst e; exact .inr (.inr (.inr hx))) ht
  exact (h.below g).same (by rw [size_setCell, size_setCell]; exact Nat.le_refl _) fun k hk => (Below.heap_setCell _ ⟨b, i, none⟩ v k (key b k hb hk)).trans (Below.heap_setCell V ⟨a, i, none⟩ u k (key a k ha hk))
namespace Bf
def acc (d : Bd) (o : List (List UInt8)) (x : List UInt8) (j : Nat) : List (List UInt8) := match mkr d.l x with | some m => if m < j then o ++ [(d.st m).out] else o | none => o
end Bf
end Go.Proofs.YtgdjgohiaffejaaGreatDoor
