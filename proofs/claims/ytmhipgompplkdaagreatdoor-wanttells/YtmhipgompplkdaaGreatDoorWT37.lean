import Derived.Test.YtmhipgompplkdaaGreatDoorWT30
import Derived.Test.YtmhipgompplkdaaGreatDoorWT07
import Derived.Shelf.Strings.BuilderK
import Derived.Lib.SmallJoins
import Derived.Lib.ItoaLen
import Derived.Sort.Grow
import Derived.Test.YtmhipgompplkdaaGreatDoorWT15
import Derived.OwnWalk
import Derived.Test.YtmhipgompplkdaaGreatDoorWT09
import Derived.Test.YtmhipgompplkdaaGreatDoorWT11
import Derived.OneCell
namespace Go.Proofs.YtmhipgompplkdaaGreatDoor
open Go.RowKit Go.Shelf Go.Lib Go.Maps
open Tf (Fs)
open Go.Sort (grow)
theorem get_at {fs : Fs} (hr : Tf.Rises fs) {k : Nat} (hk : k < fs.length) : Tf.get fs fs[k].1 = some fs[k].2 := by
  unfold Tf.get
  have : fs.find? (fun f => f.1 == fs[k].1) = some fs[k] := by
    rw [List.find?_eq_some_iff_getElem]
    refine ⟨by simp, k, hk, rfl, fun j hj => ?_⟩
    have h1 := List.pairwise_iff_getElem.1 hr j k (by omega) hk hj
    simp only [Bool.not_eq_true', beq_eq_false_iff_ne]
    intro e
    rw [e, WideAt.bytes_irrefl] at h1
    cases h1
  rw [this]
  rfl
theorem textT_take {fs : Fs} {k : Nat} (hk : k < fs.length) : Tf.textT (fs.take (k + 1)) = Tf.textT (fs.take k) ++ Tf.entryT fs[k] := by
  unfold Tf.textT
  rw [List.take_succ_eq_append_getElem hk, List.flatMap_append, List.flatMap_cons, List.flatMap_nil, List.append_nil]
theorem textT_len {fs : Fs} (h : ∀ f ∈ fs, f.1.length ≤ 1000 ∧ f.2.length ≤ 2000) : (Tf.textT fs).length ≤ fs.length * 4000 := by
  unfold Tf.textT
  induction fs with
  | nil => simp
  | cons f r ih =>
    have h1 := h f (by simp)
    have h2 := ih fun g hg => h g (List.mem_cons_of_mem _ hg)
    have h3 := digits_len f.2.length (by omega)
    simp [Tf.entryT] at *
    omega
set_option maxRecDepth 100000 in
set_option maxHeartbeats 4000000 in
theorem Text_calls {B : Nat} {w : World} {tb : Nat} {fs : Fs} {o : Option Nat} (h : TreeAt B w tb fs o) (hP : Pow w) (hr : Tf.Rises fs) (hn : fs.length ≤ 1000) (hsz : ∀ f ∈ fs, f.1.length ≤ 1000 ∧ f.2.length ≤ 2000) :
    Calls Tryz.prog 17 #[Ptr tb] w fun e w' => e = .returned (.string (ba (Tf.textT fs))) ∧ Below w.heap.size w w' := by
  have g0 : Below w.heap.size w (w.alloc (.cells #[.pointer none, .slice none 0 0] 143)) := (Below.refl _ w).alloc (Nat.le_refl _) _
  have b0 : Lib.IsBuilderF 143 5 w.heap.size w.heap.size [] (w.alloc (.cells #[.pointer none, .slice none 0 0] 143)) := Lib.IsBuilderF.of (Lib.fresh_isBuilder 143 5 w)
  have HP : Hid (Calls Tryz.prog 29 #[Ptr tb] (w.alloc (.cells #[.pointer none, .slice none 0 0] 143)) fun e w' => ∃ v, e = .returned v ∧ TRow w' v (fs.map (·.1)) ∧ Below (w.alloc (.cells #[.pointer none, .slice none 0 0] 143)).heap.size (w.alloc (.cells #[.pointer none, .slice none 0 0] 143)) w') :=
    (Paths_calls (h.below g0) hr hn).mono fun e w' ⟨v, h1, h2, h3⟩ => ⟨v, h1, TRow.of_owns h2, h3⟩
  have HG : Hid (∀ k (hk : k < fs.length) W, Below w.heap.size w W → Calls Tryz.prog 27 #[Ptr tb, .string (ba fs[k].1)] W fun e w' => e = .returned (.tuple #[.string (ba fs[k].2), .bool (Tf.hasP fs fs[k].1)]) ∧ Below W.heap.size W w') := fun k hk W hW => by
    have := Get_calls (h.below hW) fs[k].1 (by have := (hsz _ (List.getElem_mem hk)).1; omega)
    rw [get_at hr hk] at this
    exact this
  have HI : Hid (∀ (n : Nat) W, n ≤ 2000 → Below w.heap.size w W → Calls Tryz.prog 86 #[.int .i64 n] W fun e w' => e = .returned (.string (ba (Lib.decDigits n))) ∧ Below W.heap.size W w') := fun n W hn hW => by
    refine (Tryz.strconv_Itoa (n : Int) (by omega) (by omega) W (pow_below hP hW)).mono ?_
    rintro e w' ⟨rfl, k, os, rfl⟩
    rw [Lib.itoa_nonneg]
    exact ⟨rfl, below_grow W k os⟩
  have HW : Hid (∀ (bs : List UInt8) (s : List UInt8) W, bs.length + s.length ≤ 100000000 → w.heap.size ≤ W.heap.size → Lib.IsBuilderF 143 5 w.heap.size w.heap.size (Lib.byteCells bs) W → Calls Tryz.prog 85 #[.pointer (some ⟨w.heap.size, 0, none⟩), .string (ba s)] W fun e w' =>
      e = .returned (.tuple #[.int .i64 s.length, .nilIface]) ∧ Lib.IsBuilderF 143 5 w.heap.size w.heap.size (Lib.byteCells (bs ++ s)) w' ∧ Below w.heap.size W w' ∧ Lib.OthersKept 5 (some w.heap.size) W w') := fun bs s W hl hW hb => by
    refine (Any.Builder_WriteString_k Tryz.lays166 Tryz.Builder_Extra_166 w.heap.size w.heap.size (Lib.byteCells bs) (ba s) W hb (by rw [Lib.byteCells_length, ba_size]; omega) hW).mono ?_
    rintro e w' ⟨rfl, h1, h2, h3⟩
    refine ⟨by rw [ba_size], .inr ?_, h2, h3⟩
    rw [Lib.byteCells_append]
    exact h1
  have HS : Hid (∀ W, w.heap.size ≤ W.heap.size → Lib.IsBuilderF 143 5 w.heap.size w.heap.size (Lib.byteCells (Tf.textT fs)) W → Calls Tryz.prog 87 #[.pointer (some ⟨w.heap.size, 0, none⟩)] W fun e w' => e = .returned (.string (ba (Tf.textT fs))) ∧ Below w.heap.size W w') := fun W hW hb => by
    refine (Any.Builder_String_any_k Tryz.lays169 Tryz.Builder_Extra_169 w.heap.size w.heap.size (Tf.textT fs) W hb hW).mono ?_
    rintro e w' ⟨rfl, _, h2, _⟩
    exact ⟨rfl, h2⟩
  have hzn : (fs.length : Int) ≤ 1000 := by omega
  have hlenA := fun k : Nat => textT_len (fs := fs.take k) (fun f hf => hsz f (List.mem_of_mem_take hf))
  clear h hP
  go_enter Tryz.func17, Tryz.ntmps17
  go_wp2_with fail
  refine HP.out.mono ?_
  rintro e w1 ⟨v, rfl, ⟨pa, cap, rfl, hcap, hrow⟩, g1⟩
  have B1 := isBuilder_below b0 g1
  have G1 : Below w.heap.size w w1 := g0.trans (g1.mono g0.size)
  have R1 : TRow w1 (.slice pa (fs.map (·.1)).length cap) (fs.map (·.1)) := ⟨pa, cap, rfl, hcap, hrow⟩
  rw [List.length_map] at R1 hcap ⊢
  clear HP g0 b0 g1 hrow
  go_wp2
  go_loopw [11] (fun i wr => ∃ k : Nat, k ≤ fs.length ∧ i = .int .i64 k ∧ Lib.IsBuilderF 143 5 w.heap.size w.heap.size (Lib.byteCells (Tf.textT (fs.take k))) wr ∧ TRow wr (.slice pa fs.length cap) (fs.map (·.1)) ∧ Below w.heap.size w wr) (fun i _ => fs.length - (intOf i).toNat)
  case atStart => exact ⟨0, Nat.zero_le _, rfl, by simpa [Tf.textT, Lib.byteCells] using B1, R1, G1⟩
  case round =>
    obtain ⟨k, hk, rfl, hbld, hrow, hB⟩ := hrel
    by_cases hlt : k < fs.length
    · have c1 : (k : Int) < (fs.length : Int) := by omega
      have c0 : (0 : Int) ≤ (k : Int) := by omega
      obtain ⟨p', cap', ev, _, hin⟩ := hrow
      obtain ⟨g, cur, rfl, hg, hcur⟩ := hin (by intro e; rw [List.map_eq_nil_iff] at e; rw [e] at hlt; simp at hlt)
      have hrow : TRow wr (.slice pa fs.length cap) (fs.map (·.1)) := ⟨_, cap', ev, by assumption, hin⟩
      have hcell := cell_of_row hg (hcur k (by simpa using hlt))
      rw [List.getElem_map] at hcell
      have epa : pa = some ⟨g, 0, none⟩ := by simp at ev; exact ev.1
      subst epa
      obtain ⟨hp1, hp2⟩ := hsz _ (List.getElem_mem hlt)
      have hl0 := hlenA k
      rw [List.length_take] at hl0
      have zp : ((ba fs[k].1).size : Int) ≤ 1000 := by rw [ba_size]; omega
      have HG' := HG.out k hlt wr hB
      clear ev hin hcur hg
      generalize ht : Tf.hasP fs fs[k].1 = t at *
      have hstep := textT_take hlt
      unfold Tf.entryT at hstep
      have hdl := digits_len fs[k].2.length (by omega)
      generalize fs[k].1 = q at *
      generalize fs[k].2 = bt at *
      go_wp2_with fail
      refine HG'.mono ?_
      rintro e w2 ⟨rfl, g2⟩
      have B2 := isBuilder_below hbld g2
      have R2 := hrow.below g2
      have G2 := hB.trans (g2.mono hB.size)
      go_wp2_with fail
      refine (HI.out bt.length w2 hp2 G2).mono ?_
      rintro e w3 ⟨rfl, g3⟩
      have B3 := isBuilder_below B2 g3
      have R3 := R2.below g3
      have G3 := G2.trans (g3.mono G2.size)
      have ecat : ba q ++ { data := #[32] } ++ ba (Lib.decDigits bt.length) ++ { data := #[10] } ++ ba bt ++ { data := #[10] } = ba (q ++ 32 :: (Lib.decDigits bt.length ++ 10 :: (bt ++ [10]))) := by
        rw [show (ByteArray.mk #[32]) = ba [32] from rfl, show (ByteArray.mk #[10]) = ba [10] from rfl]
        simp only [ba_append]
        simp
      clear HG'
      go_wp2_with fail
      refine (HW.out _ _ w3 ?_ G3.size B3).mono ?_
      · simp only [List.length_append, List.length_cons, List.length_nil]; omega
      rintro e w4 ⟨rfl, B4, g4, k4⟩
      have R4 := R3.others' k4 B3
      go_wp2
      go_roundw
      case rel => exact ⟨k + 1, by omega, by go_num, by rw [hstep]; exact B4, R4, G3.trans g4⟩
      case measure => simp [intOf]; omega
    · have c1 : (fs.length : Int) ≤ (k : Int) := by omega
      obtain rfl : k = fs.length := by omega
      rw [List.take_length] at hbld
      have HS' := HS.out wr hB.size hbld
      go_wp2_with fail
      refine HS'.mono ?_
      rintro e w5 ⟨rfl, g5⟩
      go_wp2
      go_ret
      exact ⟨rfl, hB.trans g5⟩
end Go.Proofs.YtmhipgompplkdaaGreatDoor
namespace Go.Proofs.YtmhipgompplkdaaGreatDoor
open Go.RowKit Go.Shelf Go.Lib Go.Maps
open Tf (Fs)
theorem ba_extract (t : List UInt8) (a b : Nat) : (ba t).extract a b = ba ((t.drop a).take (b - a)) := ba_eq (by rw [← Lib.toList_data, Lib.extract_toList])
theorem pair_new (w : World) (x y : Value) (t : TypeId) : (w.alloc (.cells #[x, y] t)).heap[w.heap.size]? = some (.cells #[x, y] t (0, 0)) := (MapKept.heap_alloc w _).1
end Go.Proofs.YtmhipgompplkdaaGreatDoor
namespace Go.Proofs.YtmhipgompplkdaaGreatDoor
open Go.RowKit Go.Shelf Go.Lib Go.Maps
open Tf (Fs)
def entCells (es : Fs) : List Value := es.flatMap fun e => [.string (ba e.1), .string (ba e.2)]
theorem entCells_len (es : Fs) : (entCells es).length = es.length * 2 := by
  induction es with
  | nil => rfl
  | cons e r ih => simp [entCells] at ih ⊢; omega
theorem entCells_at : ∀ (es : Fs) (j : Nat) (hj : j < es.length), (entCells es)[j * 2]? = some (.string (ba es[j].1)) ∧ (entCells es)[j * 2 + 1]? = some (.string (ba es[j].2))
  | e :: r, 0, _ => by simp [entCells]
  | e :: r, j + 1, hj => by
    have := entCells_at r j (by simpa using hj)
    have e1 : entCells (e :: r) = .string (ba e.1) :: .string (ba e.2) :: entCells r := by simp [entCells]
    rw [e1, show (j + 1) * 2 = j * 2 + 1 + 1 by omega]
    simpa using this
def ERow (w : World) (v : Value) (es : Fs) : Prop :=
  ∃ p cap, v = .slice p es.length cap ∧ es.length ≤ cap ∧ (es ≠ [] → ∃ g cur, p = some ⟨g, 0, none⟩ ∧ w.heap[g]? = some (.cells cur 135 (0, 0)) ∧ ∀ j (hj : j < es.length), cur[j * 2]? = some (.string (ba es[j].1)) ∧ cur[j * 2 + 1]? = some (.string (ba es[j].2)))
theorem ERow.of_owns {w : World} {base : Nat} {v : Value} {es : Fs} (h : w.ownsRow base 135 2 v es.length (entCells es)) : ERow w v es := by
  rcases h.2 with ⟨rfl, hn⟩ | ⟨g, cap, cur, rfl, _, hb, h1, _, _, h4⟩
  · obtain rfl : es = [] := by simpa using hn
    exact ⟨none, 0, rfl, Nat.le_refl _, fun h => absurd rfl h⟩
  · refine ⟨_, cap, rfl, h1, fun _ => ⟨g, cur, rfl, hb, fun j hj => ?_⟩⟩
    obtain ⟨h5, h6⟩ := entCells_at es j hj
    rw [← h4, List.getElem?_take, if_pos (by omega), Array.getElem?_toList] at h5 h6
    exact ⟨h5, h6⟩
theorem ERow.keep {w w' : World} {v : Value} {es : Fs} {B : Nat} (h : ERow w v es) (hB : w.heap.size ≤ B) (hb : ∀ k, k < B → w'.heap[k]? = w.heap[k]?) : ERow w' v es := by
  obtain ⟨p, cap, e, h0, h1⟩ := h
  refine ⟨p, cap, e, h0, fun hl => ?_⟩
  obtain ⟨g, cur, e, hg, hc⟩ := h1 hl
  exact ⟨g, cur, e, (hb g (by have := (Array.getElem?_eq_some_iff.1 hg).1; omega)).trans hg, hc⟩
theorem row_low {w : World} {base : Nat} {e : TypeId} {size : Nat} {v : Value} {n : Nat} {xs : List Value} (h : w.ownsRow base e size v n xs) : ∀ k, v.ownBlock = some k → base ≤ k := by
  intro k hk
  rcases h.2 with ⟨rfl, _⟩ | ⟨g, cap, cur, rfl, hb, _⟩
  · cases hk
  · cases hk; exact hb
theorem ownsRow_below {w w' : World} {base : Nat} {e : TypeId} {size : Nat} {v : Value} {n : Nat} {xs : List Value} (h : w.ownsRow base e size v n xs) (hb : Below w.heap.size w w') : w'.ownsRow base e size v n xs := by
  obtain ⟨h0, h1⟩ := h
  refine ⟨h0, h1.imp id ?_⟩
  rintro ⟨g, cap, cur, e1, e2, e3, e4⟩
  exact ⟨g, cap, cur, e1, e2, (hb.block g (Array.getElem?_eq_some_iff.1 e3).1).trans e3, e4⟩
theorem two_new (W : World) (x y : Value) (t : TypeId) (j : Nat) (u : Value) (h : [x, y][j]? = some u) : (W.alloc (.cells #[x, y] t)).cell? ((⟨W.heap.size, 0, none⟩ : Addr).add j) = some u := by
  have hk := pair_new W x y t
  match j, h with
  | 0, h => cases h; exact cell_of_row hk rfl
  | 1, h => cases h; exact cell_of_row hk rfl
end Go.Proofs.YtmhipgompplkdaaGreatDoor
namespace Go.Proofs.YtmhipgompplkdaaGreatDoor
open Go.RowKit Go.Shelf Go.Lib Go.Maps
open Tf (Fs)
theorem above_short {a b : List UInt8} (h : b.length ≤ a.length) : Tf.above a b = false := by
  cases e : Tf.above a b with
  | false => rfl
  | true =>
    have := (List.isPrefixOf_iff_prefix.1 (show (a ++ [47]).isPrefixOf b = true from e)).length_le
    simp at this
    omega
theorem above_off {a b : List UInt8} (h : (b.take a.length == a) = false) : Tf.above a b = false := by
  cases e : Tf.above a b with
  | false => rfl
  | true =>
    obtain ⟨t, rfl⟩ := List.isPrefixOf_iff_prefix.1 (show (a ++ [47]).isPrefixOf b = true from e)
    simp at h
theorem above_on {a b : List UInt8} (hl : a.length < b.length) (h : b.take a.length = a) : Tf.above a b = decide (b[a.length] = 47) := by
  obtain ⟨c, t, rfl⟩ : ∃ c t, b = a ++ c :: t := by
    refine ⟨b[a.length], b.drop (a.length + 1), ?_⟩
    conv => lhs; rw [← List.take_append_drop a.length b, h, List.drop_eq_getElem_cons hl]
  have e : (a ++ c :: t)[a.length] = c := by simp
  rw [e]
  rw [Bool.eq_iff_iff]
  show (a ++ [47]).isPrefixOf (a ++ c :: t) = true ↔ _
  rw [List.isPrefixOf_iff_prefix, List.prefix_append_right_inj, List.cons_prefix_cons]
  simp
  exact eq_comm
theorem byte_is (x : UInt8) (n : Nat) (hn : n < 256) : (((x.toNat : Nat) : Int) == (n : Int)) = decide (x = UInt8.ofNat n) := by
  rw [Bool.eq_iff_iff]
  simp only [beq_iff_eq, decide_eq_true_eq]
  constructor
  · intro h
    apply UInt8.toNat_inj.1
    simp
    omega
  · intro h
    subst h
    simp
    omega
set_option maxRecDepth 100000 in
theorem rabove_calls (a b : List UInt8) (ha : a.length ≤ 1000000) (hb : b.length ≤ 1000000) (w : World) :
    Calls Tryz.prog 91 #[.string (ba a), .string (ba b)] w fun e w' => e = .returned (.bool (Tf.above a b)) ∧ w' = w := by
  have za : (a.length : Int) ≤ 1000000 := by omega
  have zb : (b.length : Int) ≤ 1000000 := by omega
  have z0 : (0 : Int) ≤ (a.length : Int) := by omega
  rcases Nat.lt_or_ge a.length b.length with hl | hl
  · have zl : (a.length : Int) < (b.length : Int) := by omega
    have zl2 : (a.length : Int) ≤ (b.length : Int) := by omega
    have e1 : (ba b).extract 0 a.length = ba (b.take a.length) := by rw [ba_extract]; simp
    cases he : (b.take a.length == a) with
    | false =>
      rw [above_off he]
      go_enter Tryz.func91, Tryz.ntmps91
      go_wp2
      go_ret
      exact ⟨rfl, rfl⟩
    | true =>
      have he' : b.take a.length = a := by simpa using he
      rw [above_on hl he']
      go_enter Tryz.func91, Tryz.ntmps91
      go_wp2
      go_ret
      exact ⟨ret_bool (byte_is b[a.length] 47 (by omega)), rfl⟩
  · have zl : (b.length : Int) ≤ (a.length : Int) := by omega
    rw [above_short hl]
    go_enter Tryz.func91, Tryz.ntmps91
    go_wp2
    go_ret
    exact ⟨rfl, rfl⟩
end Go.Proofs.YtmhipgompplkdaaGreatDoor
namespace Go.Proofs.YtmhipgompplkdaaGreatDoor
open Go.RowKit Go.Shelf Go.Lib Go.Maps
open Tf (Fs)
structure RTreeAt (B : Nat) (w : World) (tb : Nat) (fs : Fs) (v : Value) : Prop where
  low : B ≤ tb
  cell : w.cell? ⟨tb, 0, none⟩ = some v
  free : w.frozen? ⟨tb, 0, none⟩ = false
  row : w.ownsRow B 51 2 v fs.length (entCells fs)
  apart : v.ownBlock ≠ some tb
  nil : fs = [] → v = .slice none 0 0
theorem RTreeAt.lt {B : Nat} {w : World} {tb : Nat} {fs : Fs} {v : Value} (h : RTreeAt B w tb fs v) : tb < w.heap.size := lt_of_cell h.cell
theorem RTreeAt.below {B : Nat} {w w' : World} {tb : Nat} {fs : Fs} {v : Value} (h : RTreeAt B w tb fs v) (hb : Below w.heap.size w w') : RTreeAt B w' tb fs v :=
  ⟨h.low, (hb.cell (p := ⟨tb, 0, none⟩) h.lt).trans h.cell, (hb.frozen (p := ⟨tb, 0, none⟩) h.lt).trans h.free, ownsRow_below h.row hb, h.apart, h.nil⟩
def FRow (w : World) (v : Value) (es : Fs) : Prop :=
  ∃ p cap, v = .slice p es.length cap ∧ es.length ≤ cap ∧ (es ≠ [] → ∃ g cur, p = some ⟨g, 0, none⟩ ∧ w.heap[g]? = some (.cells cur 51 (0, 0)) ∧ ∀ j (hj : j < es.length), cur[j * 2]? = some (.string (ba es[j].1)) ∧ cur[j * 2 + 1]? = some (.string (ba es[j].2)))
theorem FRow.of_owns {w : World} {base : Nat} {v : Value} {es : Fs} (h : w.ownsRow base 51 2 v es.length (entCells es)) : FRow w v es := by
  rcases h.2 with ⟨rfl, hn⟩ | ⟨g, cap, cur, rfl, _, hb, h1, _, _, h4⟩
  · obtain rfl : es = [] := by simpa using hn
    exact ⟨none, 0, rfl, Nat.le_refl _, fun h => absurd rfl h⟩
  · refine ⟨_, cap, rfl, h1, fun _ => ⟨g, cur, rfl, hb, fun j hj => ?_⟩⟩
    obtain ⟨h5, h6⟩ := entCells_at es j hj
    rw [← h4, List.getElem?_take, if_pos (by omega), Array.getElem?_toList] at h5 h6
    exact ⟨h5, h6⟩
set_option maxRecDepth 100000 in
set_option maxHeartbeats 4000000 in
theorem rFind_calls {B : Nat} {w : World} {tb : Nat} {fs : Fs} {v : Value} (h : RTreeAt B w tb fs v) (hn : fs.length ≤ 1000) (p : List UInt8) :
    Calls Tryz.prog 28 #[Ptr tb, .string (ba p)] w fun e w' => ((∃ k, ∃ hk : k < fs.length, e = .returned (.int .i64 k) ∧ fs[k].1 = p) ∨ (Tf.hasP fs p = false ∧ e = .returned (.int .i64 (-1)))) ∧ w' = w := by
  have hc := h.cell
  obtain ⟨pa, cap, rfl, hcap, hin⟩ := FRow.of_owns h.row
  have zn : (fs.length : Int) ≤ 1000 := by omega
  clear h
  go_enter Tryz.func28, Tryz.ntmps28
  go_wp2
  go_loopw [5] (fun i wr => ∃ k : Nat, k ≤ fs.length ∧ i = .int .i64 k ∧ (∀ j (hj : j < fs.length), j < k → fs[j].1 ≠ p) ∧ wr = w) (fun i _ => fs.length - (intOf i).toNat)
  case atStart => exact ⟨0, by omega, rfl, fun j _ h => absurd h (Nat.not_lt_zero _), rfl⟩
  case round =>
    obtain ⟨k, hk, rfl, hno, rfl⟩ := hrel
    by_cases hlt : k < fs.length
    · obtain ⟨g, cur, rfl, hg, hcur⟩ := hin (by intro e; rw [e] at hlt; simp at hlt)
      have h1 := cell_of_row hg (hcur k hlt).1
      have c1 : (k : Int) < (fs.length : Int) := by omega
      have c0 : (0 : Int) ≤ (k : Int) := by omega
      clear hin hcur hg
      obtain ⟨x, hx⟩ : ∃ x, fs[k].1 = x := ⟨_, rfl⟩
      rw [hx] at h1
      by_cases e : x = p
      · subst e
        go_wp2
        go_ret
        exact ⟨.inl ⟨k, hlt, rfl, hx⟩, rfl⟩
      · have e' : (x == p) = false := by simpa using e
        go_wp2
        go_roundw
        case rel => exact ⟨k + 1, by omega, by go_num, fun j hj hjk => by
          rcases Nat.lt_or_ge j k with h2 | h2
          · exact hno j hj h2
          · obtain rfl : j = k := by omega
            rw [hx]; exact e, by first | rfl | trivial⟩
        case measure => simp [intOf]; omega
    · have c1 : (fs.length : Int) ≤ (k : Int) := by omega
      clear hin
      go_wp2
      go_ret
      refine ⟨.inr ⟨?_, rfl⟩, rfl⟩
      unfold Tf.hasP
      rw [List.any_eq_false]
      intro f hf e
      obtain ⟨j, hj, rfl⟩ := List.mem_iff_getElem.1 hf
      exact hno j hj (by omega) (by simpa using e)
end Go.Proofs.YtmhipgompplkdaaGreatDoor
namespace Go.Proofs.YtmhipgompplkdaaGreatDoor
open Go.RowKit Go.Shelf Go.Lib Go.Maps
open Tf (Fs)
theorem isPath_hid (p : List UInt8) (hp : p.length ≤ 1000000) (x : Bool) (h : pathB p = x) (w : World) : Hid (Calls Tryz.prog 90 #[.string (ba p)] w fun e w' => e = .returned (.bool x) ∧ Below w.heap.size w w') := by
  have := IsPath_calls p hp w
  rw [← pathB_R, h] at this
  exact this
theorem rPut_name (w : World) (tb : Nat) (p b : List UInt8) (hp : p.length ≤ 1000000) (hn : pathB p = false) :
    Calls Tryz.prog 21 #[Ptr tb, .string (ba p), .string (ba b)] w fun e w' => e = .returned (.int .i64 4) ∧ Below w.heap.size w w' := by
  have HI := isPath_hid p hp false hn w
  clear hn
  go_enter Tryz.func21, Tryz.ntmps21
  go_wp2_with fail
  refine HI.out.mono ?_
  rintro e w1 ⟨rfl, g1⟩
  go_wp2
  go_ret
  exact ⟨rfl, g1⟩
theorem rPut_bound (w : World) (tb : Nat) (p b : List UInt8) (hp : p.length ≤ 1000000) (hn : pathB p = true) (hb : 2000 < b.length) :
    Calls Tryz.prog 21 #[Ptr tb, .string (ba p), .string (ba b)] w fun e w' => e = .returned (.int .i64 2) ∧ Below w.heap.size w w' := by
  have HI := isPath_hid p hp true hn w
  have z : (2000 : Int) < (b.length : Int) := by omega
  clear hn hb
  go_enter Tryz.func21, Tryz.ntmps21
  go_wp2_with fail
  refine HI.out.mono ?_
  rintro e w1 ⟨rfl, g1⟩
  go_wp2
  go_ret
  exact ⟨rfl, g1⟩
theorem first_clash : ∀ {fs : Fs} {p : List UInt8}, Tf.clash fs p = true → ∃ k, ∃ hk : k < fs.length, (Tf.above fs[k].1 p || Tf.above p fs[k].1) = true ∧ ∀ j (hj : j < fs.length), j < k → (Tf.above fs[j].1 p || Tf.above p fs[j].1) = false
  | f :: r, p, h => by
    cases hf : (Tf.above f.1 p || Tf.above p f.1) with
    | true => exact ⟨0, by simp, hf, fun j _ h => absurd h (Nat.not_lt_zero _)⟩
    | false =>
      have hr : Tf.clash r p = true := by
        unfold Tf.clash at h ⊢
        rw [List.any_cons, hf, Bool.false_or] at h
        exact h
      obtain ⟨k, hk, h1, h2⟩ := first_clash hr
      refine ⟨k + 1, by simpa using hk, h1, fun j hj hjk => ?_⟩
      cases j with
      | zero => exact hf
      | succ j => exact h2 j (by simpa using hj) (by omega)
set_option maxRecDepth 100000 in
set_option maxHeartbeats 4000000 in
theorem rPut_clash {B : Nat} {w : World} {tb : Nat} {fs : Fs} {v : Value} (h : RTreeAt B w tb fs v) (hlen : ∀ f ∈ fs, f.1.length ≤ 1000000) (hfew : fs.length ≤ 1000) (p b : List UInt8) (hp : p.length ≤ 1000000) (hn : pathB p = true) (hb : b.length ≤ 2000) (hc : Tf.clash fs p = true) :
    Calls Tryz.prog 21 #[Ptr tb, .string (ba p), .string (ba b)] w fun e w' => e = .returned (.int .i64 7) ∧ Below w.heap.size w w' := by
  have HI := isPath_hid p hp true hn w
  have HA : Hid (∀ (a c : List UInt8), a.length ≤ 1000000 → c.length ≤ 1000000 → ∀ W, Calls Tryz.prog 91 #[.string (ba a), .string (ba c)] W fun e w' => e = .returned (.bool (Tf.above a c)) ∧ w' = W) := fun a c ha hc W => rabove_calls a c ha hc W
  obtain ⟨k0, hk0, hcl, hno⟩ := first_clash hc
  have z : (b.length : Int) ≤ 2000 := by omega
  have zn : (fs.length : Int) ≤ 1000 := by omega
  clear hn hb hc
  go_enter Tryz.func21, Tryz.ntmps21
  go_wp2_with fail
  refine HI.out.mono ?_
  rintro e w1 ⟨rfl, g1⟩
  have h1 := h.below g1
  have hcell := h1.cell
  obtain ⟨pa, cap, rfl, hcap, hin⟩ := FRow.of_owns h1.row
  clear HI h h1
  go_wp2
  go_loopw [8] (fun i wr => ∃ k : Nat, k ≤ k0 ∧ i = .int .i64 k ∧ wr = w1) (fun i _ => k0 - (intOf i).toNat)
  case atStart => exact ⟨0, Nat.zero_le _, rfl, rfl⟩
  case round =>
    obtain ⟨k, hk, rfl, rfl⟩ := hrel
    have hlt : k < fs.length := by omega
    obtain ⟨g, cur, rfl, hg, hcur⟩ := hin (by intro e; rw [e] at hlt; simp at hlt)
    have hx := cell_of_row hg (hcur k hlt).1
    have hxl := hlen _ (List.getElem_mem hlt)
    have c1 : (k : Int) < (fs.length : Int) := by omega
    have c0 : (0 : Int) ≤ (k : Int) := by omega
    have A1 : Hid (∀ W, Calls Tryz.prog 91 #[.string (ba p), .string (ba fs[k].1)] W fun e w' => e = .returned (.bool (Tf.above p fs[k].1)) ∧ w' = W) := HA.out p _ hp hxl
    have A2 : Hid (∀ W, Calls Tryz.prog 91 #[.string (ba fs[k].1), .string (ba p)] W fun e w' => e = .returned (.bool (Tf.above fs[k].1 p)) ∧ w' = W) := HA.out _ p hxl hp
    have hor : (Tf.above fs[k].1 p || Tf.above p fs[k].1) = decide (k = k0) := by
      rcases Nat.lt_or_ge k k0 with h2 | h2
      · rw [hno k hlt h2]; simp; omega
      · obtain rfl : k = k0 := by omega
        rw [hcl]; simp
    clear hin hcur hg
    generalize fs[k].1 = x at *
    cases a1 : Tf.above p x with
    | true =>
      rw [a1] at A1 hor
      clear A2
      go_wp2_with fail
      refine (A1.out _).mono ?_
      rintro e w' ⟨rfl, rfl⟩
      go_wp2
      go_ret
      exact ⟨rfl, g1⟩
    | false =>
      rw [a1] at A1 hor
      cases a2 : Tf.above x p with
      | true =>
        rw [a2] at A2
        go_wp2_with fail
        refine (A1.out _).mono ?_
        rintro e w' ⟨rfl, rfl⟩
        go_wp2_with fail
        refine (A2.out _).mono ?_
        rintro e w' ⟨rfl, rfl⟩
        go_wp2
        go_ret
        exact ⟨rfl, g1⟩
      | false =>
        rw [a2] at A2 hor
        have hkk : k ≠ k0 := by intro e; subst e; simp at hor
        go_wp2_with fail
        refine (A1.out _).mono ?_
        rintro e w' ⟨rfl, rfl⟩
        go_wp2_with fail
        refine (A2.out _).mono ?_
        rintro e w' ⟨rfl, rfl⟩
        go_wp2
        go_roundw
        case rel => exact ⟨k + 1, by omega, by go_num, by first | rfl | trivial⟩
        case measure => simp [intOf]; omega
end Go.Proofs.YtmhipgompplkdaaGreatDoor
namespace Go.Proofs.YtmhipgompplkdaaGreatDoor
open Go.RowKit Go.Shelf Go.Lib Go.Maps
open Tf (Fs)
theorem ins_mid (x : List UInt8 × List UInt8) : ∀ (l1 l2 : Fs), (∀ f ∈ l1, bytesBefore f.1 x.1 = true) → (∀ f ∈ l2, bytesBefore x.1 f.1 = true) → Tf.ins x (l1 ++ l2) = l1 ++ x :: l2
  | [], [], _, _ => rfl
  | [], f :: r, _, h => by
    show Tf.ins x (f :: r) = _
    unfold Tf.ins
    rw [if_pos (h f (by simp))]
    rfl
  | f :: r, l2, h1, h2 => by
    show Tf.ins x (f :: (r ++ l2)) = _
    unfold Tf.ins
    have hb := h1 f (by simp)
    rw [if_neg (by
      intro e
      have := WideShapes.bytes_trans _ _ _ hb e
      rw [WideAt.bytes_irrefl] at this
      cases this), ins_mid x r l2 (fun g hg => h1 g (List.mem_cons_of_mem _ hg)) h2]
    rfl
theorem rises_ne {fs : Fs} (hr : Tf.Rises fs) {i j : Nat} (hi : i < fs.length) (hj : j < fs.length) (hij : i ≠ j) : fs[i].1 ≠ fs[j].1 := by
  intro e
  rcases Nat.lt_or_ge i j with h | h
  · have := List.pairwise_iff_getElem.1 hr i j hi hj h
    rw [e, WideAt.bytes_irrefl] at this
    cases this
  · have := List.pairwise_iff_getElem.1 hr j i hj hi (by omega)
    rw [e, WideAt.bytes_irrefl] at this
    cases this
theorem put_set {fs : Fs} (hr : Tf.Rises fs) {k : Nat} (hk : k < fs.length) (b : List UInt8) : Tf.put fs fs[k].1 b = fs.set k (fs[k].1, b) := by
  have hd : Tf.del fs fs[k].1 = fs.take k ++ fs.drop (k + 1) := by
    have e : fs = fs.take k ++ fs[k] :: fs.drop (k + 1) := by rw [List.getElem_cons_drop, List.take_append_drop]
    unfold Tf.del
    conv => lhs; arg 2; rw [e]
    rw [List.filter_append, List.filter_cons_of_neg (by simp)]
    congr 1
    · rw [List.filter_eq_self]
      intro f hf
      obtain ⟨j, hj, rfl⟩ := List.mem_iff_getElem.1 hf
      rw [List.length_take] at hj
      rw [List.getElem_take]
      simpa using rises_ne hr (by omega) hk (by omega)
    · rw [List.filter_eq_self]
      intro f hf
      obtain ⟨j, hj, rfl⟩ := List.mem_iff_getElem.1 hf
      rw [List.length_drop] at hj
      rw [List.getElem_drop]
      simpa using rises_ne hr (by omega) hk (by omega)
  unfold Tf.put
  rw [hd, ins_mid (fs[k].1, b) (fs.take k) (fs.drop (k + 1)) (fun f hf => hr.before_at hk f hf) (fun f hf => ?_), List.set_eq_take_append_cons_drop, if_pos hk]
  obtain ⟨j, hj, rfl⟩ := List.mem_iff_getElem.1 hf
  rw [List.length_drop] at hj
  rw [List.getElem_drop]
  exact List.pairwise_iff_getElem.1 hr k (k + 1 + j) hk (by omega) (by omega)
theorem put_new {fs : Fs} (hr : Tf.Rises fs) {p b : List UInt8} (ht : Tf.hasP fs p = false) {k : Nat} (hk : k ≤ fs.length) (hb : ∀ j (hj : j < fs.length), j < k → bytesBefore fs[j].1 p = true) (ha : ∀ (hj : k < fs.length), bytesBefore fs[k].1 p = false) :
    Tf.put fs p b = fs.take k ++ (p, b) :: fs.drop k := by
  unfold Tf.put
  rw [Tf.del_none ht]
  conv => lhs; arg 2; rw [← List.take_append_drop k fs]
  refine ins_mid _ _ _ (fun f hf => ?_) (fun f hf => ?_)
  · obtain ⟨j, hj, rfl⟩ := List.mem_iff_getElem.1 hf
    rw [List.length_take] at hj
    rw [List.getElem_take]
    exact hb j (by omega) (by omega)
  · obtain ⟨j, hj, rfl⟩ := List.mem_iff_getElem.1 hf
    rw [List.length_drop] at hj
    rw [List.getElem_drop]
    have hkl : k < fs.length := by omega
    have h1 : bytesBefore p fs[k].1 = true := by
      rcases WideAt.bytes_total fs[k].1 p (fun e => by
        have := List.any_eq_false.1 ht _ (List.getElem_mem hkl)
        simp [e] at this) with h | h
      · rw [ha hkl] at h; cases h
      · exact h
    cases j with
    | zero => simpa using h1
    | succ j => exact WideShapes.bytes_trans _ _ _ h1 (List.pairwise_iff_getElem.1 hr k (k + (j + 1)) hkl (by omega) (by omega))
theorem entCells_set : ∀ (fs : Fs) (k : Nat) (x : List UInt8 × List UInt8), k < fs.length → ((entCells fs).set (k * 2) (.string (ba x.1))).set (k * 2 + 1) (.string (ba x.2)) = entCells (fs.set k x)
  | f :: r, 0, x, _ => by simp [entCells]
  | f :: r, k + 1, x, h => by
    have ih := entCells_set r k x (by simpa using h)
    have e1 : entCells (f :: r) = .string (ba f.1) :: .string (ba f.2) :: entCells r := by simp [entCells]
    have e2 : entCells (f :: r.set k x) = .string (ba f.1) :: .string (ba f.2) :: entCells (r.set k x) := by simp [entCells]
    rw [List.set_cons_succ, e1, e2, ← ih, show (k + 1) * 2 = k * 2 + 1 + 1 by omega]
    rfl
set_option maxRecDepth 100000 in
set_option maxHeartbeats 4000000 in
theorem rPut_full {B : Nat} {w : World} {tb : Nat} {fs : Fs} {v : Value} (h : RTreeAt B w tb fs v) (hlen : ∀ f ∈ fs, f.1.length ≤ 1000000) (hfew : fs.length ≤ 1000) (p b : List UInt8) (hp : p.length ≤ 1000000) (hn : pathB p = true) (hb : b.length ≤ 2000) (hc : Tf.clash fs p = false) (ht : Tf.hasP fs p = false) (h60 : 60 ≤ fs.length) :
    Calls Tryz.prog 21 #[Ptr tb, .string (ba p), .string (ba b)] w fun e w' => e = .returned (.int .i64 8) ∧ Below w.heap.size w w' := by
  have HI := isPath_hid p hp true hn w
  have HA : Hid (∀ (a c : List UInt8), a.length ≤ 1000000 → c.length ≤ 1000000 → ∀ W, Calls Tryz.prog 91 #[.string (ba a), .string (ba c)] W fun e w' => e = .returned (.bool (Tf.above a c)) ∧ w' = W) := fun a c ha hc W => rabove_calls a c ha hc W
  have hno : ∀ j (hj : j < fs.length), Tf.above fs[j].1 p = false ∧ Tf.above p fs[j].1 = false := fun j hj => by
    have := List.any_eq_false.1 (show (fs.any fun f => Tf.above f.1 p || Tf.above p f.1) = false from hc) _ (List.getElem_mem hj)
    simpa using this
  have z : (b.length : Int) ≤ 2000 := by omega
  have zn : (fs.length : Int) ≤ 1000 := by omega
  clear hn hb hc
  go_enter Tryz.func21, Tryz.ntmps21
  go_wp2_with fail
  refine HI.out.mono ?_
  rintro e w1 ⟨rfl, g1⟩
  have h1 := h.below g1
  have HF := rFind_calls h1 hfew p
  have hcell := h1.cell
  have hrow := FRow.of_owns h1.row
  obtain ⟨pa, cap, rfl, hcap, hin⟩ := hrow
  clear HI
  go_wp2
  go_loopw [8] (fun i wr => ∃ k : Nat, k ≤ fs.length ∧ i = .int .i64 k ∧ wr = w1) (fun i _ => fs.length - (intOf i).toNat)
  case atStart => exact ⟨0, Nat.zero_le _, rfl, rfl⟩
  case round =>
    obtain ⟨k, hk, rfl, rfl⟩ := hrel
    by_cases hlt : k < fs.length
    · obtain ⟨g, cur, rfl, hg, hcur⟩ := hin (by intro e; rw [e] at hlt; simp at hlt)
      have hx := cell_of_row hg (hcur k hlt).1
      have hxl := hlen _ (List.getElem_mem hlt)
      have c1 : (k : Int) < (fs.length : Int) := by omega
      have c0 : (0 : Int) ≤ (k : Int) := by omega
      have A1 : Hid (∀ W, Calls Tryz.prog 91 #[.string (ba p), .string (ba fs[k].1)] W fun e w' => e = .returned (.bool false) ∧ w' = W) := fun W => by
        have := HA.out p _ hp hxl W
        rw [(hno k hlt).2] at this
        exact this
      have A2 : Hid (∀ W, Calls Tryz.prog 91 #[.string (ba fs[k].1), .string (ba p)] W fun e w' => e = .returned (.bool false) ∧ w' = W) := fun W => by
        have := HA.out _ p hxl hp W
        rw [(hno k hlt).1] at this
        exact this
      clear hin hcur hg HF h1
      generalize fs[k].1 = x at *
      go_wp2_with fail
      refine (A1.out _).mono ?_
      rintro e w' ⟨rfl, rfl⟩
      go_wp2_with fail
      refine (A2.out _).mono ?_
      rintro e w' ⟨rfl, rfl⟩
      go_wp2
      go_roundw
      case rel => exact ⟨k + 1, by omega, by go_num, by first | rfl | trivial⟩
      case measure => simp [intOf]; omega
    · have c1 : (fs.length : Int) ≤ (k : Int) := by omega
      clear HA hno
      go_wp2_with fail
      refine HF.mono ?_
      rintro e w2 ⟨hr, rfl⟩
      have z60 : (60 : Int) ≤ (fs.length : Int) := by omega
      rcases hr with ⟨k', hk', _, hp'⟩ | ⟨_, rfl⟩
      · exfalso
        have : Tf.hasP fs p = true := List.any_eq_true.2 ⟨fs[k'], List.getElem_mem hk', by simp [hp']⟩
        rw [this] at ht
        cases ht
      · clear hin
        go_wp2
        go_ret
        exact ⟨rfl, g1⟩
end Go.Proofs.YtmhipgompplkdaaGreatDoor
namespace Go.Proofs.YtmhipgompplkdaaGreatDoor
open Go.RowKit Go.Shelf Go.Lib Go.Maps
open Tf (Fs)
theorem Tryz.infoRFile : (Tryz.prog.info? 51).map (fun i => (i.zero, i.size, i.bytes)) = some (some (.agg #[.string ⟨#[]⟩, .string ⟨#[]⟩]), 2, 32) := by kernel_rfl
theorem entCells_take : ∀ (fs : Fs) (k : Nat), entCells (fs.take k) = (entCells fs).take (k * 2)
  | fs, 0 => by simp [entCells]
  | [], k + 1 => by simp [entCells]
  | f :: r, k + 1 => by
    have e1 : ∀ l : Fs, entCells (f :: l) = .string (ba f.1) :: .string (ba f.2) :: entCells l := fun l => by simp [entCells]
    rw [List.take_succ_cons, e1, e1, entCells_take r k, show (k + 1) * 2 = k * 2 + 1 + 1 by omega]
    rfl
theorem entCells_drop : ∀ (fs : Fs) (k : Nat), entCells (fs.drop k) = (entCells fs).drop (k * 2)
  | fs, 0 => by simp
  | [], k + 1 => by simp [entCells]
  | f :: r, k + 1 => by
    have e1 : entCells (f :: r) = .string (ba f.1) :: .string (ba f.2) :: entCells r := by simp [entCells]
    rw [List.drop_succ_cons, e1, entCells_drop r k, show (k + 1) * 2 = k * 2 + 1 + 1 by omega]
    rfl
theorem entCells_app (a b : Fs) : entCells (a ++ b) = entCells a ++ entCells b := by simp [entCells]
theorem entCells_one (fs : Fs) : ∀ u ∈ entCells fs, u.oneCell' = true := by
  intro u hu
  obtain ⟨e, _, h⟩ := List.mem_flatMap.1 hu
  rcases List.mem_cons.1 h with rfl | h
  · rfl
  · obtain rfl : u = .string (ba e.2) := by simpa using h
    rfl
structure Made (B : Nat) (w w' : World) (tb : Nat) (v : Value) (l : Fs) : Prop where
  row : w'.ownsRow B 51 2 v l.length (entCells l)
  new : ∀ g, v.ownBlock = some g → w.heap.size ≤ g
  below : Below w.heap.size w w'
theorem Made.start (B : Nat) (w : World) (tb : Nat) : Made B w w tb (.slice none 0 0) [] := ⟨World.ownsRow_nil _ _ _ _, (fun _ h => by cases h), Below.refl _ _⟩
theorem Made.cell {B : Nat} {w w' : World} {tb : Nat} {v : Value} {l : Fs} (h : Made B w w' tb v l) {a : Addr} {u : Value} (hc : w.cell? a = some u) : w'.cell? a = some u := cell_below' hc h.below
theorem Made.more {B : Nat} {w w1 w2 : World} {tb : Nat} {v v' : Value} {l m : Fs} {row : Option Nat} (h : Made B w w1 tb v l) (o : w2.ownsRow B 51 2 v' (l.length + m.length) (entCells l ++ entCells m)) (gr : w1.grownBy w2 row) (hrow : row = v.ownBlock) (loc : v'.ownBlock = v.ownBlock ∨ v'.ownBlock = some w1.heap.size) : Made B w w2 tb v' (l ++ m) := by
  subst hrow
  refine ⟨by rw [entCells_app, List.length_append]; exact o, fun g hg => ?_, h.below.grown gr h.below.size h.new⟩
  rcases loc with e | e
  · exact h.new g (e ▸ hg)
  · rw [e] at hg; cases hg; exact h.below.size
theorem Made.shape {B : Nat} {w w' : World} {tb : Nat} {v : Value} {l : Fs} (h : Made B w w' tb v l) (hne : l ≠ []) (N : Nat) (hN : l.length = N) : ∃ g c, v = .slice (some ⟨g, 0, none⟩) N c := by
  subst hN
  rcases h.row.2 with ⟨_, h0⟩ | ⟨g, c, cur, rfl, _⟩
  · exact absurd (List.length_eq_zero_iff.1 h0) hne
  · exact ⟨g, c, rfl⟩
theorem Made.alloc {B : Nat} {w w1 : World} {tb : Nat} {v : Value} {l : Fs} (h : Made B w w1 tb v l) (o : Obj) : Made B w (w1.alloc o) tb v l := ⟨h.row.alloc o, h.new, h.below.alloc h.below.size o⟩
end Go.Proofs.YtmhipgompplkdaaGreatDoor
namespace Go.Proofs.YtmhipgompplkdaaGreatDoor
open Go.RowKit Go.Shelf Go.Lib Go.Maps
open Tf (Fs)
theorem well_len {fs : Fs} (h : Tf.Well pathB fs) : ∀ f ∈ fs, f.1.length ≤ 64 := by
  intro f hf
  have h1 := (h.each f hf).1
  unfold pathB allB at h1
  simp only [Bool.and_eq_true, decide_eq_true_eq, List.all_eq_true] at h1
  have h2 : ∀ x ∈ Kf.parts f.1, x.length ≤ 12 := fun x hx => by
    have := h1.2 x hx
    unfold nameK at this
    simp only [Bool.and_eq_true, decide_eq_true_eq] at this
    have e : (ba x).size = x.length := ba_size x
    revert this
    simp [e]
    omega
  have h3 := Kf.tot_parts f.1
  have h4 : Kf.tot (Kf.parts f.1) ≤ (Kf.parts f.1).length * 13 := by
    generalize Kf.parts f.1 = l at h2
    clear h1 h3
    induction l with
    | nil => simp [Kf.tot]
    | cons x r ih =>
      have := ih fun y hy => h2 y (List.mem_cons_of_mem _ hy)
      have := h2 x (by simp)
      simp [Kf.tot] at *
      omega
  omega
end Go.Proofs.YtmhipgompplkdaaGreatDoor
namespace Go.Proofs.YtmhipgompplkdaaGreatDoor
open Go.RowKit Go.Shelf Go.Lib Go.Maps
open Tf (Fs)
theorem Made.shape2 {B : Nat} {w w' : World} {tb : Nat} {v : Value} {l : Fs} (h : Made B w w' tb v l) (hne : l ≠ []) (N : Nat) (hN : l.length = N) : ∃ g c, v = .slice (some ⟨g, 0, none⟩) N c ∧ N ≤ c := by
  subst hN
  rcases h.row.2 with ⟨_, h0⟩ | ⟨g, c, cur, rfl, _, _, h1, _⟩
  · exact absurd (List.length_eq_zero_iff.1 h0) hne
  · exact ⟨g, c, rfl, h1⟩
theorem well_clash {fs : Fs} (hw : Tf.Well pathB fs) {p : List UInt8} (ht : Tf.hasP fs p = true) : Tf.clash fs p = false := by
  obtain ⟨g, hg, e⟩ := List.any_eq_true.1 ht
  obtain rfl : g.1 = p := by simpa using e
  unfold Tf.clash
  rw [List.any_eq_false]
  intro f hf
  rw [hw.apart f hf g hg, hw.apart g hg f hf]
  simp
end Go.Proofs.YtmhipgompplkdaaGreatDoor
