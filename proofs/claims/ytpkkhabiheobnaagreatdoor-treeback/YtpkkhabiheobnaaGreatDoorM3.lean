/- The walk of package tree's Text. -/
import Derived.Test.YtpkkhabiheobnaaGreatDoorM2
import Derived.Shelf.Strings.BuilderK
import Derived.Lib.SmallJoins
import Derived.Lib.ItoaLen
import Derived.Sort.Grow
import Derived.OwnWalk
namespace Go.Proofs.YtpkkhabiheobnaaGreatDoor
open Go.RowKit Go.Shelf Go.Lib Go.Maps
open Tf (Fs)
open Go.Sort (grow)

/-- A slice of texts in memory. -/
def TRow (w : World) (v : Value) (l : List (List UInt8)) : Prop :=
  ∃ p cap, v = .slice p l.length cap ∧ l.length ≤ cap ∧ (l ≠ [] → ∃ g cur, p = some ⟨g, 0, none⟩ ∧ w.heap[g]? = some (.cells cur 9 (0, 0)) ∧ ∀ j (hj : j < l.length), cur[j]? = some (.string (ba l[j])))

theorem TRow.of_owns {w : World} {base : Nat} {v : Value} {l : List (List UInt8)} {n : Nat} (h : w.ownsRow base 9 1 v n (l.map encStr)) : TRow w v l := by
  have hn : n = l.length := by have := h.1; simp at this; omega
  subst hn
  rcases h.2 with ⟨rfl, hn⟩ | ⟨g, cap, cur, rfl, _, hb, h1, _, _, h4⟩
  · obtain rfl : l = [] := by simpa using hn
    exact ⟨none, 0, rfl, Nat.le_refl _, fun h => absurd rfl h⟩
  · refine ⟨_, cap, rfl, h1, fun _ => ⟨g, cur, rfl, hb, fun j hj => ?_⟩⟩
    have := congrArg (fun x => x[j]?) h4
    simp only [Nat.mul_one, List.getElem?_take, hj, if_true, List.getElem?_map, List.getElem?_eq_getElem hj, Option.map_some, Array.getElem?_toList] at this
    exact this

theorem TRow.below {w w' : World} {v : Value} {l : List (List UInt8)} (h : TRow w v l) (hb : Below w.heap.size w w') : TRow w' v l := by
  obtain ⟨p, cap, e, h0, h1⟩ := h
  refine ⟨p, cap, e, h0, fun hl => ?_⟩
  obtain ⟨g, cur, e, hg, hc⟩ := h1 hl
  exact ⟨g, cur, e, (hb.block g (Array.getElem?_eq_some_iff.1 hg).1).trans hg, hc⟩

theorem TRow.others {w w' : World} {v : Value} {l : List (List UInt8)} {b : Nat} {p : Value} {bs : List Value} {B : Nat} (h : TRow w v l) (hk : Lib.OthersKept 5 (some b) w w') (hB : Lib.BuilderAtF 69 5 B b p bs w) : TRow w' v l := by
  obtain ⟨q, cap, e, h0, h1⟩ := h
  refine ⟨q, cap, e, h0, fun hl => ?_⟩
  obtain ⟨g, cur, e, hg, hc⟩ := h1 hl
  refine ⟨g, cur, e, hk g _ hg (fun e => ?_) (fun c fz e => ?_), hc⟩
  · cases e
    obtain ⟨_, v, hb, _⟩ := hB
    rw [hg] at hb
    simp at hb
  · simp at e

theorem cell_of_row {w : World} {g j : Nat} {cur : Array Value} {t : TypeId} {fz : Nat × Nat} {x : Value} (hg : w.heap[g]? = some (.cells cur t fz)) (hc : cur[j]? = some x) : w.cell? ⟨g, j, none⟩ = some x := by
  simp [World.cell?, hg, hc]

theorem below_grow (w : World) (k : Nat) (os : Array Obj) : Below w.heap.size w (grow (w.drewN k) os) :=
  ⟨rfl, rfl, rfl, by simp [grow], fun i hi => by simp [grow, Array.getElem?_append_left hi]⟩

theorem builder_below {w w' : World} {B b : Nat} {p : Value} {bs : List Value} (h : Lib.BuilderAtF 69 5 B b p bs w) (hb : Below w.heap.size w w') : Lib.BuilderAtF 69 5 B b p bs w' := by
  obtain ⟨h1, v, h2, h3, h4⟩ := h
  exact ⟨h1, v, (hb.block b (Array.getElem?_eq_some_iff.1 h2).1).trans h2, h3.kept (row := none) ⟨hb.os, hb.tape, hb.output, hb.size, fun k hk _ => hb.block k hk⟩ (by cases v.ownBlock <;> simp), h4⟩

theorem isBuilder_below {w w' : World} {B b : Nat} {bs : List Value} (h : Lib.IsBuilderF 69 5 B b bs w) (hb : Below w.heap.size w w') : Lib.IsBuilderF 69 5 B b bs w' :=
  h.imp (fun h => builder_below h hb) (fun h => builder_below h hb)

theorem TRow.others' {w w' : World} {v : Value} {l : List (List UInt8)} {b : Nat} {bs : List Value} {B : Nat} (h : TRow w v l) (hk : Lib.OthersKept 5 (some b) w w') (hB : Lib.IsBuilderF 69 5 B b bs w) : TRow w' v l :=
  hB.elim (fun hB => h.others hk hB) (fun hB => h.others hk hB)

abbrev Pow (w : World) : Prop := Lib.TabIs Tryz.prog w "internal/strconv.uint64pow10" .u64 Lib.pow10Tab
theorem pow_below {w w' : World} (h : Pow w) (hb : Below w.heap.size w w') : Pow w' := Go.Joins.tab_stays (g := 13) (by kernel_rfl) h hb (Nat.le_refl _)

theorem get_at {fs : Fs} (hr : Tf.Rises fs) {k : Nat} (hk : k < fs.length) : Tf.get fs fs[k].1 = some fs[k].2 := by
  unfold Tf.get
  have : fs.find? (fun f => f.1 == fs[k].1) = some fs[k] := by
    rw [List.find?_eq_some_iff_getElem]
    refine ⟨by simp, k, hk, rfl, fun j hj => ?_⟩
    have h1 := List.pairwise_iff_getElem.1 hr j k (by omega) hk hj
    simp only [Bool.not_eq_true', beq_eq_false_iff_ne]
    intro e
    rw [e, WideAt.bytes_irrefl] at h1
    cases h1
  rw [this]
  rfl

theorem textT_take {fs : Fs} {k : Nat} (hk : k < fs.length) : Tf.textT (fs.take (k + 1)) = Tf.textT (fs.take k) ++ Tf.entryT fs[k] := by
  unfold Tf.textT
  rw [List.take_succ_eq_append_getElem hk, List.flatMap_append, List.flatMap_cons, List.flatMap_nil, List.append_nil]

theorem digits_len (n : Nat) (h : n ≤ 100000) : (Lib.decDigits n).length ≤ 21 := by
  have := Lib.itoa_length_le (n : Int) (by omega) (by omega)
  rwa [Lib.itoa_nonneg] at this

theorem textT_len {fs : Fs} (h : ∀ f ∈ fs, f.1.length ≤ 1000 ∧ f.2.length ≤ 2000) : (Tf.textT fs).length ≤ fs.length * 4000 := by
  unfold Tf.textT
  induction fs with
  | nil => simp
  | cons f r ih =>
    have h1 := h f (by simp)
    have h2 := ih fun g hg => h g (List.mem_cons_of_mem _ hg)
    have h3 := digits_len f.2.length (by omega)
    simp [Tf.entryT] at *
    omega

set_option maxRecDepth 100000 in
set_option maxHeartbeats 4000000 in
theorem Text_calls {B : Nat} {w : World} {tb : Nat} {fs : Fs} {o : Option Nat} (h : TreeAt B w tb fs o) (hP : Pow w) (hr : Tf.Rises fs) (hn : fs.length ≤ 1000) (hsz : ∀ f ∈ fs, f.1.length ≤ 1000 ∧ f.2.length ≤ 2000) :
    Calls Tryz.prog 10 #[Ptr tb] w fun e w' => e = .returned (.string (ba (Tf.textT fs))) ∧ Below w.heap.size w w' := by
  have g0 : Below w.heap.size w (w.alloc (.cells #[.pointer none, .slice none 0 0] 69)) := (Below.refl _ w).alloc (Nat.le_refl _) _
  have b0 : Lib.IsBuilderF 69 5 w.heap.size w.heap.size [] (w.alloc (.cells #[.pointer none, .slice none 0 0] 69)) := Lib.IsBuilderF.of (Lib.fresh_isBuilder 69 5 w)
  have HP : Hid (Calls Tryz.prog 16 #[Ptr tb] (w.alloc (.cells #[.pointer none, .slice none 0 0] 69)) fun e w' => ∃ v, e = .returned v ∧ TRow w' v (fs.map (·.1)) ∧ Below (w.alloc (.cells #[.pointer none, .slice none 0 0] 69)).heap.size (w.alloc (.cells #[.pointer none, .slice none 0 0] 69)) w') :=
    (Paths_calls (h.below g0) hr hn).mono fun e w' ⟨v, h1, h2, h3⟩ => ⟨v, h1, TRow.of_owns h2, h3⟩
  have HG : Hid (∀ k (hk : k < fs.length) W, Below w.heap.size w W → Calls Tryz.prog 21 #[Ptr tb, .string (ba fs[k].1)] W fun e w' => e = .returned (.tuple #[.string (ba fs[k].2), .bool (Tf.hasP fs fs[k].1)]) ∧ Below W.heap.size W w') := fun k hk W hW => by
    have := Get_calls (h.below hW) fs[k].1 (by have := (hsz _ (List.getElem_mem hk)).1; omega)
    rw [get_at hr hk] at this
    exact this
  have HI : Hid (∀ (n : Nat) W, n ≤ 2000 → Below w.heap.size w W → Calls Tryz.prog 29 #[.int .i64 n] W fun e w' => e = .returned (.string (ba (Lib.decDigits n))) ∧ Below W.heap.size W w') := fun n W hn hW => by
    refine (Tryz.strconv_Itoa (n : Int) (by omega) (by omega) W (pow_below hP hW)).mono ?_
    rintro e w' ⟨rfl, k, os, rfl⟩
    rw [Lib.itoa_nonneg]
    exact ⟨rfl, below_grow W k os⟩
  have HW : Hid (∀ (bs : List UInt8) (s : List UInt8) W, bs.length + s.length ≤ 100000000 → w.heap.size ≤ W.heap.size → Lib.IsBuilderF 69 5 w.heap.size w.heap.size (Lib.byteCells bs) W → Calls Tryz.prog 28 #[.pointer (some ⟨w.heap.size, 0, none⟩), .string (ba s)] W fun e w' =>
      e = .returned (.tuple #[.int .i64 s.length, .nilIface]) ∧ Lib.IsBuilderF 69 5 w.heap.size w.heap.size (Lib.byteCells (bs ++ s)) w' ∧ Below w.heap.size W w' ∧ Lib.OthersKept 5 (some w.heap.size) W w') := fun bs s W hl hW hb => by
    refine (Any.Builder_WriteString_k Tryz.lays166 Tryz.Builder_Extra_166 w.heap.size w.heap.size (Lib.byteCells bs) (ba s) W hb (by rw [Lib.byteCells_length, ba_size]; omega) hW).mono ?_
    rintro e w' ⟨rfl, h1, h2, h3⟩
    refine ⟨by rw [ba_size], .inr ?_, h2, h3⟩
    rw [Lib.byteCells_append]
    exact h1
  have HS : Hid (∀ W, w.heap.size ≤ W.heap.size → Lib.IsBuilderF 69 5 w.heap.size w.heap.size (Lib.byteCells (Tf.textT fs)) W → Calls Tryz.prog 30 #[.pointer (some ⟨w.heap.size, 0, none⟩)] W fun e w' => e = .returned (.string (ba (Tf.textT fs))) ∧ Below w.heap.size W w') := fun W hW hb => by
    refine (Any.Builder_String_any_k Tryz.lays169 Tryz.Builder_Extra_169 w.heap.size w.heap.size (Tf.textT fs) W hb hW).mono ?_
    rintro e w' ⟨rfl, _, h2, _⟩
    exact ⟨rfl, h2⟩
  have hzn : (fs.length : Int) ≤ 1000 := by omega
  have hlenA := fun k : Nat => textT_len (fs := fs.take k) (fun f hf => hsz f (List.mem_of_mem_take hf))
  clear h hP
  go_enter Tryz.func10, Tryz.ntmps10
  go_wp2_with fail
  refine HP.out.mono ?_
  rintro e w1 ⟨v, rfl, ⟨pa, cap, rfl, hcap, hrow⟩, g1⟩
  have B1 := isBuilder_below b0 g1
  have G1 : Below w.heap.size w w1 := g0.trans (g1.mono g0.size)
  have R1 : TRow w1 (.slice pa (fs.map (·.1)).length cap) (fs.map (·.1)) := ⟨pa, cap, rfl, hcap, hrow⟩
  rw [List.length_map] at R1 hcap ⊢
  clear HP g0 b0 g1 hrow
  go_wp2
  go_loopw [11] (fun i wr => ∃ k : Nat, k ≤ fs.length ∧ i = .int .i64 k ∧ Lib.IsBuilderF 69 5 w.heap.size w.heap.size (Lib.byteCells (Tf.textT (fs.take k))) wr ∧ TRow wr (.slice pa fs.length cap) (fs.map (·.1)) ∧ Below w.heap.size w wr) (fun i _ => fs.length - (intOf i).toNat)
  case atStart => exact ⟨0, Nat.zero_le _, rfl, by simpa [Tf.textT, Lib.byteCells] using B1, R1, G1⟩
  case round =>
    obtain ⟨k, hk, rfl, hbld, hrow, hB⟩ := hrel
    by_cases hlt : k < fs.length
    · have c1 : (k : Int) < (fs.length : Int) := by omega
      have c0 : (0 : Int) ≤ (k : Int) := by omega
      obtain ⟨p', cap', ev, _, hin⟩ := hrow
      obtain ⟨g, cur, rfl, hg, hcur⟩ := hin (by intro e; rw [List.map_eq_nil_iff] at e; rw [e] at hlt; simp at hlt)
      have hrow : TRow wr (.slice pa fs.length cap) (fs.map (·.1)) := ⟨_, cap', ev, by assumption, hin⟩
      have hcell := cell_of_row hg (hcur k (by simpa using hlt))
      rw [List.getElem_map] at hcell
      have epa : pa = some ⟨g, 0, none⟩ := by simp at ev; exact ev.1
      subst epa
      obtain ⟨hp1, hp2⟩ := hsz _ (List.getElem_mem hlt)
      have hl0 := hlenA k
      rw [List.length_take] at hl0
      have zp : ((ba fs[k].1).size : Int) ≤ 1000 := by rw [ba_size]; omega
      have HG' := HG.out k hlt wr hB
      clear ev hin hcur hg
      generalize ht : Tf.hasP fs fs[k].1 = t at *
      have hstep := textT_take hlt
      unfold Tf.entryT at hstep
      have hdl := digits_len fs[k].2.length (by omega)
      generalize fs[k].1 = q at *
      generalize fs[k].2 = bt at *
      go_wp2_with fail
      refine HG'.mono ?_
      rintro e w2 ⟨rfl, g2⟩
      have B2 := isBuilder_below hbld g2
      have R2 := hrow.below g2
      have G2 := hB.trans (g2.mono hB.size)
      go_wp2_with fail
      refine (HI.out bt.length w2 hp2 G2).mono ?_
      rintro e w3 ⟨rfl, g3⟩
      have B3 := isBuilder_below B2 g3
      have R3 := R2.below g3
      have G3 := G2.trans (g3.mono G2.size)
      have ecat : ba q ++ { data := #[32] } ++ ba (Lib.decDigits bt.length) ++ { data := #[10] } ++ ba bt ++ { data := #[10] } = ba (q ++ 32 :: (Lib.decDigits bt.length ++ 10 :: (bt ++ [10]))) := by
        rw [show (ByteArray.mk #[32]) = ba [32] from rfl, show (ByteArray.mk #[10]) = ba [10] from rfl]
        simp only [ba_append]
        simp
      clear HG'
      go_wp2_with fail
      refine (HW.out _ _ w3 ?_ G3.size B3).mono ?_
      · simp only [List.length_append, List.length_cons, List.length_nil]; omega
      rintro e w4 ⟨rfl, B4, g4, k4⟩
      have R4 := R3.others' k4 B3
      go_wp2
      go_roundw
      case rel => exact ⟨k + 1, by omega, by go_num, by rw [hstep]; exact B4, R4, G3.trans g4⟩
      case measure => simp [intOf]; omega
    · have c1 : (fs.length : Int) ≤ (k : Int) := by omega
      obtain rfl : k = fs.length := by omega
      rw [List.take_length] at hbld
      have HS' := HS.out wr hB.size hbld
      go_wp2_with fail
      refine HS'.mono ?_
      rintro e w5 ⟨rfl, g5⟩
      go_wp2
      go_ret
      exact ⟨rfl, hB.trans g5⟩
end Go.Proofs.YtpkkhabiheobnaaGreatDoor
/- Walks of package tree's readNumber, readEntry and rise, where a text is well. -/
namespace Go.Proofs.YtpkkhabiheobnaaGreatDoor
open Go.RowKit Go.Shelf Go.Lib Go.Maps
open Tf (Fs)

abbrev MaxAt (w : World) (m : Int) : Prop := w.cell? ⟨14, 0, none⟩ = some (.int .i64 m)

theorem numT_some {d : List UInt8} {n : Nat} (h : Tf.numT d = some n) : d.length ≤ 4 ∧ Lib.atoi d = some (n : Int) ∧ Lib.decDigits n = d := by
  unfold Tf.numT at h
  split at h
  · cases h
  rename_i h4
  split at h
  · rename_i z hz
    split at h
    · rename_i hc
      obtain ⟨h0, h1⟩ := hc
      have e : z = (n : Int) := by
        have := Option.some.inj h
        omega
      subst e
      rw [Lib.itoa_nonneg] at h1
      exact ⟨by omega, hz, h1⟩
    · cases h
  · cases h

set_option maxRecDepth 100000 in
theorem readNumber_yes (d : List UInt8) (n : Nat) (h : Tf.numT d = some n) (hn : n ≤ 1000000) (w : World) (hP : Pow w) :
    Calls Tryz.prog 60 #[.string (ba d)] w fun e w' => e = .returned (.tuple #[.int .i64 n, .bool true]) ∧ Below w.heap.size w w' := by
  obtain ⟨h4, ha, hd⟩ := numT_some h
  have HA : Hid (Calls Tryz.prog 82 #[.string (ba d)] w fun e w' => e = .returned (.tuple #[.int .i64 n, .nilIface]) ∧ Below w.heap.size w w') :=
    (Tryz.strconv_Atoi (ba d) (n : Int) (by rw [ba_size]; omega) ha w).mono fun e w' ⟨h1, t, h2⟩ => ⟨h1, h2 ▸ Go.Joins.below_bytesWorld _ w 5 t (Nat.le_refl _)⟩
  have HI : Hid (∀ W, Below w.heap.size w W → Calls Tryz.prog 29 #[.int .i64 n] W fun e w' => e = .returned (.string (ba d)) ∧ Below W.heap.size W w') := fun W hW => by
    refine (Tryz.strconv_Itoa (n : Int) (by omega) (by omega) W (pow_below hP hW)).mono ?_
    rintro e w' ⟨rfl, k, os, rfl⟩
    rw [Lib.itoa_nonneg, hd]
    exact ⟨rfl, below_grow W k os⟩
  have z4 : (d.length : Int) ≤ 4 := by omega
  have z0 : (0 : Int) ≤ (n : Int) := by omega
  clear h ha hd h4 hP
  go_enter Tryz.func60, Tryz.ntmps60
  go_wp2_with fail
  refine HA.out.mono ?_
  rintro e w1 ⟨rfl, g1⟩
  go_wp2_with fail
  refine (HI.out w1 g1).mono ?_
  rintro e w2 ⟨rfl, g2⟩
  go_wp2
  go_ret2
  exact ⟨by simp, g1.trans (g2.mono g1.size)⟩

theorem cut_calls (s sep : List UInt8) (hs : s.length ≤ 1000000) (m : Int) (w : World) (hm : MaxAt w m) :
    Calls Tryz.prog 59 #[.string (ba s), .string (ba sep)] w fun e w' => e = .returned (.tuple #[.string (ba (Lib.cut s sep).1), .string (ba (Lib.cut s sep).2.1), .bool (Lib.cut s sep).2.2]) ∧ Below w.heap.size w w' :=
  (Tryz.strings_Cut (ba s) (ba sep) m w (by rw [ba_size]; omega) hm).mono fun e w' ⟨h1, n, h2⟩ => ⟨h1, h2 ▸ below_draws (Below.refl _ w) n⟩

theorem ba_extract (t : List UInt8) (a b : Nat) : (ba t).extract a b = ba ((t.drop a).take (b - a)) := ba_eq (by rw [← Lib.toList_data, Lib.extract_toList])

theorem pair_new (w : World) (x y : Value) (t : TypeId) : (w.alloc (.cells #[x, y] t)).heap[w.heap.size]? = some (.cells #[x, y] t (0, 0)) := (MapKept.heap_alloc w _).1

abbrev entV (e : List UInt8 × List UInt8) : Value := .agg #[.string (ba e.1), .string (ba e.2)]

set_option maxRecDepth 100000 in
set_option maxHeartbeats 4000000 in
theorem readEntry_yes (s : List UInt8) (e : List UInt8 × List UInt8) (r : List UInt8) (h : Tf.readE s = some (e, r)) (hs : s.length ≤ 1000000) (m : Int) (w : World) (hP : Pow w) (hm : MaxAt w m) :
    Calls Tryz.prog 42 #[.string (ba s)] w fun e' w' => e' = .returned (.tuple #[entV e, .string (ba r), .bool true]) ∧ Below w.heap.size w w' := by
  unfold Tf.readE at h
  split at h
  · cases h
  rename_i c1
  split at h
  · cases h
  rename_i c2
  split at h
  · cases h
  rename_i n hnum
  split at h
  · cases h
  rename_i c3
  split at h
  · cases h
  rename_i c4
  have c1' : (Lib.cut s [10]).2.2 = true := by simpa using c1
  have c2' : (Lib.cut (Lib.cut s [10]).1 [32]).2.2 = true := by simpa using c2
  have c4' : Lib.hasPrefix ((Lib.cut s [10]).2.1.drop n) [10] = true := by simpa using c4
  have hlen : (Lib.cut s [10]).1.length ≤ 1000000 ∧ (Lib.cut s [10]).2.1.length ≤ 1000000 := by
    unfold Lib.cut
    split <;> simp <;> omega
  have g0 : Below w.heap.size w (w.alloc (.cells #[.string ⟨#[]⟩, .string ⟨#[]⟩] 61)) := (Below.refl _ w).alloc (Nat.le_refl _) _
  have H1 : Hid (∀ W, Below w.heap.size w W → Calls Tryz.prog 59 #[.string (ba s), .string (ba [10])] W fun e w' => e = .returned (.tuple #[.string (ba (Lib.cut s [10]).1), .string (ba (Lib.cut s [10]).2.1), .bool true]) ∧ Below W.heap.size W w') := fun W hW => by
    have := cut_calls s [10] hs m W (cell_below' hm hW)
    rw [c1'] at this
    exact this
  have H2 : Hid (∀ W, Below w.heap.size w W → Calls Tryz.prog 59 #[.string (ba (Lib.cut s [10]).1), .string (ba [32])] W fun e w' => e = .returned (.tuple #[.string (ba (Lib.cut (Lib.cut s [10]).1 [32]).1), .string (ba (Lib.cut (Lib.cut s [10]).1 [32]).2.1), .bool true]) ∧ Below W.heap.size W w') := fun W hW => by
    have := cut_calls (Lib.cut s [10]).1 [32] hlen.1 m W (cell_below' hm hW)
    rw [c2'] at this
    exact this
  have H3 : Hid (∀ W, Below w.heap.size w W → Calls Tryz.prog 60 #[.string (ba (Lib.cut (Lib.cut s [10]).1 [32]).2.1)] W fun e w' => e = .returned (.tuple #[.int .i64 n, .bool true]) ∧ Below W.heap.size W w') := fun W hW =>
    readNumber_yes _ n hnum (by omega) W (pow_below hP hW)
  generalize (Lib.cut (Lib.cut s [10]).1 [32]).2.1 = d at *
  generalize (Lib.cut (Lib.cut s [10]).1 [32]).1 = p at *
  generalize (Lib.cut s [10]).1 = hd at *
  generalize (Lib.cut s [10]).2.1 = t at *
  obtain ⟨rfl, rfl⟩ : e = (p, t.take n) ∧ r = t.drop (n + 1) := by simp at h; exact ⟨h.1.symm, h.2.symm⟩
  have H4 : Hid (∀ W, Calls Tryz.prog 61 #[.string (ba (t.drop n)), .string (ba [10])] W fun e w' => e = .returned (.tuple #[.string (ba (t.drop (n + 1))), .bool true]) ∧ w' = W) := fun W => by
    have := Tryz.strings_CutPrefix (ba (t.drop n)) (ba [10]) W
    rw [show Lib.hasPrefix (ba (t.drop n)).data.toList (ba [10]).data.toList = true from c4', show Lib.trimPrefix (ba (t.drop n)).data.toList (ba [10]).data.toList = t.drop (n + 1) by
      show Lib.trimPrefix (t.drop n) [10] = _
      unfold Lib.trimPrefix
      rw [if_pos c4']
      simp] at this
    exact this
  have z3 : (n : Int) ≤ (t.length : Int) := by omega
  have z0 : (0 : Int) ≤ (n : Int) := by omega
  have zt : (t.length : Int) ≤ 1000000 := by omega
  clear h hnum c4 c4' c1 c1' c2 c2' hP hm
  go_enter Tryz.func42, Tryz.ntmps42
  go_wp2_with fail
  refine (H1.out _ g0).mono ?_
  rintro e w1 ⟨rfl, g1'⟩
  have g1 := g0.trans (g1'.mono g0.size)
  go_wp2_with fail
  refine (H2.out w1 g1).mono ?_
  rintro e w2 ⟨rfl, g2'⟩
  have g2 := g1.trans (g2'.mono g1.size)
  go_wp2_with fail
  refine (H3.out w2 g2).mono ?_
  rintro e w3 ⟨rfl, g3'⟩
  have g3 := g2.trans (g3'.mono g2.size)
  have hk : w3.heap[w.heap.size]? = some (.cells #[.string ⟨#[]⟩, .string ⟨#[]⟩] 61 (0, 0)) :=
    ((g3'.block _ (by have := g2'.size; have := g1'.size; simp at this; omega)).trans ((g2'.block _ (by have := g1'.size; simp at this; omega)).trans (g1'.block _ (by simp)))).trans (pair_new w _ _ _)
  have hcA : w3.cell? ⟨w.heap.size, 0, none⟩ = some (.string ⟨#[]⟩) := cell_of_row hk rfl
  have hcB : w3.cell? ⟨w.heap.size, 1, none⟩ = some (.string ⟨#[]⟩) := cell_of_row hk rfl
  have hfA : w3.frozen? ⟨w.heap.size, 0, none⟩ = false := by simp [World.frozen?, hk]
  have hfB : w3.frozen? ⟨w.heap.size, 1, none⟩ = false := by simp [World.frozen?, hk]
  have e1 : (ba t).extract n t.length = ba (t.drop n) := by rw [ba_extract, List.take_of_length_le (by simp)]
  have e2 : (ba t).extract 0 n = ba (t.take n) := by rw [ba_extract]; simp
  clear H1 H2 H3 hk
  go_wp2_with fail
  refine (H4.out _).mono ?_
  rintro e w' ⟨rfl, rfl⟩
  go_wp2
  have hs1 : (w'.setCell ⟨w.heap.size, 0, none⟩ (.string (ba p))).cell? ⟨w.heap.size, 0, none⟩ = some (.string (ba p)) := World.cell?_setCell_same' _ _ _ (by rw [hcA]; rfl)
  have hs2 : ((w'.setCell ⟨w.heap.size, 0, none⟩ (.string (ba p))).setCell ⟨w.heap.size, 1, none⟩ (.string (ba (t.take n)))).cell? ⟨w.heap.size, 0, none⟩ = some (.string (ba p)) := by
    rw [World.cell?_setCell_other _ _ _ _ (by simp)]; exact hs1
  have hs3 : ((w'.setCell ⟨w.heap.size, 0, none⟩ (.string (ba p))).setCell ⟨w.heap.size, 1, none⟩ (.string (ba (t.take n)))).cell? ⟨w.heap.size, 1, none⟩ = some (.string (ba (t.take n))) :=
    World.cell?_setCell_same' _ _ _ (by rw [World.cell?_setCell_other _ _ _ _ (by simp), hcB]; rfl)
  refine bodyPost_ret (v := .tuple #[entV (p, t.take n), .string (ba (t.drop (n + 1))), .bool true]) ?_ rfl ?_
  · simp [results, Tryz.f42, go_sem, hs2, hs3]
  · exact ⟨rfl, (g3.setCell (p := ⟨w.heap.size, 0, none⟩) (Nat.le_refl _) _).setCell (p := ⟨w.heap.size, 1, none⟩) (Nat.le_refl _) _⟩
end Go.Proofs.YtpkkhabiheobnaaGreatDoor
/- Walks of package tree's readEntries and rise. -/
namespace Go.Proofs.YtpkkhabiheobnaaGreatDoor
open Go.RowKit Go.Shelf Go.Lib Go.Maps
open Tf (Fs)

def entCells (es : Fs) : List Value := es.flatMap fun e => [.string (ba e.1), .string (ba e.2)]

theorem entCells_snoc (es : Fs) (e : List UInt8 × List UInt8) : entCells (es ++ [e]) = entCells es ++ [.string (ba e.1), .string (ba e.2)] := by simp [entCells]

theorem entCells_len (es : Fs) : (entCells es).length = es.length * 2 := by
  induction es with
  | nil => rfl
  | cons e r ih => simp [entCells] at ih ⊢; omega

theorem entCells_at : ∀ (es : Fs) (j : Nat) (hj : j < es.length), (entCells es)[j * 2]? = some (.string (ba es[j].1)) ∧ (entCells es)[j * 2 + 1]? = some (.string (ba es[j].2))
  | e :: r, 0, _ => by simp [entCells]
  | e :: r, j + 1, hj => by
    have := entCells_at r j (by simpa using hj)
    have e1 : entCells (e :: r) = .string (ba e.1) :: .string (ba e.2) :: entCells r := by simp [entCells]
    rw [e1, show (j + 1) * 2 = j * 2 + 1 + 1 by omega]
    simpa using this

/-- A slice of entries in memory. -/
def ERow (w : World) (v : Value) (es : Fs) : Prop :=
  ∃ p cap, v = .slice p es.length cap ∧ es.length ≤ cap ∧ (es ≠ [] → ∃ g cur, p = some ⟨g, 0, none⟩ ∧ w.heap[g]? = some (.cells cur 61 (0, 0)) ∧ ∀ j (hj : j < es.length), cur[j * 2]? = some (.string (ba es[j].1)) ∧ cur[j * 2 + 1]? = some (.string (ba es[j].2)))

theorem ERow.of_owns {w : World} {base : Nat} {v : Value} {es : Fs} (h : w.ownsRow base 61 2 v es.length (entCells es)) : ERow w v es := by
  rcases h.2 with ⟨rfl, hn⟩ | ⟨g, cap, cur, rfl, _, hb, h1, _, _, h4⟩
  · obtain rfl : es = [] := by simpa using hn
    exact ⟨none, 0, rfl, Nat.le_refl _, fun h => absurd rfl h⟩
  · refine ⟨_, cap, rfl, h1, fun _ => ⟨g, cur, rfl, hb, fun j hj => ?_⟩⟩
    obtain ⟨h5, h6⟩ := entCells_at es j hj
    rw [← h4, List.getElem?_take, if_pos (by omega), Array.getElem?_toList] at h5 h6
    exact ⟨h5, h6⟩

theorem ERow.keep {w w' : World} {v : Value} {es : Fs} {B : Nat} (h : ERow w v es) (hB : w.heap.size ≤ B) (hb : ∀ k, k < B → w'.heap[k]? = w.heap[k]?) : ERow w' v es := by
  obtain ⟨p, cap, e, h0, h1⟩ := h
  refine ⟨p, cap, e, h0, fun hl => ?_⟩
  obtain ⟨g, cur, e, hg, hc⟩ := h1 hl
  exact ⟨g, cur, e, (hb g (by have := (Array.getElem?_eq_some_iff.1 hg).1; omega)).trans hg, hc⟩

theorem row_low {w : World} {base : Nat} {e : TypeId} {size : Nat} {v : Value} {n : Nat} {xs : List Value} (h : w.ownsRow base e size v n xs) : ∀ k, v.ownBlock = some k → base ≤ k := by
  intro k hk
  rcases h.2 with ⟨rfl, _⟩ | ⟨g, cap, cur, rfl, hb, _⟩
  · cases hk
  · cases hk; exact hb

theorem ownsRow_below {w w' : World} {base : Nat} {e : TypeId} {size : Nat} {v : Value} {n : Nat} {xs : List Value} (h : w.ownsRow base e size v n xs) (hb : Below w.heap.size w w') : w'.ownsRow base e size v n xs := by
  obtain ⟨h0, h1⟩ := h
  refine ⟨h0, h1.imp id ?_⟩
  rintro ⟨g, cap, cur, e1, e2, e3, e4⟩
  exact ⟨g, cap, cur, e1, e2, (hb.block g (Array.getElem?_eq_some_iff.1 e3).1).trans e3, e4⟩

theorem cut_rest {s : List UInt8} (h : (Lib.cut s [10]).2.2 = true) (hs : s ≠ []) : (Lib.cut s [10]).2.1.length < s.length := by
  unfold Lib.cut at h ⊢
  have := List.length_pos_iff.2 hs
  split at h
  · rename_i h0
    simp only [h0, if_true, List.length_drop, List.length_cons, List.length_nil]
    omega
  · cases h

theorem readE_lt {s r : List UInt8} {e : List UInt8 × List UInt8} (h : Tf.readE s = some (e, r)) (hs : s ≠ []) : r.length < s.length := by
  unfold Tf.readE at h
  split at h
  · cases h
  rename_i c1
  split at h
  · cases h
  split at h
  · cases h
  split at h
  · cases h
  split at h
  · cases h
  have := cut_rest (by simpa using c1) hs
  simp at h
  rw [← h.2, List.length_drop]
  omega

def strLen : Value → Nat
  | .string b => b.size
  | _ => 0

theorem Tryz.infoEntry : (Tryz.prog.info? 61).map (fun i => (i.zero, i.size, i.bytes)) = some (some (.agg #[.string ⟨#[]⟩, .string ⟨#[]⟩]), 2, 32) := by kernel_rfl

theorem two_new (W : World) (x y : Value) (t : TypeId) (j : Nat) (u : Value) (h : [x, y][j]? = some u) : (W.alloc (.cells #[x, y] t)).cell? ((⟨W.heap.size, 0, none⟩ : Addr).add j) = some u := by
  have hk := pair_new W x y t
  match j, h with
  | 0, h => cases h; exact cell_of_row hk rfl
  | 1, h => cases h; exact cell_of_row hk rfl

theorem two_new' (W : World) (x y : Value) (t : TypeId) (n : Nat) (hn : W.heap.size = n) (j : Nat) (u : Value) (h : [x, y][j]? = some u) : (W.alloc (.cells #[x, y] t)).cell? ((⟨n, 0, none⟩ : Addr).add j) = some u := by
  subst hn
  exact two_new W x y t j u h

set_option maxRecDepth 100000 in
set_option maxHeartbeats 4000000 in
theorem readEntries_yes (s : List UInt8) (es : Fs) (hp : Tf.Parse s es) (hs : s.length ≤ 1000000) (hn : es.length ≤ 1000) (m : Int) (w : World) (hP : Pow w) (hm : MaxAt w m) :
    Calls Tryz.prog 24 #[.string (ba s)] w fun e w' => ∃ v, e = .returned (.tuple #[v, .bool true]) ∧ w'.ownsRow w.heap.size 61 2 v es.length (entCells es) ∧ Below w.heap.size w w' := by
  have HR : Hid (∀ (t r : List UInt8) (e : List UInt8 × List UInt8), Tf.readE t = some (e, r) → t.length ≤ 1000000 → ∀ W, Below w.heap.size w W → Calls Tryz.prog 42 #[.string (ba t)] W fun e' w' => e' = .returned (.tuple #[entV e, .string (ba r), .bool true]) ∧ Below W.heap.size W w') :=
    fun t r e h ht W hW => readEntry_yes t e r h ht m W (pow_below hP hW) (cell_below' hm hW)
  obtain ⟨i0, hi, hz0, hz1, hz2⟩ := info_parts Tryz.infoEntry
  clear hP hm
  go_enter Tryz.func24, Tryz.ntmps24
  go_wp2
  go_loopw [0, 4] (fun s0 s4 wr => ∃ (dn rs : Fs) (r : List UInt8), es = dn ++ rs ∧ Tf.Parse r rs ∧ r.length ≤ s.length ∧ s0 = .string (ba r) ∧ wr.ownsRow w.heap.size 61 2 s4 dn.length (entCells dn) ∧ Below w.heap.size w wr) (fun s0 _ _ => strLen s0)
  case atStart => exact ⟨[], es, s, rfl, hp, Nat.le_refl _, rfl, World.ownsRow_nil _ _ _ _, Below.refl _ _⟩
  case round =>
    obtain ⟨dn, rs, r, hes, hpar, hrl, rfl, hrow, hB⟩ := hrel
    cases hpar with
    | nil =>
      go_wp2
      go_ret2
      rw [List.append_nil] at hes
      subst hes
      exact ⟨_, rfl, hrow, hB⟩
    | @cons _ r' e rs' hne hre hpar' =>
      have hz : r.isEmpty = false := by simpa using hne
      have hlt := readE_lt hre hne
      have HE := HR.out r r' e hre (by omega) wr hB
      have hdn : dn.length < 1000 := by rw [hes] at hn; simp at hn; omega
      clear HR hre
      go_wp2_with fail
      refine HE.mono ?_
      rintro e' w1 ⟨rfl, g1⟩
      have hrow1 := ownsRow_below hrow g1
      have G1 := hB.trans (g1.mono hB.size)
      have hsz1 := G1.size
      clear hrow g1 HE
      go_wp2_with (first
        | (at_builtin; refine wpList_append_own _ rfl _ _ 57 rfl w.heap.size 61 i0 (.agg #[.string ⟨#[]⟩, .string ⟨#[]⟩]) 2 32 Tryz.underlying57 hi hz0 hz1 hz2 rfl (by decide) _ _ _ rfl ((hrow1.alloc _).alloc _) ⟨w1.heap.size + 1, 0, none⟩ 1 1 [.string (ba e.1), .string (ba e.2)] rfl rfl (two_new' _ _ _ _ _ (by simp)) (by simp [Value.oneCell']) (by unfold maxLen; omega) (by omega) (by simp; omega) ?_; intro v' w2 hown' hgrow hnil; go_frame)
        | go_in)
      go_wp2
      go_roundw
      case rel =>
        refine ⟨dn ++ [e], rs', r', by rw [hes]; simp, hpar', by omega, rfl, ?_, ?_⟩
        · rw [entCells_snoc]; simpa using hown'
        · exact ((G1.alloc hsz1 _).alloc (by simp; omega) _).grown hgrow (by simp; omega) (row_low hrow1)
      case measure => simp only [strLen, ba_size]; exact hlt

set_option maxRecDepth 100000 in
set_option maxHeartbeats 4000000 in
theorem rise_yes {w : World} {v : Value} {es : Fs} (h : ERow w v es) (hr : Tf.Rises es) (hn : es.length ≤ 1000) :
    Calls Tryz.prog 25 #[v] w fun e w' => e = .returned (.bool true) ∧ ∃ q, w' = w.drewN q := by
  obtain ⟨p, cap, rfl, hcap, hin⟩ := h
  have zn : (es.length : Int) ≤ 1000 := by omega
  go_enter Tryz.func25, Tryz.ntmps25
  go_wp2
  go_loopw [3] (fun i wr => ∃ k : Nat, 1 ≤ k ∧ k ≤ 1000 ∧ i = .int .i64 k ∧ ∃ q, wr = w.drewN q) (fun i _ => 1001 - (intOf i).toNat)
  case atStart => exact ⟨1, by omega, by omega, rfl, 0, rfl⟩
  case round =>
    obtain ⟨k, hk1, hk, rfl, q, rfl⟩ := hrel
    by_cases hlt : k < es.length
    · obtain ⟨g, cur, rfl, hg, hcur⟩ := hin (by intro e; rw [e] at hlt; simp at hlt)
      have c1 : (k : Int) < (es.length : Int) := by omega
      have c0 : (1 : Int) ≤ (k : Int) := by omega
      have c2 : (0 : Int) ≤ (k : Int) := by omega
      have h1 := cell_of_row hg (hcur (k - 1) (by omega)).1
      have h2 := cell_of_row hg (hcur k hlt).1
      have hb : Op.bytesLess es[k - 1].1 es[k].1 = true := by
        rw [Tf.less_before]
        exact List.pairwise_iff_getElem.1 hr (k - 1) k (by omega) hlt (by omega)
      obtain ⟨j, rfl⟩ : ∃ j, k = j + 1 := ⟨k - 1, by omega⟩
      simp only [Nat.add_sub_cancel] at h1 hb
      clear hin hcur hg
      generalize es[j].1 = x at *
      generalize es[j + 1].1 = y at *
      go_wp2
      go_region
      go_wp2
      go_roundw
      case rel => exact ⟨j + 1 + 1, by omega, by omega, by go_num, q + 1, rfl⟩
      case measure => simp [intOf]; omega
    · have c1 : (es.length : Int) ≤ (k : Int) := by omega
      clear hin
      go_wp2
      go_ret
      exact ⟨rfl, q, rfl⟩
end Go.Proofs.YtpkkhabiheobnaaGreatDoor
