/- The walk of TreeBack: a tree is read as it was written; its paths rise, and none is above another one. -/
import Derived.Test.YtigcogfjclohjaaGreatDoorTreeRead4
import Derived.Test.YtigcogfjclohjaaGreatDoorTreeParse
import Derived.Test.YtigcogfjclohjaaGreatDoorTreeSame
import Derived.Deep.RegionHeld3
import Derived.BigQuiet
namespace Go.Proofs.YtigcogfjclohjaaGreatDoor
open Go.RowKit Go.Shelf Go.Lib Go.Maps
open Tf (Fs)

/-- Acts: kind, path, bytes. -/
abbrev Acts := List (List UInt8 × List UInt8 × List UInt8)

/-- A slice of acts in memory. -/
def ActRow (w : World) (v : Value) (l : Acts) : Prop :=
  ∃ p cap, v = .slice p l.length cap ∧ (l ≠ [] → ∃ ab ao, p = some ⟨ab, ao, none⟩ ∧ ab < w.heap.size ∧ ∀ j (hj : j < l.length),
    w.cell? ⟨ab, ao + j * 3, none⟩ = some (.string (ba l[j].1)) ∧ w.cell? ⟨ab, ao + j * 3 + 1, none⟩ = some (.string (ba l[j].2.1)) ∧ w.cell? ⟨ab, ao + j * 3 + 2, none⟩ = some (.string (ba l[j].2.2)))

theorem not_above {x y : List UInt8} (h : Tf.above x y = false) : (y.take (x.length + 1) == x ++ [47]) = false := by
  cases e : (y.take (x.length + 1) == x ++ [47]) with
  | false => rfl
  | true =>
    have e' : y.take (x.length + 1) = x ++ [47] := by simpa using e
    have : Tf.above x y = true := by
      unfold Tf.above Lib.hasPrefix
      rw [List.isPrefixOf_iff_prefix, ← e']
      exact List.take_prefix _ _
    rw [this] at h
    cases h

theorem rises_not {a b : List UInt8} (h : bytesBefore a b = true) : Op.bytesLess b a = false ∧ (b == a) = false := by
  constructor
  · rw [Tf.less_before]
    cases hb : bytesBefore b a with
    | false => rfl
    | true =>
      have := WideShapes.bytes_trans _ _ _ h hb
      rw [WideAt.bytes_irrefl] at this
      cases this
  · simp only [beq_eq_false_iff_ne]
    intro e
    rw [e, WideAt.bytes_irrefl] at h
    cases h

theorem text_len {fs : Fs} (h : Tf.Well pathB fs) : (Tf.textT fs).length ≤ 1000000 := by
  have h1 := textT_len (fs := fs) fun f hf => ⟨by have := well_len h f hf; omega, (h.each f hf).2⟩
  have := h.few
  have : fs.length * 4000 ≤ 60 * 4000 := Nat.mul_le_mul_right _ this
  omega

theorem Text_well {B : Nat} {W : World} {tb : Nat} {fs : Fs} {o : Option Nat} (h : TreeAt B W tb fs o) (hP : Pow W) (hw : Tf.Well pathB fs) :
    Calls Tryz.prog 13 #[Ptr tb] W fun e w' => e = .returned (.string (ba (Tf.textT fs))) ∧ Below W.heap.size W w' :=
  Text_calls h hP hw.rises (by have := hw.few; omega) fun f hf => ⟨by have := well_len hw f hf; omega, (hw.each f hf).2⟩

theorem Read_well {fs : Fs} (hw : Tf.Well pathB fs) (m : Int) (W : World) (er : Nat → Value) (hE : TErr W er) (hP : Pow W) (hm : MaxAt W m) :
    Calls Tryz.prog 10 #[.string (ba (Tf.textT fs))] W fun e w' => ∃ tb o, e = .returned (.tuple #[Ptr tb, .nilIface]) ∧ TreeAt W.heap.size w' tb fs o ∧ Below W.heap.size W w' := by
  have := Read_yes (Tf.textT fs) fs (parse_text fun f hf => hw.each f hf) (text_len hw) (by have := hw.few; omega) (fun f hf => by have := well_len hw f hf; omega) (fun k hk => hw.code_take hk) hw.rises m W er hE hP hm
  rw [Tf.puts_self hw.rises] at this
  exact this

theorem Paths_well {B : Nat} {W : World} {tb : Nat} {fs : Fs} {o : Option Nat} (h : TreeAt B W tb fs o) (hw : Tf.Well pathB fs) :
    Calls Tryz.prog 19 #[Ptr tb] W fun e w' => ∃ v, e = .returned v ∧ TRow w' v (fs.map (·.1)) ∧ Below W.heap.size W w' :=
  (Paths_calls h hw.rises (by have := hw.few; omega)).mono fun _ _ ⟨v, h1, h2, h3⟩ => ⟨v, h1, TRow.of_owns h2, h3⟩

theorem Put_well {B : Nat} {W : World} {tb : Nat} {fs : Fs} {o : Option Nat} {er : Nat → Value} (h : TreeAt B W tb fs o) (hE : TErr W er) (hw : Tf.Well pathB fs) (p b : List UInt8) (hp : p.length ≤ 1000) :
    Calls Tryz.prog 17 #[Ptr tb, .string (ba p), .string (ba b)] W fun e w' => (∃ v, e = .returned v) ∧ (∃ fs' o', Tf.Well pathB fs' ∧ TreeAt B w' tb fs' o') ∧ Below B W w' :=
  (Put_calls h hE (fun f hf => by have := well_len hw f hf; omega) (by have := hw.few; omega) p b (by omega)).mono fun _ _ ⟨h1, ⟨o', h2⟩, h3⟩ => ⟨⟨_, h1⟩, ⟨_, o', hw.putF p b, h2⟩, h3⟩

theorem Remove_well {B : Nat} {W : World} {tb : Nat} {fs : Fs} {o : Option Nat} {er : Nat → Value} (h : TreeAt B W tb fs o) (hE : TErr W er) (hw : Tf.Well pathB fs) (p : List UInt8) (hp : p.length ≤ 1000) :
    Calls Tryz.prog 16 #[Ptr tb, .string (ba p)] W fun e w' => (∃ v, e = .returned v) ∧ (∃ fs' o', Tf.Well pathB fs' ∧ TreeAt B w' tb fs' o') ∧ Below B W w' :=
  (Remove_calls h hE p (by omega)).mono fun _ _ ⟨h1, ⟨o', h2⟩, h3⟩ => ⟨⟨_, h1⟩, ⟨_, o', hw.del p, h2⟩, h3⟩

set_option maxRecDepth 100000 in
theorem TreeBack_many (w : World) (er : Nat → Value) (hE : TErr w er) (hP : Pow w) (p : Option Addr) (n cap : Nat) (hn : 80 < n) :
    Calls Tryz.prog 4 #[.slice p n cap] w fun e w' => e = .returned (.bool true) ∧ Below w.heap.size w w' := by
  have HT : Hid (Calls Tryz.prog 9 #[] w fun e w' => e = .returned (.bool true) ∧ Below w.heap.size w w') := treed_calls w er hE hP
  have z : (80 : Int) < (n : Int) := by omega
  clear hE hP hn
  go_enter Tryz.func4, Tryz.ntmps4
  go_wp2_with fail
  refine HT.out.mono ?_
  rintro e w1 ⟨rfl, g1⟩
  go_wp2
  go_ret
  exact ⟨rfl, g1⟩

set_option maxRecDepth 100000 in
set_option maxHeartbeats 8000000 in
theorem TreeBack_few (w : World) (er : Nat → Value) (hE : TErr w er) (hP : Pow w) (m : Int) (hm : MaxAt w m) (p : Option Addr) (cap : Nat) (l : Acts) (hn : l.length ≤ 80) (hsz : ∀ a ∈ l, a.2.1.length ≤ 140737488355328 ∧ a.2.2.length ≤ 140737488355328)
    (hA : l ≠ [] → ∃ ab ao, p = some ⟨ab, ao, none⟩ ∧ ab < w.heap.size ∧ ∀ j (hj : j < l.length),
      w.cell? ⟨ab, ao + j * 3, none⟩ = some (.string (ba l[j].1)) ∧ w.cell? ⟨ab, ao + j * 3 + 1, none⟩ = some (.string (ba l[j].2.1)) ∧ w.cell? ⟨ab, ao + j * 3 + 2, none⟩ = some (.string (ba l[j].2.2))) :
    Calls Tryz.prog 4 #[.slice p l.length cap] w fun e w' => e = .returned (.bool true) ∧ Below w.heap.size w w' := by
  have HT : Hid (Calls Tryz.prog 9 #[] w fun e w' => e = .returned (.bool true) ∧ Below w.heap.size w w') := treed_calls w er hE hP
  have HN : Hid (∀ W, Calls Tryz.prog 15 #[] W fun e w' => e = .returned (Ptr W.heap.size) ∧ TreeAt W.heap.size w' W.heap.size [] none ∧ Below W.heap.size W w') := New_calls
  have HPut : Hid (∀ (B tb : Nat) (fs : Fs) o W (q b : List UInt8), Below w.heap.size w W → TreeAt B W tb fs o → Tf.Well pathB fs → q.length ≤ 1000 → Calls Tryz.prog 17 #[Ptr tb, .string (ba q), .string (ba b)] W fun e w' => (∃ v, e = .returned v) ∧ (∃ fs' o', Tf.Well pathB fs' ∧ TreeAt B w' tb fs' o') ∧ Below B W w') :=
    fun B tb fs o W q b hW hT hw hq => Put_well hT (hE.below hW) hw q b hq
  have HRem : Hid (∀ (B tb : Nat) (fs : Fs) o W (q : List UInt8), Below w.heap.size w W → TreeAt B W tb fs o → Tf.Well pathB fs → q.length ≤ 1000 → Calls Tryz.prog 16 #[Ptr tb, .string (ba q)] W fun e w' => (∃ v, e = .returned v) ∧ (∃ fs' o', Tf.Well pathB fs' ∧ TreeAt B w' tb fs' o') ∧ Below B W w') :=
    fun B tb fs o W q hW hT hw hq => Remove_well hT (hE.below hW) hw q hq
  have HText : Hid (∀ (B tb : Nat) (fs : Fs) o W, Below w.heap.size w W → TreeAt B W tb fs o → Tf.Well pathB fs → Calls Tryz.prog 13 #[Ptr tb] W fun e w' => e = .returned (.string (ba (Tf.textT fs))) ∧ Below W.heap.size W w') :=
    fun B tb fs o W hW hT hw => Text_well hT (pow_below hP hW) hw
  have HRead : Hid (∀ (fs : Fs) W, Below w.heap.size w W → Tf.Well pathB fs → Calls Tryz.prog 10 #[.string (ba (Tf.textT fs))] W fun e w' => ∃ tb o, e = .returned (.tuple #[Ptr tb, .nilIface]) ∧ TreeAt W.heap.size w' tb fs o ∧ Below W.heap.size W w') :=
    fun fs W hW hw => Read_well hw m W er (hE.below hW) (pow_below hP hW) (cell_below' hm hW)
  have HPaths : Hid (∀ (B tb : Nat) (fs : Fs) o W, TreeAt B W tb fs o → Tf.Well pathB fs → Calls Tryz.prog 19 #[Ptr tb] W fun e w' => ∃ v, e = .returned v ∧ TRow w' v (fs.map (·.1)) ∧ Below W.heap.size W w') :=
    fun B tb fs o W hT hw => Paths_well hT hw
  have HSame : Hid (∀ (va vb : Value) (l : List (List UInt8)) W, TRow W va l → TRow W vb l → l.length ≤ 1000 → Calls Tryz.prog 18 #[va, vb] W fun e w' => e = .returned (.bool true) ∧ Below W.heap.size W w') :=
    fun va vb l W ha hb hl => SameTexts_same ha hb hl
  have z : (l.length : Int) ≤ 80 := by omega
  clear hE hP hm
  go_enter Tryz.func4, Tryz.ntmps4
  go_wp2_with fail
  refine HT.out.mono ?_
  rintro e w1 ⟨rfl, g1⟩
  go_wp2_with fail
  refine (HN.out w1).mono ?_
  rintro e w2 ⟨rfl, hT0, g2⟩
  have G2 := g1.trans (g2.mono g1.size)
  have hB := g1.size
  generalize w1.heap.size = B at *
  clear HT HN g1 g2
  go_wp2
  go_loopw [5, 6] (fun n i wr => ∃ (k N : Nat) (fs : Fs) (o : Option Nat), k ≤ l.length ∧ N ≤ 10000 ∧ n = .int .i64 N ∧ i = .int .i64 k ∧ Tf.Well pathB fs ∧ TreeAt B wr B fs o ∧ Below w.heap.size w wr) (fun _ i _ => l.length - (intOf i).toNat)
  case atStart => exact ⟨0, 0, [], none, by omega, by omega, rfl, rfl, Tf.Well.nil _, hT0, G2⟩
  case round =>
    obtain ⟨k, N, fs, o, hk, hN, rfl, rfl, hw, hT, hG⟩ := hrel
    by_cases hlt : k < l.length
    · obtain ⟨ab, ao, rfl, hab, hcell⟩ := hA (by intro e; rw [e] at hlt; simp at hlt)
      obtain ⟨c1, c2, c3⟩ := hcell k hlt
      obtain ⟨s1, s2⟩ := hsz _ (List.getElem_mem hlt)
      have d1 := (hG.cell (p := ⟨ab, ao + k * 3, none⟩) hab).trans c1
      have d2 := (hG.cell (p := ⟨ab, ao + k * 3 + 1, none⟩) hab).trans c2
      have d3 := (hG.cell (p := ⟨ab, ao + k * 3 + 2, none⟩) hab).trans c3
      have zk : (k : Int) < (l.length : Int) := by omega
      have zk0 : (0 : Int) ≤ (k : Int) := by omega
      have zN : (N : Int) ≤ 10000 := by omega
      have zN0 : (0 : Int) ≤ (N : Int) := by omega
      clear hcell c1 c2 c3 hA hT0 G2
      generalize l[k].1 = kd at *
      generalize l[k].2.1 = q at *
      generalize l[k].2.2 = b at *
      have zb : (b.length : Int) ≤ 140737488355328 := by omega
      have zq : (q.length : Int) ≤ 140737488355328 := by omega
      rcases Nat.lt_or_ge 100 q.length with hq | hq
      · have zq' : (100 : Int) < (q.length : Int) := by omega
        go_wp2
        go_ret
        exact ⟨rfl, hG⟩
      · have zq' : (q.length : Int) ≤ 100 := by omega
        rcases Nat.lt_or_ge 10000 (N + b.length) with hb | hb
        · have zb' : (10000 : Int) < (N : Int) + (b.length : Int) := by omega
          go_wp2
          go_ret
          exact ⟨rfl, hG⟩
        · have zb' : (N : Int) + (b.length : Int) ≤ 10000 := by omega
          by_cases hkd : kd = [114, 101, 109, 111, 118, 101]
          · subst hkd
            have H := HRem.out B B fs o wr q hG hT hw (by omega)
            go_wp2_with fail
            refine H.mono ?_
            rintro e w3 ⟨⟨v, rfl⟩, ⟨fs', o', hw', hT'⟩, g3⟩
            go_wp2
            go_roundw
            case rel => exact ⟨k + 1, N + b.length, fs', o', by omega, hb, by go_num, by go_num, hw', hT', hG.trans (g3.mono hB)⟩
            case measure => simp [intOf]; omega
          · have hkd' : (kd == [114, 101, 109, 111, 118, 101]) = false := by simpa using hkd
            have HP16 : Hid (∀ W, Below wr.heap.size wr W → Calls Tryz.prog 17 #[Ptr B, .string (ba q), .string (ba b)] W fun e w' => (∃ v, e = .returned v) ∧ (∃ fs' o', Tf.Well pathB fs' ∧ TreeAt B w' B fs' o') ∧ Below B wr w') := fun W hW =>
              (HPut.out B B fs o W q b (hG.trans (hW.mono hG.size)) (hT.below hW) hw (by omega)).mono fun e w' ⟨h1, h2, h3⟩ => ⟨h1, h2, (hW.mono (Nat.le_of_lt hT.lt)).trans h3⟩
            have q8 : IntKind.i64.wrap (k : Int) = (k : Int) := by rw [IntKind.wrap_i64]; omega
            have habB : ab < B := by omega
            clear HPut HRem HText HRead HPaths HSame hsz
            go_wp2
            go_region_held3 (fun w' => w'.cell? ⟨ab, ao + k * 3 + 1, none⟩ = some (.string (ba q)) ∧ w'.cell? ⟨ab, ao + k * 3 + 2, none⟩ = some (.string (ba b))) (first | go_keep | fail)
              (first | (go_at_call 17; refine (HP16.out _ (by exact (Below.refl _ wr).drew)).mono ?_; rintro e w3 ⟨⟨v, rfl⟩, ⟨fs', o', hw', hT'⟩, g3⟩; have e2 := (g3.cell (p := ⟨ab, ao + k * 3 + 1, none⟩) habB).trans d2; have e3 := (g3.cell (p := ⟨ab, ao + k * 3 + 2, none⟩) habB).trans d3) | fail)
            all_goals
              go_wp2
              exact ⟨⟨k + 1, N + b.length, fs', o', by omega, hb, by go_num, by go_num, hw', hT', hG.trans (g3.mono hB)⟩, by simp [intOf]; omega⟩
    · have zk : (l.length : Int) ≤ (k : Int) := by omega
      clear HPut HRem hA hT0 G2
      have H1 := HText.out B B fs o wr hG hT hw
      go_wp2_with fail
      refine H1.mono ?_
      rintro e w3 ⟨rfl, g3⟩
      have G3 := hG.trans (g3.mono hG.size)
      have T3 := hT.below g3
      clear H1 hT hG g3
      go_wp2_with fail
      refine (HRead.out fs w3 G3 hw).mono ?_
      rintro e w4 ⟨xb, xo, rfl, X4, g4⟩
      have G4 := G3.trans (g4.mono G3.size)
      have T4 := T3.below g4
      clear T3 G3 g4 HRead
      go_wp2_with fail
      refine (HText.out _ xb fs xo w4 G4 X4 hw).mono ?_
      rintro e w5 ⟨rfl, g5⟩
      have G5 := G4.trans (g5.mono G4.size)
      have T5 := T4.below g5
      have X5 := X4.below g5
      clear T4 X4 G4 g5
      go_wp2_with fail
      refine (HText.out B B fs o w5 G5 T5 hw).mono ?_
      rintro e w6 ⟨rfl, g6⟩
      have G6 := G5.trans (g6.mono G5.size)
      have T6 := T5.below g6
      have X6 := X5.below g6
      clear T5 X5 G5 g6 HText
      go_wp2_with fail
      refine (HPaths.out _ xb fs xo w6 X6 hw).mono ?_
      rintro e w7 ⟨vx, rfl, rx, g7⟩
      have G7 := G6.trans (g7.mono G6.size)
      have T7 := T6.below g7
      clear T6 X6 G6 g7
      go_wp2_with fail
      refine (HPaths.out B B fs o w7 T7 hw).mono ?_
      rintro e w8 ⟨vt, rfl, rt, g8⟩
      have G8 := G7.trans (g8.mono G7.size)
      have T8 := T7.below g8
      have rx8 := rx.below g8
      clear T7 G7 g8 rx
      go_wp2_with fail
      refine (HSame.out vx vt _ w8 rx8 rt (by have := hw.few; simp; omega)).mono ?_
      rintro e w9 ⟨rfl, g9⟩
      have G9 := G8.trans (g9.mono G8.size)
      have T9 := T8.below g9
      clear T8 G8 g9 rx8 rt HSame
      go_wp2_with fail
      refine (HPaths.out B B fs o w9 T9 hw).mono ?_
      rintro e w10 ⟨vp, rfl, ⟨pp, cp, rfl, hcp, hin⟩, g10⟩
      have G10 := G9.trans (g10.mono G9.size)
      have hri : ∀ i (h1 : i < (fs.map (·.1)).length) (h2 : i + 1 < (fs.map (·.1)).length), Op.bytesLess (fs.map (·.1))[i + 1] (fs.map (·.1))[i] = false ∧ ((fs.map (·.1))[i + 1] == (fs.map (·.1))[i]) = false := fun i h1 h2 => by
        rw [List.getElem_map, List.getElem_map]
        exact rises_not (List.pairwise_iff_getElem.1 hw.rises i (i + 1) (by simpa using h1) (by simpa using h2) (by omega))
      have hab : ∀ x ∈ fs.map (·.1), ∀ y ∈ fs.map (·.1), Tf.above x y = false := fun x hx y hy => by
        obtain ⟨f, hf, rfl⟩ := List.mem_map.1 hx
        obtain ⟨g, hg, rfl⟩ := List.mem_map.1 hy
        exact hw.apart f hf g hg
      have h64 : ∀ x ∈ fs.map (·.1), x.length ≤ 64 := fun x hx => by
        obtain ⟨f, hf, rfl⟩ := List.mem_map.1 hx
        exact well_len hw f hf
      have h60 : (fs.map (·.1)).length ≤ 60 := by have := hw.few; simpa using this
      generalize fs.map (·.1) = ps at *
      have z60 : (ps.length : Int) ≤ 60 := by omega
      clear HPaths T9 G9 g10 hw hsz
      go_wp2
      go_loopw [10] (fun i wr' => ∃ i0 : Nat, i0 ≤ ps.length ∧ i = .int .i64 i0 ∧ ∃ q, wr' = w10.drewN q) (fun i _ => ps.length - (intOf i).toNat)
      case atStart => exact ⟨0, Nat.zero_le _, rfl, 0, rfl⟩
      case round =>
        obtain ⟨i0, hi0, rfl, q, rfl⟩ := hrel
        by_cases hil : i0 < ps.length
        · obtain ⟨g, cur, rfl, hg, hcur⟩ := hin (by intro e; rw [e] at hil; simp at hil)
          have ci := cell_of_row hg (hcur i0 hil)
          have hx64 := h64 _ (List.getElem_mem hil)
          have y1 : (i0 : Int) < (ps.length : Int) := by omega
          have y0 : (0 : Int) ≤ (i0 : Int) := by omega
          have hx0 : Hid (∀ y ∈ ps, Tf.above ps[i0] y = false) := fun y hy => hab _ (List.getElem_mem hil) y hy
          rcases Nat.eq_zero_or_pos i0 with h0 | h0
          · subst h0
            clear hri hab
            generalize ps[0] = x at *
            go_wp2
            go_quiet (fail)
            go_wp2
            go_loopw [11] (fun i wr' => ∃ k0 : Nat, k0 ≤ ps.length ∧ i = .int .i64 k0 ∧ ∃ q, wr' = w10.drewN q) (fun i _ => ps.length - (intOf i).toNat)
            case atStart => exact ⟨0, Nat.zero_le _, rfl, q + nq, by first | rfl | simp⟩
            case round =>
              obtain ⟨k0, hk0, rfl, q', rfl⟩ := hrel
              by_cases hkl : k0 < ps.length
              · have ck := cell_of_row hg (hcur k0 hkl)
                have hy64 := h64 _ (List.getElem_mem hkl)
                have hna := not_above (hx0.out _ (List.getElem_mem hkl))
                have v1 : (k0 : Int) < (ps.length : Int) := by omega
                have v0 : (0 : Int) ≤ (k0 : Int) := by omega
                clear hin
                generalize ps[k0] = y at *
                have v3 : (x.length : Int) ≤ 64 := by omega
                have v4 : (y.length : Int) ≤ 64 := by omega
                rcases Nat.lt_or_ge x.length y.length with hxy | hxy
                · have v2 : decide ((x.length : Int) < (y.length : Int)) = true := by simp; omega
                  have v5 : (x.length : Int) + 1 ≤ (y.length : Int) := by omega
                  have v6 : (0 : Int) ≤ (x.length : Int) + 1 := by omega
                  have v7 : IntKind.i64.wrap ((x.length : Int) + 1) = (x.length : Int) + 1 := by rw [IntKind.wrap_i64]; omega
                  have v8 : (x.length : Int) < (y.length : Int) := by omega
                  have e1 : (ba y).extract 0 (x.length + 1) = ba (y.take (x.length + 1)) := by rw [ba_extract]; simp
                  have e2 : ba x ++ { data := #[47] } = ba (x ++ [47]) := by rw [show (ByteArray.mk #[47]) = ba [47] from rfl, ba_append]
                  go_wp2
                  go_quiet (fail)
                  go_wp2
                  go_roundw
                  case rel => exact ⟨k0 + 1, by omega, by go_num, q' + nq, by first | rfl | simp⟩
                  case measure => simp [intOf]; omega
                · have v2 : decide ((x.length : Int) < (y.length : Int)) = false := by simp; omega
                  have v2N : decide (x.length < y.length) = false := by simp; omega
                  clear hxy
                  go_wp2
                  go_quiet (fail)
                  go_wp2
                  go_roundw
                  case rel => exact ⟨k0 + 1, by omega, by go_num, q' + nq, by first | rfl | simp⟩
                  case measure => simp [intOf]; omega
              · have v1 : (ps.length : Int) ≤ (k0 : Int) := by omega
                clear hin
                go_wp2
                go_roundw
                case rel => exact ⟨0 + 1, by omega, by go_num, _, rfl⟩
                case measure => simp [intOf]; omega
          · have hd : decide ((0 : Int) < (i0 : Int)) = true := by simp; omega
            obtain ⟨j, rfl⟩ : ∃ j, i0 = j + 1 := ⟨i0 - 1, by omega⟩
            obtain ⟨r1, r2⟩ := hri j (by omega) hil
            have cj := cell_of_row hg (hcur j (by omega))
            have y2 : (j : Int) < (ps.length : Int) := by omega
            have y3 : (0 : Int) ≤ (j : Int) := by omega
            have y4 : (0 : Int) < (j : Int) + 1 := by omega
            have y5 : (j : Int) + 1 < (ps.length : Int) := by omega
            have y6 : IntKind.i64.wrap ((j : Int) + 1 - 1) = (j : Int) := by rw [IntKind.wrap_i64]; omega
            have y7 : IntKind.i64.wrap (((j + 1 : Nat) : Int) - 1) = (j : Int) := by rw [IntKind.wrap_i64]; omega
            clear h0 hri hab
            generalize ps[j + 1] = x at *
            generalize ps[j] = x' at *
            go_wp2
            go_quiet (fail)
            go_wp2
            go_loopw [11] (fun i wr' => ∃ k0 : Nat, k0 ≤ ps.length ∧ i = .int .i64 k0 ∧ ∃ q, wr' = w10.drewN q) (fun i _ => ps.length - (intOf i).toNat)
            case atStart => exact ⟨0, Nat.zero_le _, rfl, q + nq, by first | rfl | simp⟩
            case round =>
              obtain ⟨k0, hk0, rfl, q', rfl⟩ := hrel
              by_cases hkl : k0 < ps.length
              · have ck := cell_of_row hg (hcur k0 hkl)
                have hy64 := h64 _ (List.getElem_mem hkl)
                have hna := not_above (hx0.out _ (List.getElem_mem hkl))
                have v1 : (k0 : Int) < (ps.length : Int) := by omega
                have v0 : (0 : Int) ≤ (k0 : Int) := by omega
                clear hin
                generalize ps[k0] = y at *
                have v3 : (x.length : Int) ≤ 64 := by omega
                have v4 : (y.length : Int) ≤ 64 := by omega
                rcases Nat.lt_or_ge x.length y.length with hxy | hxy
                · have v2 : decide ((x.length : Int) < (y.length : Int)) = true := by simp; omega
                  have v5 : (x.length : Int) + 1 ≤ (y.length : Int) := by omega
                  have v6 : (0 : Int) ≤ (x.length : Int) + 1 := by omega
                  have v7 : IntKind.i64.wrap ((x.length : Int) + 1) = (x.length : Int) + 1 := by rw [IntKind.wrap_i64]; omega
                  have v8 : (x.length : Int) < (y.length : Int) := by omega
                  have e1 : (ba y).extract 0 (x.length + 1) = ba (y.take (x.length + 1)) := by rw [ba_extract]; simp
                  have e2 : ba x ++ { data := #[47] } = ba (x ++ [47]) := by rw [show (ByteArray.mk #[47]) = ba [47] from rfl, ba_append]
                  go_wp2
                  go_quiet (fail)
                  go_wp2
                  go_roundw
                  case rel => exact ⟨k0 + 1, by omega, by go_num, q' + nq, by first | rfl | simp⟩
                  case measure => simp [intOf]; omega
                · have v2 : decide ((x.length : Int) < (y.length : Int)) = false := by simp; omega
                  have v2N : decide (x.length < y.length) = false := by simp; omega
                  clear hxy
                  go_wp2
                  go_quiet (fail)
                  go_wp2
                  go_roundw
                  case rel => exact ⟨k0 + 1, by omega, by go_num, q' + nq, by first | rfl | simp⟩
                  case measure => simp [intOf]; omega
              · have v1 : (ps.length : Int) ≤ (k0 : Int) := by omega
                clear hin
                go_wp2
                go_roundw
                case rel => exact ⟨j + 1 + 1, by omega, by go_num, _, rfl⟩
                case measure => simp [intOf]; omega
        · have y1 : (ps.length : Int) ≤ (i0 : Int) := by omega
          clear hin
          go_wp2
          go_ret
          exact ⟨rfl, below_draws G10 q⟩
end Go.Proofs.YtigcogfjclohjaaGreatDoor
