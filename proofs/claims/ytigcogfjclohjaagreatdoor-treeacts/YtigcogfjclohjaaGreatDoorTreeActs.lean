/- The walk of TreeActs. -/
import Derived.Test.YtigcogfjclohjaaGreatDoorTreeBoth
import Derived.Test.YtigcogfjclohjaaGreatDoorTreeBack
import Derived.Test.YtigcogfjclohjaaGreatDoorMA
namespace Go.Proofs.YtigcogfjclohjaaGreatDoor
open Go.RowKit Go.Shelf Go.Lib Go.Maps
open Tf (Fs)

theorem hidden {p : Prop} (h : p) : Hid p := h

theorem newM (w : World) : RTreeAt w.heap.size (w.alloc (.cells #[.slice none 0 0] 46)) w.heap.size [] (.slice none 0 0) := by
  have hk := (MapKept.heap_alloc w (.cells #[.slice none 0 0] 46)).1
  exact ⟨Nat.le_refl _, cell_of_row hk rfl, by unfold World.frozen?; rw [hk]; rfl, World.ownsRow_nil _ _ _ _, (fun e => by cases e), fun _ => rfl⟩

theorem lowM {B B' : Nat} {w : World} {tb : Nat} {fs : Fs} {v : Value} (h : RTreeAt B w tb fs v) (hB : B' ≤ B) : RTreeAt B' w tb fs v := by
  refine ⟨Nat.le_trans hB h.low, h.cell, h.free, ?_, h.apart, h.nil⟩
  obtain ⟨h0, h1⟩ := h.row
  exact ⟨h0, h1.imp id fun ⟨g, cap, cur, e1, e2, e3⟩ => ⟨g, cap, cur, e1, Nat.le_trans hB e2, e3⟩⟩

theorem found_at {fs : Fs} (hr : Tf.Rises fs) {k : Nat} (hk : k < fs.length) {q : List UInt8} (e : fs[k].1 = q) : Tf.hasP fs q = true ∧ (Tf.get fs q).getD [] = fs[k].2 := by
  subst e
  exact ⟨List.any_eq_true.2 ⟨fs[k], List.getElem_mem hk, by simp⟩, by rw [get_at hr hk]; rfl⟩

theorem get_no {fs : Fs} {q : List UInt8} (h : Tf.hasP fs q = false) : (Tf.get fs q).getD [] = [] := by
  unfold Tf.get
  have : List.find? (fun f => f.1 == q) fs = none := by
    rw [List.find?_eq_none]
    intro f hf
    have := List.any_eq_false.1 h f hf
    simpa using this
  rw [this]
  rfl

theorem putCode_er (fs : Fs) (p b : List UInt8) : Tf.putCode pathB fs p b = 0 ∨ ∃ k, k < 12 ∧ Tf.putCode pathB fs p b = k + 1 := by
  unfold Tf.putCode
  split
  · exact .inr ⟨3, by omega, rfl⟩
  split
  · exact .inr ⟨1, by omega, rfl⟩
  split
  · exact .inl rfl
  split
  · exact .inr ⟨6, by omega, rfl⟩
  split
  · exact .inr ⟨7, by omega, rfl⟩
  · exact .inl rfl
theorem remCode_er (fs : Fs) (p : List UInt8) : (if Tf.hasP fs p then 0 else 6) = 0 ∨ ∃ k, k < 12 ∧ (if Tf.hasP fs p then 0 else 6) = k + 1 := by
  split
  · exact .inl rfl
  · exact .inr ⟨5, by omega, rfl⟩

set_option maxRecDepth 100000 in
theorem TreeActs_many (w : World) (er : Nat → Value) (hE : TErr w er) (hP : Pow w) (p : Option Addr) (n cap : Nat) (hn : 80 < n) :
    Calls Tryz.prog 5 #[.slice p n cap] w fun e w' => e = .returned (.bool true) ∧ Below w.heap.size w w' := by
  have HT : Hid (Calls Tryz.prog 9 #[] w fun e w' => e = .returned (.bool true) ∧ Below w.heap.size w w') := treed_calls w er hE hP
  have z : (80 : Int) < (n : Int) := by omega
  clear hE hP hn
  go_enter Tryz.func5, Tryz.ntmps5
  go_wp2_with fail
  refine HT.out.mono ?_
  rintro e w1 ⟨rfl, g1⟩
  go_wp2
  go_ret
  exact ⟨rfl, g1⟩

set_option maxRecDepth 100000 in
set_option maxHeartbeats 16000000 in
theorem TreeActs_few (w : World) (es : Nat → Addr) (hE : E12 w es) (hP : Pow w) (m : Int) (hm : MaxAt w m) (p : Option Addr) (cap : Nat) (l : Acts) (hn : l.length ≤ 80) (hsz : ∀ a ∈ l, a.2.1.length ≤ 140737488355328 ∧ a.2.2.length ≤ 140737488355328)
    (hA : l ≠ [] → ∃ ab ao, p = some ⟨ab, ao, none⟩ ∧ ab < w.heap.size ∧ ∀ j (hj : j < l.length),
      w.cell? ⟨ab, ao + j * 3, none⟩ = some (.string (ba l[j].1)) ∧ w.cell? ⟨ab, ao + j * 3 + 1, none⟩ = some (.string (ba l[j].2.1)) ∧ w.cell? ⟨ab, ao + j * 3 + 2, none⟩ = some (.string (ba l[j].2.2))) :
    Calls Tryz.prog 5 #[.slice p l.length cap] w fun e w' => e = .returned (.bool true) ∧ Below w.heap.size w w' := by
  have HT : Hid (Calls Tryz.prog 9 #[] w fun e w' => e = .returned (.bool true) ∧ Below w.heap.size w w') := treed_calls w _ hE.terr hP
  have HN : Hid (∀ W, Calls Tryz.prog 15 #[] W fun e w' => e = .returned (Ptr W.heap.size) ∧ TreeAt W.heap.size w' W.heap.size [] none ∧ Below W.heap.size W w') := New_calls
  have HPutT0 : Hid (∀ (B M : Nat) (fs : Fs) (o : Option Nat) (v : Value) W (q b : List UInt8), Below w.heap.size w W → Both B W B M fs o v → q.length ≤ 1000 → Calls Tryz.prog 17 #[Ptr B, .string (ba q), .string (ba b)] W fun e w' => e = .returned (erOf es (Tf.putCode pathB fs q b)) ∧ ∃ o', Half B W w' B M fs (Tf.putF pathB fs q b) o o' v ∧ Kept (tS B o) W w' ∧ Below B W w') :=
    fun B M fs o v W q b hW hb hq => (PutK_calls hb.t (hE.below hW).terr (fun f hf => by have := well_len hb.well f hf; omega) (by have := hb.well.few; omega) q b (by omega)).mono fun e w' ⟨h1, ⟨o', h2, h3⟩, h4, h5⟩ => ⟨h1, o', hb.half h3 h2 h5, h5, h4⟩
  have HRemT0 : Hid (∀ (B M : Nat) (fs : Fs) (o : Option Nat) (v : Value) W (q : List UInt8), Below w.heap.size w W → Both B W B M fs o v → q.length ≤ 1000 → Calls Tryz.prog 16 #[Ptr B, .string (ba q)] W fun e w' => e = .returned (erOf es (if Tf.hasP fs q then 0 else 6)) ∧ ∃ o', Half B W w' B M fs (Tf.del fs q) o o' v ∧ Kept (tS B o) W w' ∧ Below B W w') :=
    fun B M fs o v W q hW hb hq => (RemoveK_calls hb.t (hE.below hW).terr q (by omega)).mono fun e w' ⟨h1, ⟨o', h2, h3⟩, h4, h5⟩ => ⟨h1, o', hb.half h3 h2 h5, h5, h4⟩
  have HPutM0 : Hid (∀ (B M : Nat) (fs : Fs) (o : Option Nat) (v : Value) (o' : Option Nat) W W1 (q b : List UInt8), Both B W B M fs o v → Half B W W1 B M fs (Tf.putF pathB fs q b) o o' v → q.length ≤ 1000 → Calls Tryz.prog 20 #[Ptr M, .string (ba q), .string (ba b)] W1 fun e w' => e = .returned (.int .i64 (Tf.putCode pathB fs q b : Nat)) ∧ ∃ v', Both B w' B M (Tf.putF pathB fs q b) o' v' ∧ Kept (mS M v) W1 w' ∧ Below B W1 w') :=
    fun B M fs o v o' W W1 q b hb hh hq => (rPutK_calls hh.m hb.well q b (by omega)).mono fun e w' ⟨h1, ⟨v', h2, h3⟩, h4, h5⟩ => ⟨h1, v', hh.both hb h3 h2 h5 (hb.well.putF q b), h5, h4⟩
  have HRemM0 : Hid (∀ (B M : Nat) (fs : Fs) (o : Option Nat) (v : Value) (o' : Option Nat) W W1 (q : List UInt8), Both B W B M fs o v → Half B W W1 B M fs (Tf.del fs q) o o' v → q.length ≤ 1000 → Calls Tryz.prog 21 #[Ptr M, .string (ba q)] W1 fun e w' => e = .returned (.int .i64 ((if Tf.hasP fs q then 0 else 6 : Nat) : Int)) ∧ ∃ v', Both B w' B M (Tf.del fs q) o' v' ∧ Kept (mS M v) W1 w' ∧ Below B W1 w') :=
    fun B M fs o v o' W W1 q hb hh _ => (rRemove_calls hh.m hb.well q).mono fun e w' ⟨h1, ⟨v', h2, h3⟩, h4, h5⟩ => ⟨h1, v', hh.both hb h3 h2 h5 (hb.well.del q), h5, h4⟩
  have HC : Hid (∀ (c : Nat) W, (c = 0 ∨ ∃ k, k < 12 ∧ c = k + 1) → Below w.heap.size w W → Calls Tryz.prog 12 #[erOf es c, .int .i64 (c : Int)] W fun e w' => e = .returned (.bool true) ∧ Below W.heap.size W w') := fun c W hc hW => coded_er c hc es W (hE.below hW)
  have HGlobN : Hid (∀ (tb : Nat) (q : List UInt8) W, q.length ≤ 1000 → okR true q = false → Below w.heap.size w W → Calls Tryz.prog 22 #[Ptr tb, .string (ba q)] W fun e w' => e = .returned (.tuple #[.slice none 0 0, erOf es 4]) ∧ Below W.heap.size W w') := fun tb q W hq h1 hW => Glob_no tb q (by omega) h1 W _ _ (hE.below hW).c3
  have HGlobY : Hid (∀ (B tb : Nat) (fs : Fs) (o : Option Nat) (q : List UInt8) W, TreeAt B W tb fs o → Tf.Well pathB fs → q.length ≤ 1000 → okR true q = true → Below w.heap.size w W → Calls Tryz.prog 22 #[Ptr tb, .string (ba q)] W fun e w' => ∃ v, e = .returned (.tuple #[v, .nilIface]) ∧ TRow w' v (fits q (fs.map (·.1))) ∧ Below W.heap.size W w') := fun B tb fs o q W hT hw hq h1 hW => Glob_yes hT hw q (by omega) h1 m (cell_below' hm hW)
  have HMoN : Hid (∀ (q : List UInt8) W, q.length ≤ 1000 → okR true q = false → Calls Tryz.prog 23 #[.string (ba q), .string (ba [97])] W fun e w' => e = .returned (.tuple #[.bool false, .int .i64 4]) ∧ Below W.heap.size W w') := fun q W hq h1 => MatchOf_noPat q [97] (by omega) (by simp) h1 W
  have HMoA : Hid (∀ (q : List UInt8) W, q.length ≤ 1000 → okR true q = true → Calls Tryz.prog 23 #[.string (ba q), .string (ba [97])] W fun e w' => (∃ x, e = .returned (.tuple #[.bool x, .int .i64 0])) ∧ Below W.heap.size W w') := fun q W hq h1 => (MatchOf_yes q [97] (by omega) (by simp) h1 (by rw [← pathB_R]; exact pathB_a) W).mono fun e w' ⟨h1, h2⟩ => ⟨⟨_, h1⟩, h2⟩
  have HMo : Hid (∀ (fs : Fs), Tf.Well pathB fs → ∀ (q : List UInt8), q.length ≤ 1000 → okR true q = true → ∀ k (hk : k < fs.length) W, Calls Tryz.prog 23 #[.string (ba q), .string (ba fs[k].1)] W fun e w' => e = .returned (.tuple #[.bool (fitL 20 (Kf.parts q) (Kf.parts fs[k].1)), .int .i64 0]) ∧ Below W.heap.size W w') := fun fs hw q hq h1 k hk W =>
    MatchOf_yes q _ (by omega) (by have := well_len hw _ (List.getElem_mem hk); omega) h1 (by rw [← pathB_R]; exact (hw.each _ (List.getElem_mem hk)).1) W
  have HGet : Hid (∀ {B : Nat} {W : World} {T M : Nat} {fs : Fs} {o : Option Nat} {v : Value}, ∀ (_ : Unit) (_ : Unit) (_ : Unit) (_ : Unit) (q : List UInt8), Both B W T M fs o v → q.length ≤ 1000 → Calls Tryz.prog 24 #[Ptr T, .string (ba q)] W fun e w' => e = .returned (.tuple #[.string (ba ((Tf.get fs q).getD [])), .bool (Tf.hasP fs q)]) ∧ Below W.heap.size W w') := fun _ _ _ _ q hb hq => Get_calls hb.t q (by omega)
  have HText : Hid (∀ (B tb : Nat) (fs : Fs) o W, Below w.heap.size w W → TreeAt B W tb fs o → Tf.Well pathB fs → Calls Tryz.prog 13 #[Ptr tb] W fun e w' => e = .returned (.string (ba (Tf.textT fs))) ∧ Below W.heap.size W w') :=
    fun B tb fs o W hW hT hw => Text_well hT (pow_below hP hW) hw
  have HSame : Hid (∀ (va vb : Value) (l : List (List UInt8)) W, TRow W va l → TRow W vb l → l.length ≤ 1000 → Calls Tryz.prog 18 #[va, vb] W fun e w' => e = .returned (.bool true) ∧ Below W.heap.size W w') :=
    fun va vb l W ha hb hl => SameTexts_same ha hb hl
  obtain ⟨i0, hi, hz0, hz1, hz2⟩ := info_parts Tryz.infoStr
  have z : (l.length : Int) ≤ 80 := by omega
  clear hE hP hm
  go_enter Tryz.func5, Tryz.ntmps5
  go_wp2_with fail
  refine HT.out.mono ?_
  rintro e w1 ⟨rfl, g1⟩
  go_wp2_with fail
  refine (HN.out w1).mono ?_
  rintro e w2 ⟨rfl, hT0, g2⟩
  have hB := g1.size
  have hltT := hT0.lt
  have gM : Below w2.heap.size w2 (w2.alloc (.cells #[.slice none 0 0] 46)) := (Below.refl _ w2).alloc (Nat.le_refl _) _
  have hM0 := lowM (newM w2) (Nat.le_of_lt hltT)
  have hT1 := hT0.below gM
  have hb0 : Both w1.heap.size (w2.alloc (.cells #[.slice none 0 0] 46)) w1.heap.size w2.heap.size [] none (.slice none 0 0) :=
    ⟨hT1, hM0, Tf.Well.nil _, by omega, (fun e => by cases e), (fun e => by cases e), fun j e => by cases e⟩
  have G2 := (g1.trans (g2.mono g1.size)).trans (gM.mono (g1.trans (g2.mono g1.size)).size)
  have HB0 := hidden hb0
  have HPutT := fun M => HPutT0.out w1.heap.size M
  clear HPutT
  generalize w1.heap.size = B at *
  generalize hMe : w2.heap.size = M at *
  have HPutT : Hid _ := HPutT0.out B M
  have HPutM : Hid _ := HPutM0.out B M
  have HRemT : Hid _ := HRemT0.out B M
  have HRemM : Hid _ := HRemM0.out B M
  clear HT HN g1 g2 hT0 hT1 hM0 gM hb0 HPutT0 HPutM0 HRemT0 HRemM0
  go_wp2
  go_loopw [6, 7] (fun n i wr => ∃ (k N : Nat) (fs : Fs) (o : Option Nat) (v : Value), k ≤ l.length ∧ N ≤ 10000 ∧ n = .int .i64 N ∧ i = .int .i64 k ∧ Hid (Both B wr B M fs o v) ∧ Below w.heap.size w wr) (fun _ i _ => l.length - (intOf i).toNat)
  case atStart => exact ⟨0, 0, [], none, _, by omega, by omega, rfl, rfl, HB0, G2⟩
  case round =>
    obtain ⟨k, N, fs, o, v, hk, hN, rfl, rfl, HBt, hG⟩ := hrel
    by_cases hlt : k < l.length
    · obtain ⟨ab, ao, rfl, hab, hcell⟩ := hA (by intro e; rw [e] at hlt; simp at hlt)
      obtain ⟨c1, c2, c3⟩ := hcell k hlt
      obtain ⟨s1, s2⟩ := hsz _ (List.getElem_mem hlt)
      have d1 := (hG.cell (p := ⟨ab, ao + k * 3, none⟩) hab).trans c1
      have d2 := (hG.cell (p := ⟨ab, ao + k * 3 + 1, none⟩) hab).trans c2
      have d3 := (hG.cell (p := ⟨ab, ao + k * 3 + 2, none⟩) hab).trans c3
      have zk : (k : Int) < (l.length : Int) := by omega
      have zk0 : (0 : Int) ≤ (k : Int) := by omega
      have zN : (N : Int) ≤ 10000 := by omega
      have zN0 : (0 : Int) ≤ (N : Int) := by omega
      clear hcell c1 c2 c3 hA HB0 G2 HText
      generalize l[k].1 = kd at *
      generalize l[k].2.1 = q at *
      generalize l[k].2.2 = b at *
      have zb : (b.length : Int) ≤ 140737488355328 := by omega
      have zq : (q.length : Int) ≤ 140737488355328 := by omega
      have gA : Below wr.heap.size wr (wr.alloc (.cells #[.string (ba kd), .string (ba q), .string (ba b)] 37)) := (Below.refl _ wr).alloc (Nat.le_refl _) _
      have hkA := (MapKept.heap_alloc wr (.cells #[.string (ba kd), .string (ba q), .string (ba b)] 37)).1
      rcases Nat.lt_or_ge 100 q.length with hq | hq
      · have zq' : (100 : Int) < (q.length : Int) := by omega
        clear HPutT HPutM HRemT HRemM HC HGlobN HGlobY HMoN HMoA HMo HGet HSame
        go_wp2
        go_ret
        exact ⟨rfl, hG.trans (gA.mono hG.size)⟩
      · have zq' : (q.length : Int) ≤ 100 := by omega
        rcases Nat.lt_or_ge 10000 (N + b.length) with hbN | hbN
        · have zb' : (10000 : Int) < (N : Int) + (b.length : Int) := by omega
          clear HPutT HPutM HRemT HRemM HC HGlobN HGlobY HMoN HMoA HMo HGet HSame
          go_wp2
          go_ret
          exact ⟨rfl, hG.trans (gA.mono hG.size)⟩
        · have zb' : (N : Int) + (b.length : Int) ≤ 10000 := by omega
          have cA0 := cell_of_row hkA (j := 0) rfl
          have cA1 := cell_of_row hkA (j := 1) rfl
          have cA2 := cell_of_row hkA (j := 2) rfl
          have GA := hG.trans (gA.mono hG.size)
          have hbA := HBt.out.below gA
          have hBA : B ≤ (wr.alloc (.cells #[.string (ba kd), .string (ba q), .string (ba b)] 37)).heap.size := by have := HBt.out.t.lt; have := gA.size; omega
          have nt : ¬ tS B o wr.heap.size := fun e => e.elim (fun e => by have := HBt.out.t.lt; omega) (fun e => by have := HBt.out.t.map_lt e; omega)
          have nm : ¬ mS M v wr.heap.size := fun e => e.elim (fun e => by have := HBt.out.m.lt; omega) (fun e => by have := HBt.out.m.row_lt e; omega)
          by_cases hkd : kd = [112, 117, 116]
          · have hkd' : (kd == [112, 117, 116]) = true := by simpa using hkd
            clear hkd
            have HP1 : Hid (∀ W, Below (wr.alloc (.cells #[.string (ba kd), .string (ba q), .string (ba b)] 37)).heap.size (wr.alloc (.cells #[.string (ba kd), .string (ba q), .string (ba b)] 37)) W → Calls Tryz.prog 17 #[Ptr B, .string (ba q), .string (ba b)] W fun e w' => e = .returned (erOf es (Tf.putCode pathB fs q b)) ∧ ∃ o', Half B W w' B M fs (Tf.putF pathB fs q b) o o' v ∧ w'.cell? ⟨wr.heap.size, 1, none⟩ = some (.string (ba q)) ∧ w'.cell? ⟨wr.heap.size, 2, none⟩ = some (.string (ba b)) ∧ Below B (wr.alloc (.cells #[.string (ba kd), .string (ba q), .string (ba b)] 37)) w') := fun W hW =>
              (HPutT.out fs o v W q b (GA.trans (hW.mono GA.size)) (hbA.below hW) (by omega)).mono fun e w' ⟨h1, o', h2, k1, g⟩ => ⟨h1, o', h2, k1.cell (cell_below' cA1 hW) nt, k1.cell (cell_below' cA2 hW) nt, (hW.mono hBA).trans g⟩
            have HP2 : Hid (∀ W W1 o', Below (wr.alloc (.cells #[.string (ba kd), .string (ba q), .string (ba b)] 37)).heap.size (wr.alloc (.cells #[.string (ba kd), .string (ba q), .string (ba b)] 37)) W → Half B W W1 B M fs (Tf.putF pathB fs q b) o o' v → W1.cell? ⟨wr.heap.size, 1, none⟩ = some (.string (ba q)) → W1.cell? ⟨wr.heap.size, 2, none⟩ = some (.string (ba b)) → Calls Tryz.prog 20 #[Ptr M, .string (ba q), .string (ba b)] W1 fun e w' => e = .returned (.int .i64 ((Tf.putCode pathB fs q b : Nat) : Int)) ∧ ∃ v', Both B w' B M (Tf.putF pathB fs q b) o' v' ∧ w'.cell? ⟨wr.heap.size, 1, none⟩ = some (.string (ba q)) ∧ w'.cell? ⟨wr.heap.size, 2, none⟩ = some (.string (ba b)) ∧ Below B W1 w') := fun W W1 o' hW hH i1 i2 =>
              (HPutM.out fs o v o' W W1 q b (hbA.below hW) hH (by omega)).mono fun e w' ⟨h1, v', h2, k1, g⟩ => ⟨h1, v', h2, k1.cell i1 nm, k1.cell i2 nm, g⟩
            have HC1 := fun W hW => HC.out (Tf.putCode pathB fs q b) W (putCode_er _ _ _) hW
            have HC1' : Hid (∀ W, Below w.heap.size w W → Calls Tryz.prog 12 #[erOf es (Tf.putCode pathB fs q b), .int .i64 ((Tf.putCode pathB fs q b : Nat) : Int)] W fun e w' => e = .returned (.bool true) ∧ Below W.heap.size W w') := HC1
            clear HC HC1 HPutT HPutM HRemT HRemM HGlobN HGlobY HMoN HMoA HMo HSame
            generalize erOf es (Tf.putCode pathB fs q b) = ev at *
            generalize ((Tf.putCode pathB fs q b : Nat) : Int) = pc at *
            generalize Tf.putF pathB fs q b = FS at *
            go_wp2
            go_region_held3 (fun w' => w'.cell? ⟨wr.heap.size, 1, none⟩ = some (.string (ba q)) ∧ w'.cell? ⟨wr.heap.size, 2, none⟩ = some (.string (ba b))) (first | go_keep | fail)
              (first | (go_at_call 17; refine (HP1.out _ (by exact (Below.refl _ _).drew)).mono ?_; rintro e w3 ⟨rfl, o', hH, e1, e2, g3⟩)
                     | (go_at_call 20; refine (HP2.out _ w3 o' (by exact (Below.refl _ _).drew) hH e1 e2).mono ?_; rintro e w4 ⟨rfl, v', hb, f1, f2, g4⟩)
                     | (go_at_call 12; refine (HC1'.out w4 (GA.trans ((g3.trans g4).mono hB))).mono ?_; rintro e w5 ⟨rfl, g5⟩; have x1 := cell_below' f1 g5; have x2 := cell_below' f2 g5)
                     | fail)
            all_goals
              have hq1 := cell_below' f1 g5
              have G := (GA.trans ((g3.trans g4).mono hB)).trans (g5.mono (GA.trans ((g3.trans g4).mono hB)).size)
              have hb := hb.below g5
              have HGt := HGet.out () () () () q hb (by omega)
              clear HGet
              go_wp2_with fail
              refine HGt.mono ?_
              rintro e W2 ⟨rfl, gW2⟩
              have hb2 := hb.below gW2
              have hq2 := cell_below' hq1 gW2
              have G2 := G.trans (gW2.mono G.size)
              have HFd := rFind_calls hb2.m (by have := hb2.well.few; omega) q
              clear hb hq1 G gW2 HGt
              go_wp2_with fail
              refine HFd.mono ?_
              rintro e W3 ⟨hres, rfl⟩
              clear HFd
              rcases hres with ⟨kk, hkk, rfl, hpq⟩ | ⟨hno, rfl⟩
              · obtain ⟨hhas, hget⟩ := found_at hb2.well.rises hkk hpq
                have hMc := hb2.m.cell
                obtain ⟨pa, cap', hv', hcap', hin⟩ := FRow.of_owns hb2.m.row
                rw [hv'] at hMc
                obtain ⟨g, cur, rfl, hg, hcur⟩ := hin (by intro e; rw [e] at hkk; simp at hkk)
                have d2 := cell_of_row hg (hcur kk hkk).2
                rw [hhas, hget]
                have hfl := hb2.well.few
                have z1 : (0 : Int) ≤ (kk : Int) := by omega
                have z2 : (kk : Int) < (FS.length : Int) := by omega
                have z3 : (FS.length : Int) ≤ 60 := by omega
                have HB2 := hidden hb2
                clear hb2 hin hcur hg hhas hget hpq hv'
                generalize FS[kk].2 = y at *
                go_wp2
                go_roundw
                case rel => exact ⟨k + 1, N + b.length, _, _, _, by omega, hbN, by go_num, by go_num, HB2, G2⟩
                case measure => simp [intOf]; omega
              · have hget := get_no hno
                rw [hno, hget]
                have HB2 := hidden hb2
                clear hb2 hget hno
                go_wp2
                go_roundw
                case rel => exact ⟨k + 1, N + b.length, _, _, _, by omega, hbN, by go_num, by go_num, HB2, G2⟩
                case measure => simp [intOf]; omega
          · have hkd' : (kd == [112, 117, 116]) = false := by simpa using hkd
            by_cases hkr : kd = [114, 101, 109, 111, 118, 101]
            · have hkr' : (kd == [114, 101, 109, 111, 118, 101]) = true := by simpa using hkr
              clear hkr
              have HP1 : Hid (∀ W, Below (wr.alloc (.cells #[.string (ba kd), .string (ba q), .string (ba b)] 37)).heap.size (wr.alloc (.cells #[.string (ba kd), .string (ba q), .string (ba b)] 37)) W → Calls Tryz.prog 16 #[Ptr B, .string (ba q)] W fun e w' => e = .returned (erOf es (if Tf.hasP fs q then 0 else 6)) ∧ ∃ o', Half B W w' B M fs (Tf.del fs q) o o' v ∧ w'.cell? ⟨wr.heap.size, 1, none⟩ = some (.string (ba q)) ∧ Below B (wr.alloc (.cells #[.string (ba kd), .string (ba q), .string (ba b)] 37)) w') := fun W hW =>
                (HRemT.out fs o v W q (GA.trans (hW.mono GA.size)) (hbA.below hW) (by omega)).mono fun e w' ⟨h1, o', h2, k1, g⟩ => ⟨h1, o', h2, k1.cell (cell_below' cA1 hW) nt, (hW.mono hBA).trans g⟩
              have HP2 : Hid (∀ W W1 o', Below (wr.alloc (.cells #[.string (ba kd), .string (ba q), .string (ba b)] 37)).heap.size (wr.alloc (.cells #[.string (ba kd), .string (ba q), .string (ba b)] 37)) W → Half B W W1 B M fs (Tf.del fs q) o o' v → W1.cell? ⟨wr.heap.size, 1, none⟩ = some (.string (ba q)) → Calls Tryz.prog 21 #[Ptr M, .string (ba q)] W1 fun e w' => e = .returned (.int .i64 ((if Tf.hasP fs q then 0 else 6 : Nat) : Int)) ∧ ∃ v', Both B w' B M (Tf.del fs q) o' v' ∧ w'.cell? ⟨wr.heap.size, 1, none⟩ = some (.string (ba q)) ∧ Below B W1 w') := fun W W1 o' hW hH i1 =>
                (HRemM.out fs o v o' W W1 q (hbA.below hW) hH (by omega)).mono fun e w' ⟨h1, v', h2, k1, g⟩ => ⟨h1, v', h2, k1.cell i1 nm, g⟩
              have HC1 := fun W hW => HC.out (if Tf.hasP fs q then 0 else 6) W (remCode_er _ _) hW
              have HC1' : Hid (∀ W, Below w.heap.size w W → Calls Tryz.prog 12 #[erOf es (if Tf.hasP fs q then 0 else 6), .int .i64 ((if Tf.hasP fs q then 0 else 6 : Nat) : Int)] W fun e w' => e = .returned (.bool true) ∧ Below W.heap.size W w') := HC1
              clear HC HC1 HRemT HRemM HPutT HPutM HGlobN HGlobY HMoN HMoA HMo HSame
              generalize erOf es (if Tf.hasP fs q then 0 else 6) = ev at *
              generalize ((if Tf.hasP fs q then 0 else 6 : Nat) : Int) = pc at *
              generalize Tf.del fs q = FS at *
              go_wp2
              go_region_held3 (fun w' => w'.cell? ⟨wr.heap.size, 1, none⟩ = some (.string (ba q))) (first | go_keep | fail)
                (first | (go_at_call 16; refine (HP1.out _ (by exact (Below.refl _ _).drew)).mono ?_; rintro e w3 ⟨rfl, o', hH, e1, g3⟩)
                       | (go_at_call 21; refine (HP2.out _ w3 o' (by exact (Below.refl _ _).drew) hH e1).mono ?_; rintro e w4 ⟨rfl, v', hb, f1, g4⟩)
                       | (go_at_call 12; refine (HC1'.out w4 (GA.trans ((g3.trans g4).mono hB))).mono ?_; rintro e w5 ⟨rfl, g5⟩; have x1 := cell_below' f1 g5)
                       | fail)
              all_goals
                have hq1 := cell_below' f1 g5
                have G := (GA.trans ((g3.trans g4).mono hB)).trans (g5.mono (GA.trans ((g3.trans g4).mono hB)).size)
                have hb := hb.below g5
                have HGt := HGet.out () () () () q hb (by omega)
                clear HGet
                go_wp2_with fail
                refine HGt.mono ?_
                rintro e W2 ⟨rfl, gW2⟩
                have hb2 := hb.below gW2
                have hq2 := cell_below' hq1 gW2
                have G2 := G.trans (gW2.mono G.size)
                have HFd := rFind_calls hb2.m (by have := hb2.well.few; omega) q
                clear hb hq1 G gW2 HGt
                go_wp2_with fail
                refine HFd.mono ?_
                rintro e W3 ⟨hres, rfl⟩
                clear HFd
                rcases hres with ⟨kk, hkk, rfl, hpq⟩ | ⟨hno, rfl⟩
                · obtain ⟨hhas, hget⟩ := found_at hb2.well.rises hkk hpq
                  have hMc := hb2.m.cell
                  obtain ⟨pa, cap', hv', hcap', hin⟩ := FRow.of_owns hb2.m.row
                  rw [hv'] at hMc
                  obtain ⟨g, cur, rfl, hg, hcur⟩ := hin (by intro e; rw [e] at hkk; simp at hkk)
                  have d2 := cell_of_row hg (hcur kk hkk).2
                  rw [hhas, hget]
                  have hfl := hb2.well.few
                  have z1 : (0 : Int) ≤ (kk : Int) := by omega
                  have z2 : (kk : Int) < (FS.length : Int) := by omega
                  have z3 : (FS.length : Int) ≤ 60 := by omega
                  have HB2 := hidden hb2
                  clear hb2 hin hcur hg hhas hget hpq hv'
                  generalize FS[kk].2 = y at *
                  go_wp2
                  go_roundw
                  case rel => exact ⟨k + 1, N + b.length, _, _, _, by omega, hbN, by go_num, by go_num, HB2, G2⟩
                  case measure => simp [intOf]; omega
                · have hget := get_no hno
                  rw [hno, hget]
                  have HB2 := hidden hb2
                  clear hb2 hget hno
                  go_wp2
                  go_roundw
                  case rel => exact ⟨k + 1, N + b.length, _, _, _, by omega, hbN, by go_num, by go_num, HB2, G2⟩
                  case measure => simp [intOf]; omega
            · have hkr' : (kd == [114, 101, 109, 111, 118, 101]) = false := by simpa using hkr
              clear HPutT HPutM HRemT HRemM
              cases hok : okR true q with
              | false =>
                have H1 := HGlobN.out B q (wr.alloc (.cells #[.string (ba kd), .string (ba q), .string (ba b)] 37)) (by omega) hok GA
                have H2 : Hid (∀ W, Calls Tryz.prog 23 #[.string (ba q), .string (ba [97])] W fun e w' => e = .returned (.tuple #[.bool false, .int .i64 4]) ∧ Below W.heap.size W w') := fun W => HMoN.out q W (by omega) hok
                have HC4 : Hid (∀ W, Below w.heap.size w W → Calls Tryz.prog 12 #[erOf es 4, .int .i64 4] W fun e w' => e = .returned (.bool true) ∧ Below W.heap.size W w') := fun W hW => HC.out 4 W (.inr ⟨3, by omega, rfl⟩) hW
                have HS0 : Hid (∀ W, Calls Tryz.prog 18 #[.slice none 0 0, .slice none 0 0] W fun e w' => e = .returned (.bool true) ∧ Below W.heap.size W w') := fun W =>
                  HSame.out _ _ [] W ⟨none, 0, rfl, Nat.le_refl _, fun h => absurd rfl h⟩ ⟨none, 0, rfl, Nat.le_refl _, fun h => absurd rfl h⟩ (by simp)
                clear HC HGlobN HGlobY HMoN HMoA HMo HSame hok
                generalize erOf es 4 = ev at *
                go_wp2_with fail
                refine H1.mono ?_
                rintro e w3 ⟨rfl, g3⟩
                have q3 := cell_below' cA1 g3
                have b3 := hbA.below g3
                have G3 := GA.trans (g3.mono GA.size)
                go_wp2_with fail
                refine (H2.out w3).mono ?_
                rintro e w4 ⟨rfl, g4⟩
                have q4 := cell_below' q3 g4
                have b4 := b3.below g4
                have G4 := G3.trans (g4.mono G3.size)
                have hMc := b4.m.cell
                obtain ⟨pa, cap', hv, hcap', _⟩ := FRow.of_owns b4.m.row
                rw [hv] at hMc
                clear H1 H2 q3 b3 g3 g4 G3 hbA gA hkA cA0 cA1 cA2 hBA nt nm HBt d1 d2 d3 hv
                go_wp2
                refine wp_loop_rounds 1 ?_
                rw [rounds_succ]
                rcases Nat.eq_zero_or_pos fs.length with h0 | h0
                · have z0 : ¬ (0 : Int) < (fs.length : Int) := by omega
                  go_wp2_with fail
                  refine (HC4.out w4 G4).mono ?_
                  rintro e w5 ⟨rfl, g5⟩
                  have q5 := cell_below' q4 g5
                  have b5 := b4.below g5
                  have G5 := G4.trans (g5.mono G4.size)
                  go_wp2_with fail
                  refine (HS0.out w5).mono ?_
                  rintro e w6 ⟨rfl, g6⟩
                  have hq1 := cell_below' q5 g6
                  have hb := b5.below g6
                  have G := G5.trans (g6.mono G5.size)
                  clear q4 q5 b4 b5 G4 G5 g5 g6 HC4 HS0 hMc
                  have HGt := HGet.out () () () () q hb (by omega)
                  clear HGet
                  go_wp2_with fail
                  refine HGt.mono ?_
                  rintro e W2 ⟨rfl, gW2⟩
                  have hb2 := hb.below gW2
                  have hq2 := cell_below' hq1 gW2
                  have G2 := G.trans (gW2.mono G.size)
                  have HFd := rFind_calls hb2.m (by have := hb2.well.few; omega) q
                  clear hb hq1 G gW2 HGt
                  go_wp2_with fail
                  refine HFd.mono ?_
                  rintro e W3 ⟨hres, rfl⟩
                  clear HFd
                  rcases hres with ⟨kk, hkk, rfl, hpq⟩ | ⟨hno, rfl⟩
                  · exfalso; omega
                  · have hget := get_no hno
                    rw [hno, hget]
                    have HB2 := hidden hb2
                    clear hb2 hget hno
                    go_wp2
                    go_roundw
                    case rel => exact ⟨k + 1, N + b.length, _, _, _, by omega, hbN, by go_num, by go_num, HB2, G2⟩
                    case measure => simp [intOf]; omega
                · have z0 : (0 : Int) < (fs.length : Int) := by omega
                  go_wp2_with fail
                  refine (HC4.out w4 G4).mono ?_
                  rintro e w5 ⟨rfl, g5⟩
                  have q5 := cell_below' q4 g5
                  have b5 := b4.below g5
                  have G5 := G4.trans (g5.mono G4.size)
                  go_wp2_with fail
                  refine (HS0.out w5).mono ?_
                  rintro e w6 ⟨rfl, g6⟩
                  have hq1 := cell_below' q5 g6
                  have hb := b5.below g6
                  have G := G5.trans (g6.mono G5.size)
                  clear q4 q5 b4 b5 G4 G5 g5 g6 HC4 HS0 hMc
                  have HGt := HGet.out () () () () q hb (by omega)
                  clear HGet
                  go_wp2_with fail
                  refine HGt.mono ?_
                  rintro e W2 ⟨rfl, gW2⟩
                  have hb2 := hb.below gW2
                  have hq2 := cell_below' hq1 gW2
                  have G2 := G.trans (gW2.mono G.size)
                  have HFd := rFind_calls hb2.m (by have := hb2.well.few; omega) q
                  clear hb hq1 G gW2 HGt
                  go_wp2_with fail
                  refine HFd.mono ?_
                  rintro e W3 ⟨hres, rfl⟩
                  clear HFd
                  rcases hres with ⟨kk, hkk, rfl, hpq⟩ | ⟨hno, rfl⟩
                  · obtain ⟨hhas, hget⟩ := found_at hb2.well.rises hkk hpq
                    have hMc := hb2.m.cell
                    obtain ⟨pa, cap', hv', hcap', hin⟩ := FRow.of_owns hb2.m.row
                    rw [hv'] at hMc
                    obtain ⟨g, cur, rfl, hg, hcur⟩ := hin (by intro e; rw [e] at hkk; simp at hkk)
                    have d2 := cell_of_row hg (hcur kk hkk).2
                    rw [hhas, hget]
                    have hfl := hb2.well.few
                    have z1 : (0 : Int) ≤ (kk : Int) := by omega
                    have z2 : (kk : Int) < (fs.length : Int) := by omega
                    have z3 : (fs.length : Int) ≤ 60 := by omega
                    have HB2 := hidden hb2
                    clear hb2 hin hcur hg hhas hget hpq hv'
                    generalize fs[kk].2 = y at *
                    go_wp2
                    go_roundw
                    case rel => exact ⟨k + 1, N + b.length, _, _, _, by omega, hbN, by go_num, by go_num, HB2, G2⟩
                    case measure => simp [intOf]; omega
                  · have hget := get_no hno
                    rw [hno, hget]
                    have HB2 := hidden hb2
                    clear hb2 hget hno
                    go_wp2
                    go_roundw
                    case rel => exact ⟨k + 1, N + b.length, _, _, _, by omega, hbN, by go_num, by go_num, HB2, G2⟩
                    case measure => simp [intOf]; omega
              | true =>
                have H1 := HGlobY.out B B fs o q (wr.alloc (.cells #[.string (ba kd), .string (ba q), .string (ba b)] 37)) hbA.t hbA.well (by omega) hok GA
                have H2 : Hid (∀ W, Calls Tryz.prog 23 #[.string (ba q), .string (ba [97])] W fun e w' => (∃ x, e = .returned (.tuple #[.bool x, .int .i64 0])) ∧ Below W.heap.size W w') := fun W => HMoA.out q W (by omega) hok
                have H3 : Hid (∀ k (hk : k < fs.length) W, Calls Tryz.prog 23 #[.string (ba q), .string (ba fs[k].1)] W fun e w' => e = .returned (.tuple #[.bool (fitL 20 (Kf.parts q) (Kf.parts fs[k].1)), .int .i64 0]) ∧ Below W.heap.size W w') := fun k hk W => HMo.out fs hbA.well q (by omega) hok k hk W
                have HC0 : Hid (∀ W, Below w.heap.size w W → Calls Tryz.prog 12 #[.nilIface, .int .i64 0] W fun e w' => e = .returned (.bool true) ∧ Below W.heap.size W w') := fun W hW => HC.out 0 W (.inl rfl) hW
                clear HC HGlobN HGlobY HMoN HMoA HMo hok
                go_wp2_with fail
                refine H1.mono ?_
                rintro e w3 ⟨x, rfl, r3, g3⟩
                have q3 := cell_below' cA1 g3
                have b3 := hbA.below g3
                have G3 := GA.trans (g3.mono GA.size)
                go_wp2_with fail
                refine (H2.out w3).mono ?_
                rintro e w4 ⟨⟨y, rfl⟩, g4⟩
                have q4 := cell_below' q3 g4
                have b4 := b3.below g4
                have r4 := r3.below g4
                have G4 := G3.trans (g4.mono G3.size)
                have hMc := b4.m.cell
                obtain ⟨pa, cap', hv, hcap', hin⟩ := FRow.of_owns b4.m.row
                rw [hv] at hMc
                have HB4 := hidden b4
                have hfl : (fs.length : Int) ≤ 60 := by have := b4.well.few; omega
                have hM4 := b4.m.lt
                have hA4 := lt_of_cell q4
                clear H1 H2 q3 b3 b4 r3 g3 g4 G3 hbA gA hkA cA0 cA1 cA2 hBA nt nm HBt d1 d2 d3 hv GA hG
                generalize wr.heap.size = A at *
                go_wp2
                go_loopw [13, 14] (fun out i wx => ∃ kk : Nat, kk ≤ fs.length ∧ i = .int .i64 kk ∧ wx.ownsRow w4.heap.size 9 1 out (fits q ((fs.map (·.1)).take kk)).length ((fits q ((fs.map (·.1)).take kk)).map sv) ∧ Below w4.heap.size w4 wx) (fun _ i _ => fs.length - (intOf i).toNat)
                case atStart => exact ⟨0, Nat.zero_le _, rfl, World.ownsRow_nil _ _ _ _, Below.refl _ _⟩
                case round =>
                  obtain ⟨kk, hkk, rfl, hown, hBx⟩ := hrel
                  have m0 := cell_below' hMc hBx
                  have q0 := cell_below' q4 hBx
                  have hszx := hBx.size
                  by_cases hl2 : kk < fs.length
                  · obtain ⟨g, cur, rfl, hg, hcur⟩ := hin (by intro e; rw [e] at hl2; simp at hl2)
                    have p0 := cell_below' (cell_of_row hg (hcur kk hl2).1) hBx
                    have HM : Hid (∀ W, Below wr.heap.size wr W → Calls Tryz.prog 23 #[.string (ba q), .string (ba fs[kk].1)] W fun e w' => e = .returned (.tuple #[.bool (fitL 20 (Kf.parts q) (Kf.parts fs[kk].1)), .int .i64 0]) ∧ Below wr.heap.size wr w') := fun W hW => (H3.out kk hl2 W).mono fun e w' ⟨h1, h2⟩ => ⟨h1, hW.trans (h2.mono hW.size)⟩
                    have HF : Hid (fits q ((fs.map (·.1)).take (kk + 1)) = fits q ((fs.map (·.1)).take kk) ++ if fitL 20 (Kf.parts q) (Kf.parts fs[kk].1) then [fs[kk].1] else []) := by
                      have := fits_take (p := q) (l := fs.map (·.1)) (k := kk) (by simpa using hl2)
                      exact hidden (by simpa using this)
                    have hfl2 : (fits q ((fs.map (·.1)).take kk)).length ≤ 60 := by
                      have h1 := fits_len q ((fs.map (·.1)).take kk)
                      rw [List.length_take] at h1
                      omega
                    have z1 : (kk : Int) < (fs.length : Int) := by omega
                    have z0 : (0 : Int) ≤ (kk : Int) := by omega
                    have q8 : IntKind.i64.wrap (kk : Int) = (kk : Int) := by rw [IntKind.wrap_i64]; omega
                    clear hin hcur hg H3 HC0 HSame HGet
                    generalize fits q ((fs.map (·.1)).take kk) = acc at *
                    generalize fs[kk].1 = y1 at *
                    cases hf : fitL 20 (Kf.parts q) (Kf.parts y1) with
                    | true =>
                      rw [hf] at HM HF
                      go_wp2
                      go_region_held3 (fun w' => w'.cell? ⟨A, 1, none⟩ = some (.string (ba q)) ∧ w'.cell? ⟨M, 0, none⟩ = some (.slice (some ⟨g, 0, none⟩) fs.length cap') ∧ w'.cell? ⟨g, kk * 2, none⟩ = some (.string (ba y1))) (first | go_keep | fail)
                        (first | (go_at_call 23; refine (HM.out _ (by exact (Below.refl _ _).drew)).mono ?_; rintro e w5 ⟨rfl, g5⟩; have e0 := cell_below' q0 g5; have e1 := cell_below' m0 g5; have e2 := cell_below' p0 g5) | fail)
                      all_goals
                        have hown5 := ownsRow_below hown g5
                        have hsz5 : w4.heap.size ≤ w5.heap.size := Nat.le_trans hszx g5.size
                        go_wp2_with (at_builtin; refine wpList_append_own _ rfl _ _ 41 rfl w4.heap.size 9 i0 (.string ⟨#[]⟩) 1 16 Tryz.underlying41 hi hz0 hz1 hz2 rfl (by decide) _ _ _ rfl (hown5.alloc _) ⟨w5.heap.size, 0, none⟩ 1 1 [.string (ba y1)] rfl rfl (cell_one_new _ _ _) (by simp [Value.oneCell']) (by unfold maxLen; omega) (by omega) (by simp; omega) ?_; intro v' w6 hown' hgrow _)
                        go_wp2
                        go_roundw
                        case rel =>
                          refine ⟨kk + 1, by omega, by go_num, ?_, ((hBx.trans (g5.mono hszx)).alloc hsz5 _).grown hgrow (by simp; omega) (row_low hown5)⟩
                          rw [HF.out]
                          simpa using hown'
                        case measure => simp [intOf]; omega
                    | false =>
                      rw [hf] at HM HF
                      go_wp2
                      go_region_held3 (fun w' => w'.cell? ⟨A, 1, none⟩ = some (.string (ba q)) ∧ w'.cell? ⟨M, 0, none⟩ = some (.slice (some ⟨g, 0, none⟩) fs.length cap') ∧ w'.cell? ⟨g, kk * 2, none⟩ = some (.string (ba y1))) (first | go_keep | fail)
                        (first | (go_at_call 23; refine (HM.out _ (by exact (Below.refl _ _).drew)).mono ?_; rintro e w5 ⟨rfl, g5⟩; have e0 := cell_below' q0 g5; have e1 := cell_below' m0 g5; have e2 := cell_below' p0 g5) | fail)
                      all_goals
                        go_wp2
                        go_roundw
                        case rel =>
                          refine ⟨kk + 1, by omega, by go_num, ?_, hBx.trans (g5.mono hszx)⟩
                          rw [HF.out]
                          simpa using ownsRow_below hown g5
                        case measure => simp [intOf]; omega
                  · have z1 : (fs.length : Int) ≤ (kk : Int) := by omega
                    obtain rfl : kk = fs.length := by omega
                    have hrw : TRow wr u13 (fits q (fs.map (·.1))) := by
                      rw [show (fs.map (·.1)).take fs.length = fs.map (·.1) from List.take_of_length_le (by simp)] at hown
                      exact TRow.of_owns hown
                    have r5 := r4.below hBx
                    have b5 := HB4.out.below hBx
                    have G5 := G4.trans (hBx.mono G4.size)
                    have hlf : (fits q (fs.map (·.1))).length ≤ 1000 := by have := fits_len q (fs.map (·.1)); have := b5.well.few; simp at *; omega
                    clear hown hin H3 hMc q4 r4 HB4 G4 hBx
                    go_wp2_with fail
                    refine (HC0.out wr G5).mono ?_
                    rintro e w6 ⟨rfl, g6⟩
                    have q6 := cell_below' q0 g6
                    have b6 := b5.below g6
                    have G6 := G5.trans (g6.mono G5.size)
                    have r6 := r5.below g6
                    have s6 := hrw.below g6
                    clear q0 b5 G5 r5 hrw g6 m0
                    go_wp2_with fail
                    refine (HSame.out _ _ _ w6 r6 s6 hlf).mono ?_
                    rintro e w7 ⟨rfl, g7⟩
                    have hq1 := cell_below' q6 g7
                    have hb := b6.below g7
                    have G := G6.trans (g7.mono G6.size)
                    clear q6 b6 G6 g7 HC0 HSame r6 s6
                    have HGt := HGet.out () () () () q hb (by omega)
                    clear HGet
                    go_wp2_with fail
                    refine HGt.mono ?_
                    rintro e W2 ⟨rfl, gW2⟩
                    have hb2 := hb.below gW2
                    have hq2 := cell_below' hq1 gW2
                    have G2 := G.trans (gW2.mono G.size)
                    have HFd := rFind_calls hb2.m (by have := hb2.well.few; omega) q
                    clear hb hq1 G gW2 HGt
                    go_wp2_with fail
                    refine HFd.mono ?_
                    rintro e W3 ⟨hres, rfl⟩
                    clear HFd
                    rcases hres with ⟨kk, hkk, rfl, hpq⟩ | ⟨hno, rfl⟩
                    · obtain ⟨hhas, hget⟩ := found_at hb2.well.rises hkk hpq
                      have hMc := hb2.m.cell
                      obtain ⟨pa, cap', hv', hcap', hin⟩ := FRow.of_owns hb2.m.row
                      rw [hv'] at hMc
                      obtain ⟨g, cur, rfl, hg, hcur⟩ := hin (by intro e; rw [e] at hkk; simp at hkk)
                      have d2 := cell_of_row hg (hcur kk hkk).2
                      rw [hhas, hget]
                      have hfl := hb2.well.few
                      have z1 : (0 : Int) ≤ (kk : Int) := by omega
                      have z2 : (kk : Int) < (fs.length : Int) := by omega
                      have z3 : (fs.length : Int) ≤ 60 := by omega
                      have HB2 := hidden hb2
                      clear hb2 hin hcur hg hhas hget hpq hv'
                      generalize fs[kk].2 = y at *
                      go_wp2
                      go_roundw
                      case rel => exact ⟨k + 1, N + b.length, _, _, _, by omega, hbN, by go_num, by go_num, HB2, G2⟩
                      case measure => simp [intOf]; omega
                    · have hget := get_no hno
                      rw [hno, hget]
                      have HB2 := hidden hb2
                      clear hb2 hget hno
                      go_wp2
                      go_roundw
                      case rel => exact ⟨k + 1, N + b.length, _, _, _, by omega, hbN, by go_num, by go_num, HB2, G2⟩
                      case measure => simp [intOf]; omega
    · have zk : (l.length : Int) ≤ (k : Int) := by omega
      clear HPutT HPutM HRemT HRemM HC HGlobN HGlobY HMoN HMoA HMo HGet hA HB0 G2
      have hb := HBt.out
      have hw := hb.well
      have H1 := HText.out B B fs o wr hG hb.t hw
      go_wp2_with fail
      refine H1.mono ?_
      rintro e w3 ⟨rfl, g3⟩
      have b3 := hb.below g3
      have G3 := hG.trans (g3.mono hG.size)
      clear H1 hb hG g3
      go_wp2_with fail
      refine (rText_calls b3.m hw).mono ?_
      rintro e w4 ⟨rfl, g4⟩
      have b4 := b3.below g4
      have G4 := G3.trans (g4.mono G3.size)
      clear b3 g4 G3
      generalize Tf.textT fs = tx at *
      go_wp2_with fail
      refine (Paths_well b4.t hw).mono ?_
      rintro e w5 ⟨v5, rfl, r5, g5⟩
      have b5 := b4.below g5
      have G5 := G4.trans (g5.mono G4.size)
      clear b4 g5 G4
      go_wp2_with fail
      refine (rPaths_calls b5.m hw.few).mono ?_
      rintro e w6 ⟨v6, rfl, r6, g6⟩
      have G6 := G5.trans (g6.mono G5.size)
      have r5' := r5.below g6
      clear b5 g6 G5 r5
      go_wp2_with fail
      refine (HSame.out v5 v6 _ w6 r5' r6 (by have := hw.few; simp; omega)).mono ?_
      rintro e w7 ⟨rfl, g7⟩
      go_wp2
      go_ret
      exact ⟨rfl, G6.trans (g7.mono G6.size)⟩
end Go.Proofs.YtigcogfjclohjaaGreatDoor
