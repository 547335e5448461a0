import Derived.Deep.RegionHeld3
import Derived.Test.YtmhipgompplkdaaGreatDoorWT38
import Derived.Test.YtmhipgompplkdaaGreatDoorWT34
import Derived.Test.YtmhipgompplkdaaGreatDoorWT30
import Derived.Test.YtmhipgompplkdaaGreatDoorWT29
import Derived.Test.YtmhipgompplkdaaGreatDoorWT37
import Derived.Test.YtmhipgompplkdaaGreatDoorWT09
import Derived.Test.YtmhipgompplkdaaGreatDoorWT24
namespace Go.Proofs.YtmhipgompplkdaaGreatDoor
open Go.RowKit Go.Shelf Go.Lib
open Tf (Fs)
def FIRow (w : World) (v : Value) (l : Fs) : Prop :=
  ∃ p cap, v = .slice p l.length cap ∧ (l ≠ [] → ∃ g o, p = some ⟨g, o, none⟩ ∧ g < w.heap.size ∧ ∀ j (hj : j < l.length), w.cell? ⟨g, o + j * 2, none⟩ = some (.string (ba l[j].1)) ∧ w.cell? ⟨g, o + j * 2 + 1, none⟩ = some (.string (ba l[j].2)))
theorem FIRow.below {w w' : World} {v : Value} {l : Fs} (h : FIRow w v l) (hb : Below w.heap.size w w') : FIRow w' v l := by
  obtain ⟨p, cap, e, h1⟩ := h
  refine ⟨p, cap, e, fun hl => ?_⟩
  obtain ⟨g, o, e, hg, hc⟩ := h1 hl
  exact ⟨g, o, e, Nat.lt_of_lt_of_le hg hb.size, fun j hj => ⟨cell_below' (hc j hj).1 hb, cell_below' (hc j hj).2 hb⟩⟩
structure ShortF (l : Fs) : Prop where
  few : l.length ≤ 30
  path : ∀ f ∈ l, f.1.length ≤ 100
  bytes : ∀ f ∈ l, f.2.length ≤ 4000
set_option maxRecDepth 100000 in
set_option maxHeartbeats 8000000 in
theorem longFiles_calls {w : World} (v : Value) (l : Fs) (hrow : FIRow w v l) :
    Calls Tryz.prog 57 #[v] w fun e w' => ∃ b, e = .returned (.bool b) ∧ w' = w ∧ (b = true ∨ ShortF l) := by
  obtain ⟨p, cap, rfl, hin⟩ := hrow
  have HI := hid1 hin
  clear hin
  by_cases h30 : 30 < l.length
  · have z : (30 : Int) < (l.length : Int) := by omega
    go_enter Tryz.func57, Tryz.ntmps57
    go_wp2
    go_ret
    exact ⟨true, rfl, rfl, .inl rfl⟩
  · have z : (l.length : Int) ≤ (30 : Int) := by omega
    go_enter Tryz.func57, Tryz.ntmps57
    go_wp2
    go_loopw [3, 4] (fun nv' iv wr => ∃ (k n : Nat), k ≤ l.length ∧ iv = .int .i64 k ∧ nv' = .int .i64 n ∧ n ≤ 4000 ∧ (∀ j (hj : j < l.length), j < k → l[j].1.length ≤ 100 ∧ l[j].2.length ≤ 4000) ∧ w = wr) (fun _ iv _ => l.length - (intOf iv).toNat)
    case atStart => exact ⟨0, 0, Nat.zero_le _, rfl, rfl, Nat.zero_le _, fun j _ h => by omega, rfl⟩
    case round =>
      obtain ⟨k, n, hk, rfl, rfl, hn, hs, rfl⟩ := hrel
      have HS := hid1 hs
      clear hs
      have k0 : (0 : Int) ≤ (k : Int) := by omega
      have zn : (n : Int) ≤ 4000 := by omega
      have zn0 : (0 : Int) ≤ (n : Int) := by omega
      by_cases hlt : k < l.length
      · have k1 : (k : Int) < (l.length : Int) := by omega
        obtain ⟨g, o, rfl, hg, hc⟩ := HI.out (by intro e; rw [e] at hlt; simp at hlt)
        have d0 := (hc k hlt).1
        have d1 := (hc k hlt).2
        have HNx : Hid (l[k].1.length ≤ 100 → l[k].2.length ≤ 4000 → ∀ j (hj : j < l.length), j < k + 1 → l[j].1.length ≤ 100 ∧ l[j].2.length ≤ 4000) := hid1 fun h1 h2 j hj hjk => by
          by_cases e : j = k
          · subst e; exact ⟨h1, h2⟩
          · exact HS.out j hj (by omega)
        clear hc HI HS
        generalize l[k] = y at *
        obtain ⟨y1, y2⟩ := y
        simp only at d0 d1 HNx
        by_cases h1 : 4000 < y2.length
        · have z1 : (4000 : Int) < (y2.length : Int) := by omega
          go_wp2
          go_ret
          exact ⟨true, rfl, rfl, .inl rfl⟩
        · have z1 : (y2.length : Int) ≤ (4000 : Int) := by omega
          by_cases h2 : 100 < y1.length
          · have z2 : (100 : Int) < (y1.length : Int) := by omega
            go_wp2
            go_ret
            exact ⟨true, rfl, rfl, .inl rfl⟩
          · have z2 : (y1.length : Int) ≤ (100 : Int) := by omega
            by_cases h3 : 4000 < n + y2.length
            · have z3 : (4000 : Int) < (n : Int) + (y2.length : Int) := by omega
              go_wp2
              go_ret
              exact ⟨true, rfl, rfl, .inl rfl⟩
            · have z3 : (n : Int) + (y2.length : Int) ≤ (4000 : Int) := by omega
              have HQ := hid1 (HNx.out (by omega) (by omega))
              clear HNx
              go_wp2
              exact ⟨⟨k + 1, n + y2.length, by omega, by go_num, by go_num, by omega, HQ.out, trivial⟩, by simp [intOf]; omega⟩
      · have k1 : (l.length : Int) ≤ (k : Int) := by omega
        have HQ : Hid (ShortF l) := hid1 ⟨by omega, fun f hf => by
          obtain ⟨j, hj, rfl⟩ := List.getElem_of_mem hf
          exact (HS.out j hj (by omega)).1, fun f hf => by
          obtain ⟨j, hj, rfl⟩ := List.getElem_of_mem hf
          exact (HS.out j hj (by omega)).2⟩
        clear HS HI
        go_wp2
        go_ret
        exact ⟨false, rfl, rfl, .inr HQ.out⟩
def Tf.taken (l : Fs) : Fs := l.foldl (fun t f => Tf.putF pathB t f.1 f.2) []
theorem Tf.taken_snoc (l : Fs) (f : List UInt8 × List UInt8) : Tf.taken (l ++ [f]) = Tf.putF pathB (Tf.taken l) f.1 f.2 := by simp [Tf.taken]
theorem Tf.putF_mem {fs : Fs} {p b : List UInt8} {f : List UInt8 × List UInt8} (h : f ∈ Tf.putF pathB fs p b) : f ∈ fs ∨ f = (p, b) := by
  unfold Tf.putF at h
  split at h
  · rcases Tf.mem_put.1 h with h1 | h1
    · exact .inr h1
    · exact .inl h1.1
  · exact .inl h
theorem Tf.taken_mem : ∀ (l : Fs) (f : List UInt8 × List UInt8), f ∈ Tf.taken l → f ∈ l := by
  have key : ∀ (l t : Fs) (f : List UInt8 × List UInt8), f ∈ l.foldl (fun t f => Tf.putF pathB t f.1 f.2) t → f ∈ t ∨ f ∈ l := by
    intro l
    induction l with
    | nil => intro t f h; exact .inl h
    | cons x r ih =>
      intro t f h
      rcases ih _ f h with h1 | h1
      · rcases Tf.putF_mem h1 with h2 | h2
        · exact .inl h2
        · exact .inr (by rw [h2]; simp)
      · exact .inr (List.mem_cons_of_mem _ h1)
  intro l f h
  rcases key l [] f h with h1 | h1
  · cases h1
  · exact h1
theorem Tf.putF_len (fs : Fs) (p b : List UInt8) : (Tf.putF pathB fs p b).length ≤ fs.length + 1 := by
  unfold Tf.putF
  split
  · unfold Tf.put
    rw [Tf.length_ins]
    have := Tf.length_del_le fs p
    omega
  · omega
theorem Tf.taken_len : ∀ (l : Fs), (Tf.taken l).length ≤ l.length := by
  have key : ∀ (l t : Fs), (l.foldl (fun t f => Tf.putF pathB t f.1 f.2) t).length ≤ t.length + l.length := by
    intro l
    induction l with
    | nil => intro t; simp
    | cons x r ih =>
      intro t
      have h1 := ih (Tf.putF pathB t x.1 x.2)
      have h2 := Tf.putF_len t x.1 x.2
      simp only [List.foldl_cons, List.length_cons]
      omega
  intro l
  have := key l []
  simpa [Tf.taken] using this
set_option maxRecDepth 100000 in
set_option maxHeartbeats 16000000 in
theorem fileTree_calls {w : World} {es : Nat → Value} (hE : TErr w es) (v : Value) (l : Fs) (hrow : FIRow w v l) (hs : ShortF l) :
    Calls Tryz.prog 58 #[v] w fun e w' => ∃ T M o u, e = .returned (.tuple #[Ptr T, Ptr M]) ∧ Both w.heap.size w' T M (Tf.taken l) o u ∧ Below w.heap.size w w' := by
  obtain ⟨p, cap, rfl, hin⟩ := hrow
  have HI := hid1 hin
  have HE := hid1 hE
  have HNw := hid1 (New_calls w)
  have HS := hid1 hs
  have hfew := hs.few
  have zl : (l.length : Int) ≤ 30 := by omega
  clear hin hE hs
  go_enter Tryz.func58, Tryz.ntmps58
  go_wp2_with fail
  refine HNw.out.mono ?_
  rintro e w1 ⟨rfl, hT, g1⟩
  have a1 : Below w1.heap.size w1 (w1.alloc (.cells #[.slice none 0 0] 38)) := (Below.refl _ w1).alloc (Nat.le_refl _) _
  have hz1 : w.heap.size < w1.heap.size := hT.lt
  have hT2 := hT.below a1
  have hB0 : Both w.heap.size (w1.alloc (.cells #[.slice none 0 0] 38)) w.heap.size w1.heap.size (Tf.taken []) none (.slice none 0 0) :=
    ⟨hT2, ⟨g1.size, by simp, by simp, World.ownsRow_nil _ _ _ _, by simp [Value.ownBlock], fun _ => rfl⟩, Tf.Well.nil _, by omega, by simp, by simp [Value.ownBlock], fun j e => by cases e⟩
  have G2 := below_then g1 a1
  have HB0 := hid1 (And.intro hB0 G2)
  clear HNw hT g1 a1 hT2 hB0 G2
  go_wp2
  go_loopw [6] (fun iv wr => ∃ (k : Nat) (o : Option Nat) (u : Value), k ≤ l.length ∧ iv = .int .i64 k ∧ Both w.heap.size wr w.heap.size w1.heap.size (Tf.taken (l.take k)) o u ∧ Below w.heap.size w wr) (fun iv _ => l.length - (intOf iv).toNat)
  case atStart => exact ⟨0, none, _, Nat.zero_le _, rfl, HB0.out.1, HB0.out.2⟩
  case round =>
    clear HB0
    obtain ⟨k, o, u, hk, rfl, hBo, hB⟩ := hrel
    have k0 : (0 : Int) ≤ (k : Int) := by omega
    by_cases hlt : k < l.length
    · have k1 : (k : Int) < (l.length : Int) := by omega
      obtain ⟨g, oo, rfl, hg, hc⟩ := HI.out (by intro e; rw [e] at hlt; simp at hlt)
      have d0 := (hB.cell (p := ⟨g, oo + k * 2, none⟩) hg).trans (hc k hlt).1
      have d1 := (hB.cell (p := ⟨g, oo + k * 2 + 1, none⟩) hg).trans (hc k hlt).2
      have HTk : Hid (Tf.taken (l.take (k + 1)) = Tf.putF pathB (Tf.taken (l.take k)) l[k].1 l[k].2) := hid1 (by
        rw [List.take_succ_eq_append_getElem hlt, Tf.taken_snoc])
      have hp := HS.out.path _ (List.getElem_mem hlt)
      have hlen := Tf.taken_len (l.take k)
      rw [List.length_take] at hlen
      have hps : ∀ f ∈ Tf.taken (l.take k), f.1.length ≤ 1000000 := fun f hf => by
        have := HS.out.path f (List.mem_of_mem_take (Tf.taken_mem _ f hf))
        omega
      have HP1 := hid1 (PutK_calls (w := wr.drew) (hBo.below (below_draws (Below.refl _ wr) 1)).t ((HE.out.below hB).below (below_draws (Below.refl _ wr) 1)) hps (by omega) l[k].1 l[k].2 (by omega))
      have HD := hid1 fun (V : World) (gV : Below w.heap.size w V) => And.intro ((gV.cell (p := ⟨g, oo + k * 2, none⟩) hg).trans (hc k hlt).1) ((gV.cell (p := ⟨g, oo + k * 2 + 1, none⟩) hg).trans (hc k hlt).2)
      clear hc
      generalize l[k] = y at *
      obtain ⟨y1, y2⟩ := y
      simp only at d0 d1 HTk HP1 HD hp
      have HBo := hid1 (hBo.below (below_draws (Below.refl _ wr) 1))
      have hB' : Below w.heap.size w wr.drew := hB.drew
      clear hBo
      go_wp2
      go_region_held3 (fun w' => w'.cell? ⟨g, oo + k * 2, none⟩ = some (.string (ba y1)) ∧ w'.cell? ⟨g, oo + k * 2 + 1, none⟩ = some (.string (ba y2))) (first | go_keep | fail)
        (first | (go_at_call 20; refine HP1.out.mono ?_; rintro e w5 ⟨rfl, ⟨o5, hon5, hT5⟩, hb5, hk5⟩; (have G5 := hB'.trans hb5); (have dd := HD.out w5 G5); (have e0 := dd.1); (have e1 := dd.2)) | fail)
      all_goals
        have hh := HBo.out.half hT5 hon5 hk5
        have hdr : Below w5.heap.size w5 w5.drew := below_draws (Below.refl _ w5) 1
        have hh' : Half w.heap.size wr.drew w5.drew w.heap.size w1.heap.size (Tf.taken (l.take k)) (Tf.putF pathB (Tf.taken (l.take k)) y1 y2) o o5 u := ⟨hh.t.below hdr, hh.m.below hdr, hh.on, hh.size⟩
        have HP2 := hid1 (rPutK_calls hh'.m HBo.out.well y1 y2 (by omega))
        have HH := hid1 hh'
        have G5' : Below w.heap.size w w5.drew := G5.drew
        clear hh hh' hT5 hon5 hk5 hb5 hdr
        go_wp2
        go_region_held3 (fun w' => w'.cell? ⟨g, oo + k * 2, none⟩ = some (.string (ba y1)) ∧ w'.cell? ⟨g, oo + k * 2 + 1, none⟩ = some (.string (ba y2))) (first | go_keep | fail)
          (first | (go_at_call 21; refine HP2.out.mono ?_; rintro e w6 ⟨rfl, ⟨u6, hon6, hT6⟩, hb6, hk6⟩; (have G6 := G5'.trans hb6); (have dd6 := HD.out w6 G6); (have x0 := dd6.1); (have x1 := dd6.2)) | fail)
        all_goals
          have hbo := HH.out.both HBo.out hT6 hon6 hk6 (HBo.out.well.putF y1 y2)
          have HB6 := hid1 hbo
          clear hbo hT6 hon6 hk6 hb6
          go_wp2
          exact ⟨⟨k + 1, o5, u6, by omega, by go_num, by rw [HTk.out]; exact HB6.out, G6⟩, by simp [intOf]; omega⟩
    · have k1 : (l.length : Int) ≤ (k : Int) := by omega
      obtain rfl : k = l.length := by omega
      have HQ := hid1 hBo
      rw [List.take_length] at HQ
      clear hBo
      go_wp2
      go_ret2
      exact ⟨_, _, o, u, rfl, HQ.out, hB⟩
end Go.Proofs.YtmhipgompplkdaaGreatDoor
namespace Go.Proofs.YtmhipgompplkdaaGreatDoor
open Go.RowKit Go.Shelf Go.Lib Go.Maps
namespace Bf
def allS (fs : Tf.Fs) (l : List Ru) (t : Tf.Fs) (i : Nat) : Tf.Fs :=
  if (want Af.actO fs l (l.getD i ⟨[], [], [], []⟩).out).2 = 0 then Tf.putF pathB t (l.getD i ⟨[], [], [], []⟩).out (want Af.actO fs l (l.getD i ⟨[], [], [], []⟩).out).1 else t
def allW (fs : Tf.Fs) (l : List Ru) (o : List Nat) : Tf.Fs := o.foldl (allS fs l) fs
theorem allW_snoc (fs : Tf.Fs) (l : List Ru) (o : List Nat) (i : Nat) : allW fs l (o ++ [i]) = allS fs l (allW fs l o) i := by simp [allW]
theorem allS_well {fs t : Tf.Fs} {l : List Ru} (h : Tf.Well pathB t) (i : Nat) : Tf.Well pathB (allS fs l t i) := by
  unfold allS
  split
  · exact h.putF _ _
  · exact h
theorem foldl_well {fs : Tf.Fs} {l : List Ru} : ∀ (o : List Nat) {t : Tf.Fs}, Tf.Well pathB t → Tf.Well pathB (o.foldl (allS fs l) t)
  | [], _, h => h
  | i :: r, _, h => foldl_well r (allS_well h i)
theorem allW_well {fs : Tf.Fs} {l : List Ru} (h : Tf.Well pathB fs) (o : List Nat) : Tf.Well pathB (allW fs l o) := foldl_well o h
theorem foldl_len {fs : Tf.Fs} {l : List Ru} (hS : ∀ x ∈ l, x.Small) : ∀ (o : List Nat) {t : Tf.Fs}, (∀ f ∈ t, f.1.length ≤ 1000) → ∀ f ∈ o.foldl (allS fs l) t, f.1.length ≤ 1000
  | [], _, h => h
  | i :: r, t, h => foldl_len hS r fun f hf => by
    unfold allS at hf
    split at hf
    · rcases Tf.putF_mem hf with h1 | h1
      · exact h f h1
      · rw [h1]
        simp only
        by_cases hi : i < l.length
        · rw [getD_at hi]
          have := (hS _ (List.getElem_mem hi)).out
          omega
        · simp [List.getD_eq_getElem?_getD, List.getElem?_eq_none (Nat.le_of_not_lt hi)]
    · exact h f hf
theorem allW_len {fs : Tf.Fs} {l : List Ru} (hS : ∀ x ∈ l, x.Small) (hf : ∀ f ∈ fs, f.1.length ≤ 1000) (o : List Nat) : ∀ f ∈ allW fs l o, f.1.length ≤ 1000 := foldl_len hS o hf
end Bf
theorem TreeAt.lowM {B : Nat} {w : World} {tb : Nat} {fs : Tf.Fs} {o : Option Nat} (h : TreeAt B w tb fs o) {j : Nat} (e : o = some j) : B ≤ j := by
  subst e
  exact h.isMap.1
set_option maxRecDepth 100000 in
set_option maxHeartbeats 16000000 in
theorem wCopy_calls {W : World} {es : Nat → Value} (hE : TErr W es) {B tb : Nat} {fs : Tf.Fs} {o : Option Nat} (hT : TreeAt B W tb fs o) (hw : Tf.Well pathB fs) (hlen : ∀ f ∈ fs, f.1.length ≤ 1000) :
    Calls Tryz.prog 136 #[Ptr tb] W fun e w' => ∃ cb o', e = .returned (Ptr cb) ∧ TreeAt W.heap.size w' cb fs o' ∧ Below W.heap.size W w' := by
  have HN := hid1 (New_calls W)
  have hfew := hw.few
  have zl : (fs.length : Int) ≤ 60 := by omega
  have HP := hid1 fun (V : World) (g : Below W.heap.size W V) => Paths_calls (hT.below g) hw.rises (by omega)
  have HG := hid1 fun (V : World) (g : Below W.heap.size W V) (k : Nat) (hk : k < fs.length) => Get_calls (hT.below g) fs[k].1 (by have := hlen _ (List.getElem_mem hk); omega)
  have HE := hid1 hE
  have HW := hid1 hw
  have HL := hid1 hlen
  clear hT hE hw hlen
  go_enter Tryz.func136, Tryz.ntmps136
  go_wp2_with fail
  refine HN.out.mono ?_
  rintro e w1 ⟨rfl, hT1, g1⟩
  have HT1 := hid1 hT1
  clear HN hT1
  go_wp2_with fail
  refine (HP.out w1 g1).mono ?_
  rintro e w2 ⟨v, rfl, hrow, g2⟩
  have G2 := below_then g1 g2
  have HT2 := hid1 (HT1.out.below g2)
  have hX := TRow.of_owns hrow
  have hgl : ∀ g, v.ownBlock = some g → w1.heap.size ≤ g ∧ g < w2.heap.size := own_lt hrow
  obtain ⟨p, cap, rfl, hcap, hin⟩ := hX
  simp only [List.length_map] at hin hcap hgl ⊢
  have hz1 := HT1.out.lt
  have HCell : Hid (∀ k (hk : k < fs.length), ∃ g, p = some ⟨g, 0, none⟩ ∧ W.heap.size ≠ g ∧ w2.cell? ⟨g, k, none⟩ = some (.string (ba fs[k].1))) := hid1 fun k hk => by
    obtain ⟨g, cur, rfl, hg, hc⟩ := hin (by intro e; have := congrArg List.length e; simp at this; rw [this] at hk; simp at hk)
    have h1 := hgl g rfl
    refine ⟨g, rfl, by omega, ?_⟩
    have := hc k (by simpa using hk)
    rw [List.getElem_map] at this
    exact cell_of_row hg this
  have hz2 := G2.size
  clear HP HT1 hin hgl hcap hrow
  go_wp2
  go_loopw [12] (fun iv wr => ∃ (k : Nat) (o : Option Nat), k ≤ fs.length ∧ iv = .int .i64 k ∧ TreeAt W.heap.size wr W.heap.size (fs.take k) o ∧ (∀ j, o = some j → w2.heap.size ≤ j) ∧ Only (fun j => j = W.heap.size) w2 wr) (fun iv _ => fs.length - (intOf iv).toNat)
  case atStart => exact ⟨0, none, Nat.zero_le _, rfl, HT2.out, (fun j e => by cases e), ⟨rfl, rfl, rfl, Nat.le_refl _, fun _ _ _ => rfl⟩⟩
  case round =>
    clear HT2
    obtain ⟨k, o1, hk, rfl, hT, ho, hO⟩ := hrel
    have k0 : (0 : Int) ≤ (k : Int) := by omega
    have hBr : Below W.heap.size W wr := G2.trans (hO.below (fun j hj => by omega) hz2)
    by_cases hlt : k < fs.length
    · have k1 : (k : Int) < (fs.length : Int) := by omega
      obtain ⟨g, rfl, hne, hc⟩ := HCell.out k hlt
      have d0 := hO.cell hc (fun e => hne e.symm)
      have HGk := hid1 (HG.out wr hBr k hlt)
      have hgt : Tf.get fs fs[k].1 = some fs[k].2 := get_at HW.out.rises hlt
      rw [hasW_get, hgt] at HGk
      simp only [Option.getD_some, Option.isSome_some] at HGk
      have hput : Tf.putF pathB (fs.take k) fs[k].1 fs[k].2 = fs.take (k + 1) := by
        have h1 := HW.out.code_take hlt
        rw [Tf.puts_take HW.out.rises k (by omega)] at h1
        unfold Tf.putF
        rw [if_pos h1]
        have h2 := Tf.puts_take HW.out.rises (k + 1) (by omega)
        rw [List.take_succ_eq_append_getElem hlt, Tf.puts_snoc, Tf.puts_take HW.out.rises k (by omega)] at h2
        rw [h2, List.take_succ_eq_append_getElem hlt]
      have hpl := HL.out _ (List.getElem_mem hlt)
      have HPk := hid1 fun (V : World) (gV : Below wr.heap.size wr V) => PutK_calls (hT.below gV) (HE.out.below (below_then hBr gV)) (fun f hf => by have := HL.out f (List.mem_of_mem_take hf); omega) (by simp; omega) fs[k].1 fs[k].2 (by omega)
      rw [hput] at HPk
      have HTo := hid1 hO
      have hlt' := hT.lt
      clear hput hgt hpl HCell HG hc hT hO
      generalize fs[k] = y at *
      obtain ⟨y1, y2⟩ := y
      simp only at d0 HGk HPk
      go_wp2_with fail
      refine HGk.out.mono ?_
      rintro e w3 ⟨rfl, g3⟩
      have HP3 := hid1 (HPk.out w3 g3)
      have HO3 := hid1 (HTo.out.trans (Only.of g3 (S := fun j => j = W.heap.size)) fun j hj => .inl hj)
      clear HGk HPk
      go_wp2_with fail
      refine HP3.out.mono ?_
      rintro e w4 ⟨rfl, ⟨o4, hon, hT4⟩, hb4, hk4⟩
      have HO4 : Hid (Only (fun j => j = W.heap.size) w2 w4) := hid1 ⟨hb4.os.trans HO3.out.os, hb4.tape.trans HO3.out.tape, hb4.output.trans HO3.out.output, Nat.le_trans HO3.out.size hb4.size, fun j hj hn => (hk4.block j (Nat.lt_of_lt_of_le hj HO3.out.size) fun h => by
        rcases h with h | h
        · exact hn h
        · have := ho j h
          omega).trans (HO3.out.block j hj hn)⟩
      have HR : Hid (TreeAt W.heap.size w4 W.heap.size (fs.take (k + 1)) o4 ∧ ∀ j, o4 = some j → w2.heap.size ≤ j) := hid1 ⟨hT4, fun j e => by
        rcases hon with h | ⟨q, h1, h2⟩
        · exact ho j (by rw [← h]; exact e)
        · rw [h1] at e
          cases e
          exact Nat.le_trans HO3.out.size h2⟩
      obtain ⟨ev, hev⟩ : ∃ ev, es (Tf.putCode pathB (fs.take k) y1 y2) = ev := ⟨_, rfl⟩
      clear HP3 hT4 hon hb4 hk4
      go_wp2
      exact ⟨⟨k + 1, o4, by omega, by go_num, HR.out.1, HR.out.2, HO4.out⟩, by simp [intOf]; omega⟩
    · have k1 : (fs.length : Int) ≤ (k : Int) := by omega
      have HR : Hid (TreeAt W.heap.size wr W.heap.size fs o1) := hid1 (by rwa [List.take_of_length_le (by omega)] at hT)
      clear hT hO HCell HG
      go_wp2
      go_ret
      exact ⟨_, _, rfl, HR.out, hBr⟩
end Go.Proofs.YtmhipgompplkdaaGreatDoor
