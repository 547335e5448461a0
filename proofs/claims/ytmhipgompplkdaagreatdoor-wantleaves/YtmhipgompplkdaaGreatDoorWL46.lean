import Derived.Test.YtmhipgompplkdaaGreatDoorWL45
import Derived.Deep.RegionHeld3
import Derived.Test.YtmhipgompplkdaaGreatDoorWL20
import Derived.Test.YtmhipgompplkdaaGreatDoorWL15
namespace Go.Proofs.YtmhipgompplkdaaGreatDoor
open Go.RowKit Go.Shelf Go.Lib Go.Maps
open Tf (Fs)
structure Both (B : Nat) (w : World) (T M : Nat) (fs : Fs) (o : Option Nat) (v : Value) : Prop where
  t : TreeAt B w T fs o
  m : RTreeAt B w M fs v
  well : Tf.Well pathB fs
  tm : T ≠ M
  om : o ≠ some M
  vt : v.ownBlock ≠ some T
  ov : ∀ j, o = some j → v.ownBlock ≠ some j
theorem TreeAt.map_lt {B : Nat} {w : World} {tb : Nat} {fs : Fs} {o : Option Nat} (h : TreeAt B w tb fs o) {j : Nat} (e : o = some j) : j < w.heap.size := by
  subst e
  exact h.isMap.2.2.lt
theorem RTreeAt.row_lt {B : Nat} {w : World} {tb : Nat} {fs : Fs} {v : Value} (h : RTreeAt B w tb fs v) {j : Nat} (e : v.ownBlock = some j) : j < w.heap.size := by
  rcases h.row.2 with ⟨rfl, _⟩ | ⟨g, cap, cur, rfl, _, hg, _⟩
  · cases e
  · cases e
    exact (Array.getElem?_eq_some_iff.1 hg).1
theorem Both.below {B : Nat} {w w' : World} {T M : Nat} {fs : Fs} {o : Option Nat} {v : Value} (h : Both B w T M fs o v) (hb : Below w.heap.size w w') : Both B w' T M fs o v :=
  ⟨h.t.below hb, h.m.below hb, h.well, h.tm, h.om, h.vt, h.ov⟩
structure Half (B : Nat) (w w1 : World) (T M : Nat) (fs fs' : Fs) (o o' : Option Nat) (v : Value) : Prop where
  t : TreeAt B w1 T fs' o'
  m : RTreeAt B w1 M fs v
  on : OldNew w o o'
  size : w.heap.size ≤ w1.heap.size
theorem Both.half {B : Nat} {w w1 : World} {T M : Nat} {fs fs' : Fs} {o o' : Option Nat} {v : Value} (h : Both B w T M fs o v) (ht : TreeAt B w1 T fs' o') (hon : OldNew w o o') (hk : Kept (tS T o) w w1) : Half B w w1 T M fs fs' o o' v :=
  ⟨ht, h.m.kept hk (fun e => e.elim (fun e => h.tm e.symm) h.om) (fun j e hs => hs.elim (fun e2 => h.vt (e2 ▸ e)) (fun e2 => h.ov j e2 e)), hon, hk.size⟩
theorem Half.both {B : Nat} {w w1 w2 : World} {T M : Nat} {fs fs' : Fs} {o o' : Option Nat} {v v' : Value} (hh : Half B w w1 T M fs fs' o o' v) (h : Both B w T M fs o v) (hm : RTreeAt B w2 M fs' v') (hon : RowON w1 v v') (hk : Kept (mS M v) w1 w2) (hw : Tf.Well pathB fs') : Both B w2 T M fs' o' v' := by
  have hM := h.m.lt
  have hT := h.t.lt
  have hs := hh.size
  have om' : o' ≠ some M := by
    rcases hh.on with rfl | ⟨j, rfl, hj⟩
    · exact h.om
    · intro e
      have := Option.some.inj e
      omega
  have ov1 : ∀ j, o' = some j → v.ownBlock ≠ some j := by
    intro j e e2
    rcases hh.on with rfl | ⟨i, rfl, hi⟩
    · exact h.ov j e e2
    · have := Option.some.inj e
      have := h.m.row_lt e2
      omega
  refine ⟨hh.t.kept hk (fun e => e.elim h.tm (fun e => h.vt e)) (fun j e hs => hs.elim (fun e2 => om' (e2 ▸ e)) (fun e2 => ov1 j e e2)), hm, hw, h.tm, om', ?_, ?_⟩
  · rcases hon with e | hn
    · rw [e]; exact h.vt
    · intro e
      have := hn T e
      omega
  · intro j e
    rcases hon with e2 | hn
    · rw [e2]; exact ov1 j e
    · intro e2
      have := hn j e2
      have := hh.t.map_lt e
      omega
end Go.Proofs.YtmhipgompplkdaaGreatDoor
namespace Go.Proofs.YtmhipgompplkdaaGreatDoor
open Go.RowKit Go.Shelf Go.Lib
open Tf (Fs)
def FIRow (w : World) (v : Value) (l : Fs) : Prop :=
  ∃ p cap, v = .slice p l.length cap ∧ (l ≠ [] → ∃ g o, p = some ⟨g, o, none⟩ ∧ g < w.heap.size ∧ ∀ j (hj : j < l.length), w.cell? ⟨g, o + j * 2, none⟩ = some (.string (ba l[j].1)) ∧ w.cell? ⟨g, o + j * 2 + 1, none⟩ = some (.string (ba l[j].2)))
theorem FIRow.below {w w' : World} {v : Value} {l : Fs} (h : FIRow w v l) (hb : Below w.heap.size w w') : FIRow w' v l := by
  obtain ⟨p, cap, e, h1⟩ := h
  refine ⟨p, cap, e, fun hl => ?_⟩
  obtain ⟨g, o, e, hg, hc⟩ := h1 hl
  exact ⟨g, o, e, Nat.lt_of_lt_of_le hg hb.size, fun j hj => ⟨cell_below' (hc j hj).1 hb, cell_below' (hc j hj).2 hb⟩⟩
structure ShortF (l : Fs) : Prop where
  few : l.length ≤ 30
  path : ∀ f ∈ l, f.1.length ≤ 100
  bytes : ∀ f ∈ l, f.2.length ≤ 4000
set_option maxRecDepth 100000 in
set_option maxHeartbeats 8000000 in
theorem longFiles_calls {w : World} (v : Value) (l : Fs) (hrow : FIRow w v l) :
    Calls Tryz.prog 57 #[v] w fun e w' => ∃ b, e = .returned (.bool b) ∧ w' = w ∧ (b = true ∨ ShortF l) := by
  obtain ⟨p, cap, rfl, hin⟩ := hrow
  have HI := hid1 hin
  clear hin
  by_cases h30 : 30 < l.length
  · have z : (30 : Int) < (l.length : Int) := by omega
    go_enter Tryz.func57, Tryz.ntmps57
    go_wp2
    go_ret
    exact ⟨true, rfl, rfl, .inl rfl⟩
  · have z : (l.length : Int) ≤ (30 : Int) := by omega
    go_enter Tryz.func57, Tryz.ntmps57
    go_wp2
    go_loopw [3, 4] (fun nv' iv wr => ∃ (k n : Nat), k ≤ l.length ∧ iv = .int .i64 k ∧ nv' = .int .i64 n ∧ n ≤ 4000 ∧ (∀ j (hj : j < l.length), j < k → l[j].1.length ≤ 100 ∧ l[j].2.length ≤ 4000) ∧ w = wr) (fun _ iv _ => l.length - (intOf iv).toNat)
    case atStart => exact ⟨0, 0, Nat.zero_le _, rfl, rfl, Nat.zero_le _, fun j _ h => by omega, rfl⟩
    case round =>
      obtain ⟨k, n, hk, rfl, rfl, hn, hs, rfl⟩ := hrel
      have HS := hid1 hs
      clear hs
      have k0 : (0 : Int) ≤ (k : Int) := by omega
      have zn : (n : Int) ≤ 4000 := by omega
      have zn0 : (0 : Int) ≤ (n : Int) := by omega
      by_cases hlt : k < l.length
      · have k1 : (k : Int) < (l.length : Int) := by omega
        obtain ⟨g, o, rfl, hg, hc⟩ := HI.out (by intro e; rw [e] at hlt; simp at hlt)
        have d0 := (hc k hlt).1
        have d1 := (hc k hlt).2
        have HNx : Hid (l[k].1.length ≤ 100 → l[k].2.length ≤ 4000 → ∀ j (hj : j < l.length), j < k + 1 → l[j].1.length ≤ 100 ∧ l[j].2.length ≤ 4000) := hid1 fun h1 h2 j hj hjk => by
          by_cases e : j = k
          · subst e; exact ⟨h1, h2⟩
          · exact HS.out j hj (by omega)
        clear hc HI HS
        generalize l[k] = y at *
        obtain ⟨y1, y2⟩ := y
        simp only at d0 d1 HNx
        by_cases h1 : 4000 < y2.length
        · have z1 : (4000 : Int) < (y2.length : Int) := by omega
          go_wp2
          go_ret
          exact ⟨true, rfl, rfl, .inl rfl⟩
        · have z1 : (y2.length : Int) ≤ (4000 : Int) := by omega
          by_cases h2 : 100 < y1.length
          · have z2 : (100 : Int) < (y1.length : Int) := by omega
            go_wp2
            go_ret
            exact ⟨true, rfl, rfl, .inl rfl⟩
          · have z2 : (y1.length : Int) ≤ (100 : Int) := by omega
            by_cases h3 : 4000 < n + y2.length
            · have z3 : (4000 : Int) < (n : Int) + (y2.length : Int) := by omega
              go_wp2
              go_ret
              exact ⟨true, rfl, rfl, .inl rfl⟩
            · have z3 : (n : Int) + (y2.length : Int) ≤ (4000 : Int) := by omega
              have HQ := hid1 (HNx.out (by omega) (by omega))
              clear HNx
              go_wp2
              exact ⟨⟨k + 1, n + y2.length, by omega, by go_num, by go_num, by omega, HQ.out, trivial⟩, by simp [intOf]; omega⟩
      · have k1 : (l.length : Int) ≤ (k : Int) := by omega
        have HQ : Hid (ShortF l) := hid1 ⟨by omega, fun f hf => by
          obtain ⟨j, hj, rfl⟩ := List.getElem_of_mem hf
          exact (HS.out j hj (by omega)).1, fun f hf => by
          obtain ⟨j, hj, rfl⟩ := List.getElem_of_mem hf
          exact (HS.out j hj (by omega)).2⟩
        clear HS HI
        go_wp2
        go_ret
        exact ⟨false, rfl, rfl, .inr HQ.out⟩
def Tf.taken (l : Fs) : Fs := l.foldl (fun t f => Tf.putF pathB t f.1 f.2) []
theorem Tf.taken_snoc (l : Fs) (f : List UInt8 × List UInt8) : Tf.taken (l ++ [f]) = Tf.putF pathB (Tf.taken l) f.1 f.2 := by simp [Tf.taken]
theorem Tf.putF_mem {fs : Fs} {p b : List UInt8} {f : List UInt8 × List UInt8} (h : f ∈ Tf.putF pathB fs p b) : f ∈ fs ∨ f = (p, b) := by
  unfold Tf.putF at h
  split at h
  · rcases Tf.mem_put.1 h with h1 | h1
    · exact .inr h1
    · exact .inl h1.1
  · exact .inl h
theorem Tf.taken_mem : ∀ (l : Fs) (f : List UInt8 × List UInt8), f ∈ Tf.taken l → f ∈ l := by
  have key : ∀ (l t : Fs) (f : List UInt8 × List UInt8), f ∈ l.foldl (fun t f => Tf.putF pathB t f.1 f.2) t → f ∈ t ∨ f ∈ l := by
    intro l
    induction l with
    | nil => intro t f h; exact .inl h
    | cons x r ih =>
      intro t f h
      rcases ih _ f h with h1 | h1
      · rcases Tf.putF_mem h1 with h2 | h2
        · exact .inl h2
        · exact .inr (by rw [h2]; simp)
      · exact .inr (List.mem_cons_of_mem _ h1)
  intro l f h
  rcases key l [] f h with h1 | h1
  · cases h1
  · exact h1
theorem Tf.putF_len (fs : Fs) (p b : List UInt8) : (Tf.putF pathB fs p b).length ≤ fs.length + 1 := by
  unfold Tf.putF
  split
  · unfold Tf.put
    rw [Tf.length_ins]
    have := Tf.length_del_le fs p
    omega
  · omega
theorem Tf.taken_len : ∀ (l : Fs), (Tf.taken l).length ≤ l.length := by
  have key : ∀ (l t : Fs), (l.foldl (fun t f => Tf.putF pathB t f.1 f.2) t).length ≤ t.length + l.length := by
    intro l
    induction l with
    | nil => intro t; simp
    | cons x r ih =>
      intro t
      have h1 := ih (Tf.putF pathB t x.1 x.2)
      have h2 := Tf.putF_len t x.1 x.2
      simp only [List.foldl_cons, List.length_cons]
      omega
  intro l
  have := key l []
  simpa [Tf.taken] using this
set_option maxRecDepth 100000 in
set_option maxHeartbeats 16000000 in
theorem fileTree_calls {w : World} {es : Nat → Value} (hE : TErr w es) (v : Value) (l : Fs) (hrow : FIRow w v l) (hs : ShortF l) :
    Calls Tryz.prog 58 #[v] w fun e w' => ∃ T M o u, e = .returned (.tuple #[Ptr T, Ptr M]) ∧ Both w.heap.size w' T M (Tf.taken l) o u ∧ Below w.heap.size w w' := by
  obtain ⟨p, cap, rfl, hin⟩ := hrow
  have HI := hid1 hin
  have HE := hid1 hE
  have HNw := hid1 (New_calls w)
  have HS := hid1 hs
  have hfew := hs.few
  have zl : (l.length : Int) ≤ 30 := by omega
  clear hin hE hs
  go_enter Tryz.func58, Tryz.ntmps58
  go_wp2_with fail
  refine HNw.out.mono ?_
  rintro e w1 ⟨rfl, hT, g1⟩
  have a1 : Below w1.heap.size w1 (w1.alloc (.cells #[.slice none 0 0] 38)) := (Below.refl _ w1).alloc (Nat.le_refl _) _
  have hz1 : w.heap.size < w1.heap.size := hT.lt
  have hT2 := hT.below a1
  have hB0 : Both w.heap.size (w1.alloc (.cells #[.slice none 0 0] 38)) w.heap.size w1.heap.size (Tf.taken []) none (.slice none 0 0) :=
    ⟨hT2, ⟨g1.size, by simp, by simp, World.ownsRow_nil _ _ _ _, by simp [Value.ownBlock], fun _ => rfl⟩, Tf.Well.nil _, by omega, by simp, by simp [Value.ownBlock], fun j e => by cases e⟩
  have G2 := below_then g1 a1
  have HB0 := hid1 (And.intro hB0 G2)
  clear HNw hT g1 a1 hT2 hB0 G2
  go_wp2
  go_loopw [6] (fun iv wr => ∃ (k : Nat) (o : Option Nat) (u : Value), k ≤ l.length ∧ iv = .int .i64 k ∧ Both w.heap.size wr w.heap.size w1.heap.size (Tf.taken (l.take k)) o u ∧ Below w.heap.size w wr) (fun iv _ => l.length - (intOf iv).toNat)
  case atStart => exact ⟨0, none, _, Nat.zero_le _, rfl, HB0.out.1, HB0.out.2⟩
  case round =>
    clear HB0
    obtain ⟨k, o, u, hk, rfl, hBo, hB⟩ := hrel
    have k0 : (0 : Int) ≤ (k : Int) := by omega
    by_cases hlt : k < l.length
    · have k1 : (k : Int) < (l.length : Int) := by omega
      obtain ⟨g, oo, rfl, hg, hc⟩ := HI.out (by intro e; rw [e] at hlt; simp at hlt)
      have d0 := (hB.cell (p := ⟨g, oo + k * 2, none⟩) hg).trans (hc k hlt).1
      have d1 := (hB.cell (p := ⟨g, oo + k * 2 + 1, none⟩) hg).trans (hc k hlt).2
      have HTk : Hid (Tf.taken (l.take (k + 1)) = Tf.putF pathB (Tf.taken (l.take k)) l[k].1 l[k].2) := hid1 (by
        rw [List.take_succ_eq_append_getElem hlt, Tf.taken_snoc])
      have hp := HS.out.path _ (List.getElem_mem hlt)
      have hlen := Tf.taken_len (l.take k)
      rw [List.length_take] at hlen
      have hps : ∀ f ∈ Tf.taken (l.take k), f.1.length ≤ 1000000 := fun f hf => by
        have := HS.out.path f (List.mem_of_mem_take (Tf.taken_mem _ f hf))
        omega
      have HP1 := hid1 (PutK_calls (w := wr.drew) (hBo.below (below_draws (Below.refl _ wr) 1)).t ((HE.out.below hB).below (below_draws (Below.refl _ wr) 1)) hps (by omega) l[k].1 l[k].2 (by omega))
      have HD := hid1 fun (V : World) (gV : Below w.heap.size w V) => And.intro ((gV.cell (p := ⟨g, oo + k * 2, none⟩) hg).trans (hc k hlt).1) ((gV.cell (p := ⟨g, oo + k * 2 + 1, none⟩) hg).trans (hc k hlt).2)
      clear hc
      generalize l[k] = y at *
      obtain ⟨y1, y2⟩ := y
      simp only at d0 d1 HTk HP1 HD hp
      have HBo := hid1 (hBo.below (below_draws (Below.refl _ wr) 1))
      have hB' : Below w.heap.size w wr.drew := hB.drew
      clear hBo
      go_wp2
      go_region_held3 (fun w' => w'.cell? ⟨g, oo + k * 2, none⟩ = some (.string (ba y1)) ∧ w'.cell? ⟨g, oo + k * 2 + 1, none⟩ = some (.string (ba y2))) (first | go_keep | fail)
        (first | (go_at_call 20; refine HP1.out.mono ?_; rintro e w5 ⟨rfl, ⟨o5, hon5, hT5⟩, hb5, hk5⟩; (have G5 := hB'.trans hb5); (have dd := HD.out w5 G5); (have e0 := dd.1); (have e1 := dd.2)) | fail)
      all_goals
        have hh := HBo.out.half hT5 hon5 hk5
        have hdr : Below w5.heap.size w5 w5.drew := below_draws (Below.refl _ w5) 1
        have hh' : Half w.heap.size wr.drew w5.drew w.heap.size w1.heap.size (Tf.taken (l.take k)) (Tf.putF pathB (Tf.taken (l.take k)) y1 y2) o o5 u := ⟨hh.t.below hdr, hh.m.below hdr, hh.on, hh.size⟩
        have HP2 := hid1 (rPutK_calls hh'.m HBo.out.well y1 y2 (by omega))
        have HH := hid1 hh'
        have G5' : Below w.heap.size w w5.drew := G5.drew
        clear hh hh' hT5 hon5 hk5 hb5 hdr
        go_wp2
        go_region_held3 (fun w' => w'.cell? ⟨g, oo + k * 2, none⟩ = some (.string (ba y1)) ∧ w'.cell? ⟨g, oo + k * 2 + 1, none⟩ = some (.string (ba y2))) (first | go_keep | fail)
          (first | (go_at_call 21; refine HP2.out.mono ?_; rintro e w6 ⟨rfl, ⟨u6, hon6, hT6⟩, hb6, hk6⟩; (have G6 := G5'.trans hb6); (have dd6 := HD.out w6 G6); (have x0 := dd6.1); (have x1 := dd6.2)) | fail)
        all_goals
          have hbo := HH.out.both HBo.out hT6 hon6 hk6 (HBo.out.well.putF y1 y2)
          have HB6 := hid1 hbo
          clear hbo hT6 hon6 hk6 hb6
          go_wp2
          exact ⟨⟨k + 1, o5, u6, by omega, by go_num, by rw [HTk.out]; exact HB6.out, G6⟩, by simp [intOf]; omega⟩
    · have k1 : (l.length : Int) ≤ (k : Int) := by omega
      obtain rfl : k = l.length := by omega
      have HQ := hid1 hBo
      rw [List.take_length] at HQ
      clear hBo
      go_wp2
      go_ret2
      exact ⟨_, _, o, u, rfl, HQ.out, hB⟩
end Go.Proofs.YtmhipgompplkdaaGreatDoor
namespace Go.Proofs.YtmhipgompplkdaaGreatDoor
open Go.RowKit Go.Shelf Go.Lib
theorem compact_upto {zs : List (List UInt8)} (hs : zs.Pairwise (fun x y => x ≤ y)) : ∀ m, m ≤ zs.length → (compactUpTo zs.toArray m).Pairwise (fun x y => x ≤ y) ∧ (compactUpTo zs.toArray m).Nodup ∧ ∀ x, x ∈ compactUpTo zs.toArray m ↔ x ∈ zs.take m
  | 0, _ => by simp [compactUpTo]
  | m + 1, h => by
    obtain ⟨h1, h2, h3⟩ := compact_upto hs m (by omega)
    have hm : m < zs.length := by omega
    have em : zs.toArray[m]! = zs[m] := by simp [hm]
    have hsd := List.pairwise_iff_getElem.1 hs
    rw [Af.compact_succ, List.take_succ_eq_append_getElem hm]
    by_cases hk : keeps zs.toArray m = true
    · rw [if_pos hk, em]
      have hnew : zs[m] ∉ zs.take m := by
        intro hmem
        obtain ⟨j, hj, ej⟩ := List.getElem_of_mem hmem
        rw [List.getElem_take] at ej
        have hjm : j < m := by simp at hj; omega
        unfold keeps at hk
        have hk' : m = 0 ∨ zs.toArray[m]! ≠ zs.toArray[m - 1]! := by simpa using hk
        rcases hk' with h0 | h0
        · omega
        · rw [em, show zs.toArray[m - 1]! = zs[m - 1] by simp [show m - 1 < zs.length by omega]] at h0
          refine h0 (List.le_antisymm ?_ (hsd (m - 1) m (by omega) hm (by omega)))
          rw [← ej]
          by_cases e : j = m - 1
          · subst e; exact List.le_refl _
          · exact hsd j (m - 1) (by omega) (by omega) (by omega)
      refine ⟨?_, ?_, fun x => ?_⟩
      · rw [List.pairwise_append]
        refine ⟨h1, by simp, fun a ha b hb => ?_⟩
        rw [List.mem_singleton.1 hb]
        obtain ⟨j, hj, ej⟩ := List.getElem_of_mem ((h3 a).1 ha)
        rw [List.getElem_take] at ej
        rw [← ej]
        exact hsd j m (by simp at hj; omega) hm (by simp at hj; omega)
      · rw [List.nodup_append]
        refine ⟨h2, by simp, fun a ha b hb => ?_⟩
        rw [List.mem_singleton.1 hb]
        rintro rfl
        exact hnew ((h3 _).1 ha)
      · rw [List.mem_append, List.mem_append, h3]
    · rw [if_neg hk, List.append_nil]
      refine ⟨h1, h2, fun x => ?_⟩
      have hk' : ¬ (m = 0 ∨ zs.toArray[m]! ≠ zs.toArray[m - 1]!) := by
        unfold keeps at hk
        simpa using hk
      have h0 : m ≠ 0 := fun e => hk' (.inl e)
      have hq : zs.toArray[m]! = zs.toArray[m - 1]! := Classical.byContradiction fun e => hk' (.inr e)
      rw [em, show zs.toArray[m - 1]! = zs[m - 1] by simp [show m - 1 < zs.length by omega]] at hq
      rw [h3, List.mem_append, List.mem_singleton]
      constructor
      · exact .inl
      · rintro (h4 | rfl)
        · exact h4
        · rw [hq]
          exact List.mem_take_iff_getElem.2 ⟨m - 1, by omega, rfl⟩
theorem compact_sorted {zs : List (List UInt8)} (hs : zs.Pairwise (fun x y => x ≤ y)) : (Lib.compact zs).Pairwise (fun x y => x ≤ y) ∧ (Lib.compact zs).Nodup ∧ ∀ x, x ∈ Lib.compact zs ↔ x ∈ zs := by
  have := compact_upto hs zs.length (Nat.le_refl _)
  rwa [List.take_length] at this
structure LeafU (l : List Ru) (i k : Nat) (r : List (List UInt8)) : Prop where
  mem : ∀ x, x ∈ r ↔ ((∃ y ∈ l.take i, x ∈ y.ins) ∨ ∃ y, l[i]? = some y ∧ x ∈ y.ins.take k) ∧ ∀ z ∈ l, z.out ≠ x
  few : r.length ≤ i * 12 + k
theorem LeafU.first (l : List Ru) : LeafU l 0 0 [] := ⟨fun x => by simp, by simp⟩
theorem LeafU.nextRule {l : List Ru} {i : Nat} {r : List (List UInt8)} (hi : i < l.length) (h12 : l[i].ins.length ≤ 12) (h : LeafU l i l[i].ins.length r) : LeafU l (i + 1) 0 r := by
  refine ⟨fun x => ?_, by have := h.few; omega⟩
  rw [h.mem, List.getElem?_eq_getElem hi, List.take_succ_eq_append_getElem hi]
  simp only [Option.some.injEq, List.mem_append, List.mem_singleton, List.take_zero, List.not_mem_nil, and_false, exists_false, or_false]
  constructor
  · rintro ⟨h1, h2⟩
    refine ⟨?_, h2⟩
    rcases h1 with ⟨y, hy, hx⟩ | ⟨y, rfl, hx⟩
    · exact ⟨y, .inl hy, hx⟩
    · exact ⟨_, .inr rfl, List.mem_of_mem_take hx⟩
  · rintro ⟨⟨y, hy, hx⟩, h2⟩
    refine ⟨?_, h2⟩
    rcases hy with hy | rfl
    · exact .inl ⟨y, hy, hx⟩
    · exact .inr ⟨_, rfl, by rwa [List.take_length]⟩
theorem LeafU.made {l : List Ru} {i k : Nat} {r : List (List UInt8)} (hi : i < l.length) (hk : k < l[i].ins.length) (h : LeafU l i k r) (hs : ∃ z ∈ l, z.out = l[i].ins[k]) : LeafU l i (k + 1) r := by
  refine ⟨fun x => ?_, by have := h.few; omega⟩
  rw [h.mem, List.getElem?_eq_getElem hi]
  simp only [Option.some.injEq]
  constructor
  · rintro ⟨h1, h2⟩
    refine ⟨?_, h2⟩
    rcases h1 with h1 | ⟨y, rfl, hx⟩
    · exact .inl h1
    · exact .inr ⟨_, rfl, (List.take_sublist_take_left (Nat.le_succ k)).subset hx⟩
  · rintro ⟨h1, h2⟩
    rcases h1 with h1 | ⟨y, rfl, hx⟩
    · exact ⟨.inl h1, h2⟩
    · rw [List.take_succ_eq_append_getElem hk, List.mem_append, List.mem_singleton] at hx
      rcases hx with hx | rfl
      · exact ⟨.inr ⟨_, rfl, hx⟩, h2⟩
      · obtain ⟨z, hz, e⟩ := hs
        exact absurd e (h2 z hz)
theorem LeafU.more {l : List Ru} {i k : Nat} {r : List (List UInt8)} (hi : i < l.length) (hk : k < l[i].ins.length) (h : LeafU l i k r) (hm : ∀ z ∈ l, z.out ≠ l[i].ins[k]) : LeafU l i (k + 1) (r ++ [l[i].ins[k]]) := by
  refine ⟨fun x => ?_, by rw [List.length_append, List.length_singleton]; have := h.few; omega⟩
  rw [List.mem_append, List.mem_singleton, h.mem, List.getElem?_eq_getElem hi]
  simp only [Option.some.injEq]
  constructor
  · rintro (⟨h1, h2⟩ | rfl)
    · refine ⟨?_, h2⟩
      rcases h1 with h1 | ⟨y, rfl, hx⟩
      · exact .inl h1
      · exact .inr ⟨_, rfl, (List.take_sublist_take_left (Nat.le_succ k)).subset hx⟩
    · exact ⟨.inr ⟨_, rfl, by rw [List.take_succ_eq_append_getElem hk]; exact List.mem_append_right _ (List.mem_singleton.2 rfl)⟩, hm⟩
  · rintro ⟨h1, h2⟩
    rcases h1 with h1 | ⟨y, rfl, hx⟩
    · exact .inl ⟨.inl h1, h2⟩
    · rw [List.take_succ_eq_append_getElem hk, List.mem_append, List.mem_singleton] at hx
      rcases hx with hx | rfl
      · exact .inl ⟨.inr ⟨_, rfl, hx⟩, h2⟩
      · exact .inr rfl
theorem LeafU.done {l : List Ru} {r : List (List UInt8)} (h : LeafU l l.length 0 r) : Ru.Leaves l (Lib.compact (Af.srt r)) := by
  obtain ⟨h1, h2, h3⟩ := compact_sorted (Af.srt_sorted r)
  refine ⟨h1, h2, fun x => ?_⟩
  rw [h3, (Af.srt_perm r).mem_iff, h.mem, List.take_length]
  unfold Ru.Leaf
  simp
theorem HRow.ir {B : Nat} {w : World} {v : Value} {l : List (List UInt8)} (h : HRow B w v l) : IRow w v l := by
  rcases h with ⟨rfl, rfl⟩ | ⟨g, cap, rfl, _, h2, _, hH⟩
  · exact ⟨none, 0, rfl, fun h => absurd rfl h⟩
  · refine ⟨_, cap, rfl, fun _ => ⟨g, 0, rfl, h2, fun j hj => ?_⟩⟩
    have := (hH j (by simpa using hj)).1
    rw [this]
    simp [hj]
end Go.Proofs.YtmhipgompplkdaaGreatDoor
