import Derived.Test.YtflbofdpfgkmcaaGreatDoorOP45
import Derived.Deep.RegionHeld3
import Derived.Test.YtflbofdpfgkmcaaGreatDoorOP21
import Derived.Test.YtflbofdpfgkmcaaGreatDoorOP38
import Derived.Test.YtflbofdpfgkmcaaGreatDoorOP36
import Derived.Test.YtflbofdpfgkmcaaGreatDoorOP07
import Derived.Test.YtflbofdpfgkmcaaGreatDoorOP20
namespace Go.Proofs.YtflbofdpfgkmcaaGreatDoor
open Go.RowKit Go.Shelf Go.Lib Go.Maps
open Tf (Fs)
structure Both (B : Nat) (w : World) (T M : Nat) (fs : Fs) (o : Option Nat) (v : Value) : Prop where
  t : TreeAt B w T fs o
  m : RTreeAt B w M fs v
  well : Tf.Well pathB fs
  tm : T ≠ M
  om : o ≠ some M
  vt : v.ownBlock ≠ some T
  ov : ∀ j, o = some j → v.ownBlock ≠ some j
theorem TreeAt.map_lt {B : Nat} {w : World} {tb : Nat} {fs : Fs} {o : Option Nat} (h : TreeAt B w tb fs o) {j : Nat} (e : o = some j) : j < w.heap.size := by
  subst e
  exact h.isMap.2.2.lt
theorem RTreeAt.row_lt {B : Nat} {w : World} {tb : Nat} {fs : Fs} {v : Value} (h : RTreeAt B w tb fs v) {j : Nat} (e : v.ownBlock = some j) : j < w.heap.size := by
  rcases h.row.2 with ⟨rfl, _⟩ | ⟨g, cap, cur, rfl, _, hg, _⟩
  · cases e
  · cases e
    exact (Array.getElem?_eq_some_iff.1 hg).1
theorem Both.below {B : Nat} {w w' : World} {T M : Nat} {fs : Fs} {o : Option Nat} {v : Value} (h : Both B w T M fs o v) (hb : Below w.heap.size w w') : Both B w' T M fs o v :=
  ⟨h.t.below hb, h.m.below hb, h.well, h.tm, h.om, h.vt, h.ov⟩
structure Half (B : Nat) (w w1 : World) (T M : Nat) (fs fs' : Fs) (o o' : Option Nat) (v : Value) : Prop where
  t : TreeAt B w1 T fs' o'
  m : RTreeAt B w1 M fs v
  on : OldNew w o o'
  size : w.heap.size ≤ w1.heap.size
theorem Both.half {B : Nat} {w w1 : World} {T M : Nat} {fs fs' : Fs} {o o' : Option Nat} {v : Value} (h : Both B w T M fs o v) (ht : TreeAt B w1 T fs' o') (hon : OldNew w o o') (hk : Kept (tS T o) w w1) : Half B w w1 T M fs fs' o o' v :=
  ⟨ht, h.m.kept hk (fun e => e.elim (fun e => h.tm e.symm) h.om) (fun j e hs => hs.elim (fun e2 => h.vt (e2 ▸ e)) (fun e2 => h.ov j e2 e)), hon, hk.size⟩
theorem Half.both {B : Nat} {w w1 w2 : World} {T M : Nat} {fs fs' : Fs} {o o' : Option Nat} {v v' : Value} (hh : Half B w w1 T M fs fs' o o' v) (h : Both B w T M fs o v) (hm : RTreeAt B w2 M fs' v') (hon : RowON w1 v v') (hk : Kept (mS M v) w1 w2) (hw : Tf.Well pathB fs') : Both B w2 T M fs' o' v' := by
  have hM := h.m.lt
  have hT := h.t.lt
  have hs := hh.size
  have om' : o' ≠ some M := by
    rcases hh.on with rfl | ⟨j, rfl, hj⟩
    · exact h.om
    · intro e
      have := Option.some.inj e
      omega
  have ov1 : ∀ j, o' = some j → v.ownBlock ≠ some j := by
    intro j e e2
    rcases hh.on with rfl | ⟨i, rfl, hi⟩
    · exact h.ov j e e2
    · have := Option.some.inj e
      have := h.m.row_lt e2
      omega
  refine ⟨hh.t.kept hk (fun e => e.elim h.tm (fun e => h.vt e)) (fun j e hs => hs.elim (fun e2 => om' (e2 ▸ e)) (fun e2 => ov1 j e e2)), hm, hw, h.tm, om', ?_, ?_⟩
  · rcases hon with e | hn
    · rw [e]; exact h.vt
    · intro e
      have := hn T e
      omega
  · intro j e
    rcases hon with e2 | hn
    · rw [e2]; exact ov1 j e
    · intro e2
      have := hn j e2
      have := hh.t.map_lt e
      omega
end Go.Proofs.YtflbofdpfgkmcaaGreatDoor
namespace Go.Proofs.YtflbofdpfgkmcaaGreatDoor
open Go.RowKit Go.Shelf Go.Lib
open Tf (Fs)
def FIRow (w : World) (v : Value) (l : Fs) : Prop :=
  ∃ p cap, v = .slice p l.length cap ∧ (l ≠ [] → ∃ g o, p = some ⟨g, o, none⟩ ∧ g < w.heap.size ∧ ∀ j (hj : j < l.length), w.cell? ⟨g, o + j * 2, none⟩ = some (.string (ba l[j].1)) ∧ w.cell? ⟨g, o + j * 2 + 1, none⟩ = some (.string (ba l[j].2)))
theorem FIRow.below {w w' : World} {v : Value} {l : Fs} (h : FIRow w v l) (hb : Below w.heap.size w w') : FIRow w' v l := by
  obtain ⟨p, cap, e, h1⟩ := h
  refine ⟨p, cap, e, fun hl => ?_⟩
  obtain ⟨g, o, e, hg, hc⟩ := h1 hl
  exact ⟨g, o, e, Nat.lt_of_lt_of_le hg hb.size, fun j hj => ⟨cell_below' (hc j hj).1 hb, cell_below' (hc j hj).2 hb⟩⟩
structure ShortF (l : Fs) : Prop where
  few : l.length ≤ 30
  path : ∀ f ∈ l, f.1.length ≤ 100
  bytes : ∀ f ∈ l, f.2.length ≤ 4000
set_option maxRecDepth 100000 in
set_option maxHeartbeats 8000000 in
theorem longFiles_calls {w : World} (v : Value) (l : Fs) (hrow : FIRow w v l) :
    Calls Tryz.prog 54 #[v] w fun e w' => ∃ b, e = .returned (.bool b) ∧ w' = w ∧ (b = true ∨ ShortF l) := by
  obtain ⟨p, cap, rfl, hin⟩ := hrow
  have HI := hid1 hin
  clear hin
  by_cases h30 : 30 < l.length
  · have z : (30 : Int) < (l.length : Int) := by omega
    go_enter Tryz.func54, Tryz.ntmps54
    go_wp2
    go_ret
    exact ⟨true, rfl, rfl, .inl rfl⟩
  · have z : (l.length : Int) ≤ (30 : Int) := by omega
    go_enter Tryz.func54, Tryz.ntmps54
    go_wp2
    go_loopw [3, 4] (fun nv' iv wr => ∃ (k n : Nat), k ≤ l.length ∧ iv = .int .i64 k ∧ nv' = .int .i64 n ∧ n ≤ 4000 ∧ (∀ j (hj : j < l.length), j < k → l[j].1.length ≤ 100 ∧ l[j].2.length ≤ 4000) ∧ w = wr) (fun _ iv _ => l.length - (intOf iv).toNat)
    case atStart => exact ⟨0, 0, Nat.zero_le _, rfl, rfl, Nat.zero_le _, fun j _ h => by omega, rfl⟩
    case round =>
      obtain ⟨k, n, hk, rfl, rfl, hn, hs, rfl⟩ := hrel
      have HS := hid1 hs
      clear hs
      have k0 : (0 : Int) ≤ (k : Int) := by omega
      have zn : (n : Int) ≤ 4000 := by omega
      have zn0 : (0 : Int) ≤ (n : Int) := by omega
      by_cases hlt : k < l.length
      · have k1 : (k : Int) < (l.length : Int) := by omega
        obtain ⟨g, o, rfl, hg, hc⟩ := HI.out (by intro e; rw [e] at hlt; simp at hlt)
        have d0 := (hc k hlt).1
        have d1 := (hc k hlt).2
        have HNx : Hid (l[k].1.length ≤ 100 → l[k].2.length ≤ 4000 → ∀ j (hj : j < l.length), j < k + 1 → l[j].1.length ≤ 100 ∧ l[j].2.length ≤ 4000) := hid1 fun h1 h2 j hj hjk => by
          by_cases e : j = k
          · subst e; exact ⟨h1, h2⟩
          · exact HS.out j hj (by omega)
        clear hc HI HS
        generalize l[k] = y at *
        obtain ⟨y1, y2⟩ := y
        simp only at d0 d1 HNx
        by_cases h1 : 4000 < y2.length
        · have z1 : (4000 : Int) < (y2.length : Int) := by omega
          go_wp2
          go_ret
          exact ⟨true, rfl, rfl, .inl rfl⟩
        · have z1 : (y2.length : Int) ≤ (4000 : Int) := by omega
          by_cases h2 : 100 < y1.length
          · have z2 : (100 : Int) < (y1.length : Int) := by omega
            go_wp2
            go_ret
            exact ⟨true, rfl, rfl, .inl rfl⟩
          · have z2 : (y1.length : Int) ≤ (100 : Int) := by omega
            by_cases h3 : 4000 < n + y2.length
            · have z3 : (4000 : Int) < (n : Int) + (y2.length : Int) := by omega
              go_wp2
              go_ret
              exact ⟨true, rfl, rfl, .inl rfl⟩
            · have z3 : (n : Int) + (y2.length : Int) ≤ (4000 : Int) := by omega
              have HQ := hid1 (HNx.out (by omega) (by omega))
              clear HNx
              go_wp2
              exact ⟨⟨k + 1, n + y2.length, by omega, by go_num, by go_num, by omega, HQ.out, trivial⟩, by simp [intOf]; omega⟩
      · have k1 : (l.length : Int) ≤ (k : Int) := by omega
        have HQ : Hid (ShortF l) := hid1 ⟨by omega, fun f hf => by
          obtain ⟨j, hj, rfl⟩ := List.getElem_of_mem hf
          exact (HS.out j hj (by omega)).1, fun f hf => by
          obtain ⟨j, hj, rfl⟩ := List.getElem_of_mem hf
          exact (HS.out j hj (by omega)).2⟩
        clear HS HI
        go_wp2
        go_ret
        exact ⟨false, rfl, rfl, .inr HQ.out⟩
def Tf.taken (l : Fs) : Fs := l.foldl (fun t f => Tf.putF pathB t f.1 f.2) []
theorem Tf.taken_snoc (l : Fs) (f : List UInt8 × List UInt8) : Tf.taken (l ++ [f]) = Tf.putF pathB (Tf.taken l) f.1 f.2 := by simp [Tf.taken]
theorem Tf.putF_mem {fs : Fs} {p b : List UInt8} {f : List UInt8 × List UInt8} (h : f ∈ Tf.putF pathB fs p b) : f ∈ fs ∨ f = (p, b) := by
  unfold Tf.putF at h
  split at h
  · rcases Tf.mem_put.1 h with h1 | h1
    · exact .inr h1
    · exact .inl h1.1
  · exact .inl h
theorem Tf.taken_mem : ∀ (l : Fs) (f : List UInt8 × List UInt8), f ∈ Tf.taken l → f ∈ l := by
  have key : ∀ (l t : Fs) (f : List UInt8 × List UInt8), f ∈ l.foldl (fun t f => Tf.putF pathB t f.1 f.2) t → f ∈ t ∨ f ∈ l := by
    intro l
    induction l with
    | nil => intro t f h; exact .inl h
    | cons x r ih =>
      intro t f h
      rcases ih _ f h with h1 | h1
      · rcases Tf.putF_mem h1 with h2 | h2
        · exact .inl h2
        · exact .inr (by rw [h2]; simp)
      · exact .inr (List.mem_cons_of_mem _ h1)
  intro l f h
  rcases key l [] f h with h1 | h1
  · cases h1
  · exact h1
theorem Tf.putF_len (fs : Fs) (p b : List UInt8) : (Tf.putF pathB fs p b).length ≤ fs.length + 1 := by
  unfold Tf.putF
  split
  · unfold Tf.put
    rw [Tf.length_ins]
    have := Tf.length_del_le fs p
    omega
  · omega
theorem Tf.taken_len : ∀ (l : Fs), (Tf.taken l).length ≤ l.length := by
  have key : ∀ (l t : Fs), (l.foldl (fun t f => Tf.putF pathB t f.1 f.2) t).length ≤ t.length + l.length := by
    intro l
    induction l with
    | nil => intro t; simp
    | cons x r ih =>
      intro t
      have h1 := ih (Tf.putF pathB t x.1 x.2)
      have h2 := Tf.putF_len t x.1 x.2
      simp only [List.foldl_cons, List.length_cons]
      omega
  intro l
  have := key l []
  simpa [Tf.taken] using this
set_option maxRecDepth 100000 in
set_option maxHeartbeats 16000000 in
theorem fileTree_calls {w : World} {es : Nat → Value} (hE : TErr w es) (v : Value) (l : Fs) (hrow : FIRow w v l) (hs : ShortF l) :
    Calls Tryz.prog 55 #[v] w fun e w' => ∃ T M o u, e = .returned (.tuple #[Ptr T, Ptr M]) ∧ Both w.heap.size w' T M (Tf.taken l) o u ∧ Below w.heap.size w w' := by
  obtain ⟨p, cap, rfl, hin⟩ := hrow
  have HI := hid1 hin
  have HE := hid1 hE
  have HNw := hid1 (New_calls w)
  have HS := hid1 hs
  have hfew := hs.few
  have zl : (l.length : Int) ≤ 30 := by omega
  clear hin hE hs
  go_enter Tryz.func55, Tryz.ntmps55
  go_wp2_with fail
  refine HNw.out.mono ?_
  rintro e w1 ⟨rfl, hT, g1⟩
  have a1 : Below w1.heap.size w1 (w1.alloc (.cells #[.slice none 0 0] 38)) := (Below.refl _ w1).alloc (Nat.le_refl _) _
  have hz1 : w.heap.size < w1.heap.size := hT.lt
  have hT2 := hT.below a1
  have hB0 : Both w.heap.size (w1.alloc (.cells #[.slice none 0 0] 38)) w.heap.size w1.heap.size (Tf.taken []) none (.slice none 0 0) :=
    ⟨hT2, ⟨g1.size, by simp, by simp, World.ownsRow_nil _ _ _ _, by simp [Value.ownBlock], fun _ => rfl⟩, Tf.Well.nil _, by omega, by simp, by simp [Value.ownBlock], fun j e => by cases e⟩
  have G2 := below_then g1 a1
  have HB0 := hid1 (And.intro hB0 G2)
  clear HNw hT g1 a1 hT2 hB0 G2
  go_wp2
  go_loopw [6] (fun iv wr => ∃ (k : Nat) (o : Option Nat) (u : Value), k ≤ l.length ∧ iv = .int .i64 k ∧ Both w.heap.size wr w.heap.size w1.heap.size (Tf.taken (l.take k)) o u ∧ Below w.heap.size w wr) (fun iv _ => l.length - (intOf iv).toNat)
  case atStart => exact ⟨0, none, _, Nat.zero_le _, rfl, HB0.out.1, HB0.out.2⟩
  case round =>
    clear HB0
    obtain ⟨k, o, u, hk, rfl, hBo, hB⟩ := hrel
    have k0 : (0 : Int) ≤ (k : Int) := by omega
    by_cases hlt : k < l.length
    · have k1 : (k : Int) < (l.length : Int) := by omega
      obtain ⟨g, oo, rfl, hg, hc⟩ := HI.out (by intro e; rw [e] at hlt; simp at hlt)
      have d0 := (hB.cell (p := ⟨g, oo + k * 2, none⟩) hg).trans (hc k hlt).1
      have d1 := (hB.cell (p := ⟨g, oo + k * 2 + 1, none⟩) hg).trans (hc k hlt).2
      have HTk : Hid (Tf.taken (l.take (k + 1)) = Tf.putF pathB (Tf.taken (l.take k)) l[k].1 l[k].2) := hid1 (by
        rw [List.take_succ_eq_append_getElem hlt, Tf.taken_snoc])
      have hp := HS.out.path _ (List.getElem_mem hlt)
      have hlen := Tf.taken_len (l.take k)
      rw [List.length_take] at hlen
      have hps : ∀ f ∈ Tf.taken (l.take k), f.1.length ≤ 1000000 := fun f hf => by
        have := HS.out.path f (List.mem_of_mem_take (Tf.taken_mem _ f hf))
        omega
      have HP1 := hid1 (PutK_calls (w := wr.drew) (hBo.below (below_draws (Below.refl _ wr) 1)).t ((HE.out.below hB).below (below_draws (Below.refl _ wr) 1)) hps (by omega) l[k].1 l[k].2 (by omega))
      have HD := hid1 fun (V : World) (gV : Below w.heap.size w V) => And.intro ((gV.cell (p := ⟨g, oo + k * 2, none⟩) hg).trans (hc k hlt).1) ((gV.cell (p := ⟨g, oo + k * 2 + 1, none⟩) hg).trans (hc k hlt).2)
      clear hc
      generalize l[k] = y at *
      obtain ⟨y1, y2⟩ := y
      simp only at d0 d1 HTk HP1 HD hp
      have HBo := hid1 (hBo.below (below_draws (Below.refl _ wr) 1))
      have hB' : Below w.heap.size w wr.drew := hB.drew
      clear hBo
      go_wp2
      go_region_held3 (fun w' => w'.cell? ⟨g, oo + k * 2, none⟩ = some (.string (ba y1)) ∧ w'.cell? ⟨g, oo + k * 2 + 1, none⟩ = some (.string (ba y2))) (first | go_keep | fail)
        (first | (go_at_call 17; refine HP1.out.mono ?_; rintro e w5 ⟨rfl, ⟨o5, hon5, hT5⟩, hb5, hk5⟩; (have G5 := hB'.trans hb5); (have dd := HD.out w5 G5); (have e0 := dd.1); (have e1 := dd.2)) | fail)
      all_goals
        have hh := HBo.out.half hT5 hon5 hk5
        have hdr : Below w5.heap.size w5 w5.drew := below_draws (Below.refl _ w5) 1
        have hh' : Half w.heap.size wr.drew w5.drew w.heap.size w1.heap.size (Tf.taken (l.take k)) (Tf.putF pathB (Tf.taken (l.take k)) y1 y2) o o5 u := ⟨hh.t.below hdr, hh.m.below hdr, hh.on, hh.size⟩
        have HP2 := hid1 (rPutK_calls hh'.m HBo.out.well y1 y2 (by omega))
        have HH := hid1 hh'
        have G5' : Below w.heap.size w w5.drew := G5.drew
        clear hh hh' hT5 hon5 hk5 hb5 hdr
        go_wp2
        go_region_held3 (fun w' => w'.cell? ⟨g, oo + k * 2, none⟩ = some (.string (ba y1)) ∧ w'.cell? ⟨g, oo + k * 2 + 1, none⟩ = some (.string (ba y2))) (first | go_keep | fail)
          (first | (go_at_call 18; refine HP2.out.mono ?_; rintro e w6 ⟨rfl, ⟨u6, hon6, hT6⟩, hb6, hk6⟩; (have G6 := G5'.trans hb6); (have dd6 := HD.out w6 G6); (have x0 := dd6.1); (have x1 := dd6.2)) | fail)
        all_goals
          have hbo := HH.out.both HBo.out hT6 hon6 hk6 (HBo.out.well.putF y1 y2)
          have HB6 := hid1 hbo
          clear hbo hT6 hon6 hk6 hb6
          go_wp2
          exact ⟨⟨k + 1, o5, u6, by omega, by go_num, by rw [HTk.out]; exact HB6.out, G6⟩, by simp [intOf]; omega⟩
    · have k1 : (l.length : Int) ≤ (k : Int) := by omega
      obtain rfl : k = l.length := by omega
      have HQ := hid1 hBo
      rw [List.take_length] at HQ
      clear hBo
      go_wp2
      go_ret2
      exact ⟨_, _, o, u, rfl, HQ.out, hB⟩
end Go.Proofs.YtflbofdpfgkmcaaGreatDoor
namespace Go.Proofs.YtflbofdpfgkmcaaGreatDoor
namespace Lb
abbrev fs : Tf.Fs := [([97], [120])]
abbrev r : Ru := ⟨[98], [117, 112, 112, 101, 114], [], [[97]]⟩
abbrev l : List Ru := [r]
abbrev outs : List (List UInt8) := [[98]]
abbrev key : List UInt8 := Kp.key [117, 112, 112, 101, 114] [] [[120]]
abbrev d : Bf.Bd := ⟨fs, l, fun k => if k = 0 then .waits else .no⟩
theorem fault0 : (Ru.fault l).1 = 0 := by kernel_rfl
theorem needs0 (i k : Nat) : Ru.needs l i k = false := by
  cases hn : Ru.needs l i k with
  | false => rfl
  | true =>
    obtain ⟨h1, h2⟩ := Ru.needs_lt hn
    obtain rfl : i = 0 := by simp at h1; omega
    obtain rfl : k = 0 := by simp at h2; omega
    have : Ru.needs l 0 0 = false := by decide
    rw [this] at hn
    cases hn
theorem needed : Ru.Needed l outs (fun k => decide (k = 0)) := by
  have hb : Ru.base l outs 0 = true := by decide
  refine ⟨fun k hk => ?_, fun i k _ h => ?_, fun P h1 _ k hk h => ?_⟩
  · cases k with
    | zero => rfl
    | succ k =>
      simp [Ru.base] at hk
  · rw [needs0] at h
    cases h
  · obtain rfl : k = 0 := by simp at hk; omega
    exact h1 0 hb
theorem need0 : Bf.need l outs 0 = true := by
  rw [Bf.need_eq needed (by decide)]
  rfl
theorem init0 : Bf.init fs l outs = d := by
  unfold Bf.init
  congr 1
  funext k
  by_cases h : k = 0
  · subst h
    rw [need0]
    rfl
  · rw [Bf.need_out (by simp; omega)]
    simp [h]
theorem order0 : (Ru.order l (Bf.need l outs)).isSome = true := by
  rw [Ru.order_congr2 (g := fun k => decide (k = 0)) fun k hk => Bf.need_eq needed hk]
  decide
theorem ready0 : d.isReady 0 = true := Bf.ready_of rfl fun k _ hn => by
  rw [show Ru.needs d.l 0 k = false from needs0 0 k] at hn
  cases hn
theorem act0 : Af.actO [117, 112, 112, 101, 114] [] [[120]] = ([88], 0) := by decide
theorem find1 (k b : List UInt8) : Cf.find [(k, b)] k = some b := by simp [Cf.find]
theorem get1 (k b : List UInt8) : Cf.get 3 [(k, b)] k = [(k, b)] := by
  unfold Cf.get
  rw [find1]
  simp [Cf.put, Cf.rm, Cf.cut]
theorem run1 : Bf.run Af.actO (some (3, [])) d 0 = ⟨false, 0, d.set 0 (.done [88] false), some (3, [(key, [88])])⟩ := by
  rw [show (0 : Int) = ((0 : Nat) : Int) from rfl, Bf.run_ready _ _ _ _ (by decide) ready0]
  unfold Bf.go
  have e1 : d.ins 0 = some [[120]] := by decide
  have e2 : d.rule 0 = r := rfl
  rw [e1]
  simp only [e2]
  have e3 : Bf.cfind (some (3, [])) (Kp.key r.kind r.word [[120]]) = none := rfl
  rw [e3]
  simp only
  rw [act0, if_pos rfl]
  rfl
theorem run2 : Bf.run Af.actO (some (3, [(key, [88])])) d 0 = ⟨true, 0, d.set 0 (.done [88] true), some (3, [(key, [88])])⟩ := by
  rw [show (0 : Int) = ((0 : Nat) : Int) from rfl, Bf.run_ready _ _ _ _ (by decide) ready0]
  unfold Bf.go
  have e1 : d.ins 0 = some [[120]] := by decide
  have e2 : d.rule 0 = r := rfl
  rw [e1]
  simp only [e2]
  have e3 : Bf.cfind (some (3, [(key, [88])])) (Kp.key r.kind r.word [[120]]) = some [88] := find1 _ _
  have e4 : Bf.cget (some (3, [(key, [88])])) (Kp.key r.kind r.word [[120]]) = some (3, [(key, [88])]) := congrArg (fun x => some (3, x)) (get1 _ _)
  rw [e3]
  simp only [e4]
theorem fit0 : Bf.Fit d := by
  refine ⟨fun f hf => ?_, fun k => ?_, fun k => ?_⟩
  · obtain rfl := List.mem_singleton.1 hf
    decide
  · show (if k = 0 then Bf.St.waits else .no).out.length ≤ 2000
    split <;> decide
  · show (if k = 0 then Bf.St.waits else .no).why ≤ 12
    split <;> decide
end Lb
end Go.Proofs.YtflbofdpfgkmcaaGreatDoor
namespace Go.Proofs.YtflbofdpfgkmcaaGreatDoor
open Go.RowKit Go.Shelf Go.Lib
set_option maxRecDepth 100000 in
set_option maxHeartbeats 4000000 in
theorem LongTexts_any {w : World} (v : Value) (ls : List (List UInt8)) (many most : Nat) (hmany : many ≤ 1000000) (hmost : most ≤ 1000000) (hrow : IRow w v ls) :
    Calls Tryz.prog 29 #[v, .int .i64 many, .int .i64 most] w fun e w' => ∃ r : Int, e = .returned (.int .i64 r) ∧ w' = w ∧ (r = 1 ∨ (r = 0 ∧ ls.length ≤ many ∧ ∀ x ∈ ls, x.length ≤ most)) := by
  obtain ⟨p, cap, rfl, hin⟩ := hrow
  have zM : (most : Int) ≤ 1000000 := by omega
  have zN : (many : Int) ≤ 1000000 := by omega
  have HI := hid1 hin
  clear hin
  by_cases h12 : ls.length ≤ many
  · have z12 : (ls.length : Int) ≤ (many : Int) := by omega
    go_enter Tryz.func29, Tryz.ntmps29
    go_wp2
    go_loopw [7, 8] (fun n i wr => ∃ k m : Nat, k ≤ ls.length ∧ m ≤ most ∧ n = .int .i64 m ∧ i = .int .i64 k ∧ (∀ j (hj : j < ls.length), j < k → ls[j].length ≤ most) ∧ w = wr) (fun _ i _ => ls.length - (intOf i).toNat)
    case atStart => exact ⟨0, 0, Nat.zero_le _, Nat.zero_le _, rfl, rfl, fun j hj h => by omega, rfl⟩
    case round =>
      obtain ⟨k, m, hk, hm, rfl, rfl, hall, rfl⟩ := hrel
      have HA := hid1 hall
      clear hall
      have c0 : (0 : Int) ≤ (k : Int) := by omega
      have zm : (m : Int) ≤ (most : Int) := by omega
      have q8 : IntKind.i64.wrap (k : Int) = (k : Int) := by rw [IntKind.wrap_i64]; omega
      by_cases hlt : k < ls.length
      · have c1 : (k : Int) < (ls.length : Int) := by omega
        obtain ⟨g, o, rfl, hg, hcur⟩ := HI.out (by intro e; rw [e] at hlt; simp at hlt)
        have hcell := hcur k hlt
        have HS : Hid (ls[k].length ≤ most → ∀ j (hj : j < ls.length), j < k + 1 → ls[j].length ≤ most) := by
          refine hid1 fun h j hj hjk => ?_
          by_cases e : j = k
          · subst e; exact h
          · exact HA.out j hj (by omega)
        clear hcur HI HA
        generalize ls[k] = y at *
        by_cases hy : y.length ≤ most
        · have zy : (y.length : Int) ≤ (most : Int) := by omega
          have HN := hid1 (HS.out hy)
          clear HS
          have q7 : IntKind.i64.wrap ((m : Int) + (y.length : Int)) = ((m + y.length : Nat) : Int) := by rw [IntKind.wrap_i64]; omega
          by_cases hs : m + y.length ≤ most
          · have zs : ((m + y.length : Nat) : Int) ≤ (most : Int) := by omega
            generalize hmy : m + y.length = m1 at *
            clear hmy
            go_wp2
            exact ⟨⟨k + 1, m1, by omega, hs, rfl, by go_num, HN.out, trivial⟩, by simp [intOf]; omega⟩
          · have zs : (most : Int) < ((m + y.length : Nat) : Int) := by omega
            generalize hmy : m + y.length = m1 at *
            clear hmy
            go_wp2
            go_ret
            exact ⟨1, rfl, rfl, .inl rfl⟩
        · have zy : (most : Int) < (y.length : Int) := by omega
          clear HS
          go_wp2
          go_ret
          exact ⟨1, rfl, rfl, .inl rfl⟩
      · obtain rfl : k = ls.length := by omega
        have c1 : ¬ (ls.length : Int) < (ls.length : Int) := by omega
        have HF : Hid (∀ x ∈ ls, x.length ≤ most) := by
          refine hid1 fun x hx => ?_
          obtain ⟨j, hj, rfl⟩ := List.getElem_of_mem hx
          exact HA.out j hj hj
        clear HI HA
        go_wp2
        go_ret
        exact ⟨0, rfl, rfl, .inr ⟨rfl, HF.out⟩⟩
  · have z12 : (many : Int) < (ls.length : Int) := by omega
    go_enter Tryz.func29, Tryz.ntmps29
    go_wp2
    go_ret
    exact ⟨1, rfl, rfl, .inl rfl⟩
set_option maxRecDepth 100000 in
set_option maxHeartbeats 4000000 in
theorem OwnTexts_nil (w : World) :
    Calls Tryz.prog 31 #[.slice none 0 0] w fun e w' => ∃ v', e = .returned v' ∧ XRow w' v' [] ∧ TRow w' v' [] ∧ Below w.heap.size w w' := by
  obtain ⟨i0, hi, hz0, hz1, hz2⟩ := info_parts Tryz.infoStr
  have n1 : World.ownsRow w w.heap.size 9 1 (.slice none 0 0) 0 [] := World.ownsRow_nil _ _ _ _
  go_enter Tryz.func31, Tryz.ntmps31
  go_wp2_with (first
    | (at_builtin; refine wpList_append_own_none rfl _ _ 45 rfl w.heap.size 9 i0 1 Tryz.underlying45 hi _ _ _ rfl n1 rfl ?_)
    | go_in)
  go_ret
  exact ⟨_, rfl, XRow.of_owns (l := []) n1, TRow.of_owns (l := []) n1, Below.refl _ _⟩
set_option maxRecDepth 100000 in
set_option maxHeartbeats 4000000 in
theorem OwnTexts_some (w : World) (a : Addr) (cap : Nat) (ls : List (List UInt8)) (hn : ls.length ≤ 12) (hsrc : ∀ j u, (ls.map sv)[j]? = some u → w.cell? (a.add j) = some u) :
    Calls Tryz.prog 31 #[.slice (some a) ls.length cap] w fun e w' => ∃ v', e = .returned v' ∧ XRow w' v' ls ∧ TRow w' v' ls ∧ Below w.heap.size w w' := by
  obtain ⟨i0, hi, hz0, hz1, hz2⟩ := info_parts Tryz.infoStr
  have n1 : World.ownsRow w w.heap.size 9 1 (.slice none 0 0) 0 [] := World.ownsRow_nil _ _ _ _
  go_enter Tryz.func31, Tryz.ntmps31
  go_wp2_with (first
    | (at_builtin; refine wpList_append_own _ rfl _ _ 45 rfl w.heap.size 9 i0 (.string ⟨#[]⟩) 1 16 Tryz.underlying45 hi hz0 hz1 hz2 rfl (by decide) _ _ _ rfl n1 a ls.length cap (ls.map sv) rfl (by simp) hsrc one_sv (by unfold maxLen; omega) (by omega) (Nat.le_refl _) ?_; intro v1 w1 hown1 hgrow1 _; have b1 := lay_b1 n1 hgrow1; clear hsrc n1 hgrow1)
    | go_in)
  go_ret
  exact ⟨_, rfl, XRow.of_owns hown1, TRow.of_owns hown1, b1⟩
theorem OwnTexts_x {w : World} (v : Value) (ls : List (List UInt8)) (hrow : XRow w v ls) (h12 : ls.length ≤ 12) :
    Calls Tryz.prog 31 #[v] w fun e w' => ∃ v', e = .returned v' ∧ XRow w' v' ls ∧ TRow w' v' ls ∧ Below w.heap.size w w' := by
  have hx := hrow.irow
  have hv := hrow.shape
  obtain ⟨p, cap, rfl, hin⟩ := hx
  rcases hv with e | ⟨a, n, c, e⟩
  · obtain ⟨rfl, e2, rfl⟩ : p = none ∧ ls.length = 0 ∧ cap = 0 := by simpa using e
    obtain rfl := List.length_eq_zero_iff.1 e2
    exact OwnTexts_nil w
  · obtain ⟨rfl, rfl, rfl⟩ : p = some a ∧ ls.length = n ∧ cap = c := by simpa using e
    refine OwnTexts_some w a cap ls h12 fun j u hj => ?_
    have hjl : j < ls.length := by simpa using (List.getElem?_eq_some_iff.1 hj).1
    obtain ⟨g, o, e1, hg, hcur⟩ := hin (by intro e; rw [e] at hjl; simp at hjl)
    obtain rfl := Option.some.inj e1
    rw [List.getElem?_map, List.getElem?_eq_getElem hjl] at hj
    simp only [Option.map_some, Option.some.injEq] at hj
    rw [← hj, add_at2]
    exact hcur j hjl
end Go.Proofs.YtflbofdpfgkmcaaGreatDoor
