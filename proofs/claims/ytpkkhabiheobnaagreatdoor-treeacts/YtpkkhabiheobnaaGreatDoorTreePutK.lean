/- Package tree's Put and Remove again: what of the older memory they leave as it was. -/
import Derived.Test.YtpkkhabiheobnaaGreatDoorM2
namespace Go.Proofs.YtpkkhabiheobnaaGreatDoor
open Go.RowKit Go.Shelf Go.Lib Go.Maps
open Tf (Fs)

/-- All older memory but the blocks of S is as it was. -/
structure Kept (S : Nat → Prop) (w w' : World) : Prop where
  size : w.heap.size ≤ w'.heap.size
  block : ∀ j, j < w.heap.size → ¬ S j → w'.heap[j]? = w.heap[j]?

theorem Kept.of {S : Nat → Prop} {w w' : World} (h : Below w.heap.size w w') : Kept S w w' := ⟨h.size, fun j hj _ => h.block j hj⟩
theorem Kept.refl (S : Nat → Prop) (w : World) : Kept S w w := ⟨Nat.le_refl _, fun _ _ _ => rfl⟩
theorem Kept.trans {S : Nat → Prop} {a b c : World} (h : Kept S a b) (g : Kept S b c) : Kept S a c :=
  ⟨Nat.le_trans h.size g.size, fun j hj hs => (g.block j (Nat.lt_of_lt_of_le hj h.size) hs).trans (h.block j hj hs)⟩
theorem Kept.alloc {S : Nat → Prop} {a b : World} (h : Kept S a b) (o : Obj) : Kept S a (b.alloc o) := h.trans (.of ((Below.refl _ b).alloc (Nat.le_refl _) o))
theorem Kept.drew {S : Nat → Prop} {a b : World} (h : Kept S a b) : Kept S a b.drew := h.trans (.of (Below.refl _ b).drew)
theorem Kept.setCell {S : Nat → Prop} {a b : World} (h : Kept S a b) {p : Addr} (hp : S p.block) (v : Value) : Kept S a (b.setCell p v) := by
  refine h.trans ⟨by simp, fun j _ hs => Below.heap_setCell b p v j fun e => hs (e ▸ hp)⟩
theorem Kept.grown {S : Nat → Prop} {a b c : World} {o : Option Nat} (h : Kept S a b) (hg : b.grownBy c o) (ho : ∀ j, o = some j → S j) : Kept S a c :=
  h.trans ⟨hg.size, fun j hj hs => hg.block j hj fun e => hs (ho j e.symm)⟩
theorem Kept.cell {S : Nat → Prop} {w w' : World} (h : Kept S w w') {a : Addr} {u : Value} (hc : w.cell? a = some u) (hs : ¬ S a.block) : w'.cell? a = some u :=
  (World.cell?_of_block (h.block a.block (lt_of_cell hc) hs)).trans hc

/-- The blocks that a tree's Put and Remove may write. -/
def tS (tb : Nat) (o : Option Nat) : Nat → Prop := fun j => j = tb ∨ o = some j

theorem TreeAt.kept {B : Nat} {w w' : World} {tb : Nat} {fs : Fs} {o : Option Nat} {S : Nat → Prop} (h : TreeAt B w tb fs o) (hk : Kept S w w') (h1 : ¬ S tb) (h2 : ∀ j, o = some j → ¬ S j) : TreeAt B w' tb fs o := by
  have hbk := hk.block tb h.lt h1
  refine ⟨h.low, (World.cell?_of_block (a := ⟨tb, 0, none⟩) hbk).trans h.cell, (World.frozen?_of_block (a := ⟨tb, 0, none⟩) hbk).trans h.free, ?_⟩
  cases o with
  | none => exact h.isMap
  | some bm =>
    refine ⟨h.isMap.1, h.isMap.2.1, ?_⟩
    have hm := h.isMap.2.2
    have hlt := hm.lt
    obtain ⟨es, clock, e1, F, hs, hD⟩ := hm
    exact ⟨es, clock, (hk.block bm hlt (h2 bm rfl)).trans e1, F, hs, hD⟩

/-- A map's block, behind: the one that was, or a new one. -/
def OldNew (w : World) (o o' : Option Nat) : Prop := o' = o ∨ ∃ j, o' = some j ∧ w.heap.size ≤ j

set_option maxRecDepth 100000 in
set_option maxHeartbeats 2000000 in
theorem PutK_some {B : Nat} {w : World} {tb : Nat} {fs : Fs} {bm : Nat} (h : TreeAt B w tb fs (some bm)) (p b : List UInt8) (hp : p.length ≤ 1000000) (hfew : fs.length ≤ 1000)
    (HM : Hid (Calls Tryz.prog 33 #[Ptr tb, .string (ba p), .string (ba b)] w fun e w' => e = .returned .nilIface ∧ Below w.heap.size w w')) :
    Calls Tryz.prog 14 #[Ptr tb, .string (ba p), .string (ba b)] w fun e w' => e = .returned .nilIface ∧ (TreeAt B w' tb (Tf.put fs p b) (some bm)) ∧ Below B w w' ∧ Kept (tS tb (some bm)) w w' := by
  have hlt := h.lt
  go_enter Tryz.func14, Tryz.ntmps14
  go_wp2_with fail
  refine HM.out.mono ?_
  rintro e w1 ⟨rfl, g1⟩
  have h1 := h.below g1
  have hc := h1.cell
  have hm := h1.isMap.2.2
  have hq := eq_someMap bm
  go_wp2_with (first
    | (at_mapUpdate; refine wpList_mapUpdate_in _ rfl _ _ _ 73 rfl 9 77 klaw Tryz.underlying73 fileElem bm fs.length (Tf.datum fs) rfl hm (by unfold maxLen; omega) _ _ _ rfl rfl (kkey p hp) _ [] (fileElem_mk b) ?_; intro w2 hown2 hturn2; go_frame)
    | go_in)
  go_wp2
  go_ret
  rw [Tf.datum_put] at hown2
  have hne : some tb ≠ some bm := fun e => h.isMap.2.1 (Option.some.inj e).symm
  have hbk := hturn2.grown.block tb h1.lt hne
  refine ⟨rfl, ⟨h.low, (World.cell?_of_block (a := ⟨tb, 0, none⟩) hbk).trans hc, (World.frozen?_of_block (a := ⟨tb, 0, none⟩) hbk).trans h1.free, h.isMap.1, h.isMap.2.1, ownsMap_tight hown2⟩, ?_⟩
  exact ⟨below_turned (g1.mono (by have := h.low; omega)) (by have := h.low; have := g1.size; omega) h.isMap.1 hturn2, (Kept.of g1).grown hturn2.grown fun j e => .inr (by rw [e])⟩

set_option maxRecDepth 100000 in
set_option maxHeartbeats 2000000 in
theorem PutK_none {B : Nat} {w : World} {tb : Nat} {fs : Fs} (h : TreeAt B w tb fs none) (p b : List UInt8) (hp : p.length ≤ 1000000)
    (HM : Hid (Calls Tryz.prog 33 #[Ptr tb, .string (ba p), .string (ba b)] w fun e w' => e = .returned .nilIface ∧ Below w.heap.size w w')) :
    Calls Tryz.prog 14 #[Ptr tb, .string (ba p), .string (ba b)] w fun e w' => e = .returned .nilIface ∧ (∃ bm, w.heap.size ≤ bm ∧ TreeAt B w' tb (Tf.put fs p b) (some bm)) ∧ Below B w w' ∧ Kept (tS tb none) w w' := by
  have hlt := h.lt
  obtain rfl : fs = [] := h.isMap
  have hmm := @run_makeMap Tryz.prog
  go_enter Tryz.func14, Tryz.ntmps14
  go_wp2_with fail
  refine HM.out.mono ?_
  rintro e w1 ⟨rfl, g1⟩
  have h1 := h.below g1
  have hc := h1.cell
  have hf := h1.free
  have hq := eq_noMap
  have htb := h1.lt
  have eS : (w1.setCell ⟨tb, 0, none⟩ (.map (some w1.heap.size))).heap.size = w1.heap.size := by simp
  have gA : Below w1.heap.size (w1.setCell ⟨tb, 0, none⟩ (.map (some w1.heap.size))) ((w1.setCell ⟨tb, 0, none⟩ (.map (some w1.heap.size))).alloc (.map #[] 0)) := (Below.refl _ _).alloc (by simp) _
  have hcS : ((w1.setCell ⟨tb, 0, none⟩ (.map (some w1.heap.size))).alloc (.map #[] 0)).cell? ⟨tb, 0, none⟩ = some (.map (some w1.heap.size)) :=
    (gA.cell (p := ⟨tb, 0, none⟩) htb).trans (World.cell?_setCell_same' _ _ _ (by rw [hc]; rfl))
  have hfS : Hid (((w1.setCell ⟨tb, 0, none⟩ (.map (some w1.heap.size))).alloc (.map #[] 0)).frozen? ⟨tb, 0, none⟩ = false) :=
    (gA.frozen (p := ⟨tb, 0, none⟩) htb).trans (by rw [World.frozen?_setCell]; exact hf)
  have Hm0 : Hid (((w1.setCell ⟨tb, 0, none⟩ (.map (some w1.heap.size))).alloc (.map #[] 0)).ownsMap Tryz.prog 9 fileElem w1.heap.size 0 (Tf.datum [])) := by
    have := World.ownsMap_made (w1.setCell ⟨tb, 0, none⟩ (.map (some w1.heap.size))) Tryz.prog 9 fileElem
    rw [eS] at this
    exact this
  have gS : Hid (Below B w ((w1.setCell ⟨tb, 0, none⟩ (.map (some w1.heap.size))).alloc (.map #[] 0))) := ((g1.mono (by have := h.low; omega)).setCell (p := ⟨tb, 0, none⟩) h.low _).alloc (by rw [eS]; have := h.low; have := g1.size; omega) _
  have gK : Hid (Kept (tS tb none) w ((w1.setCell ⟨tb, 0, none⟩ (.map (some w1.heap.size))).alloc (.map #[] 0))) := ((Kept.of g1).setCell (p := ⟨tb, 0, none⟩) (.inl rfl) _).alloc _
  have hw1 : Hid (w.heap.size ≤ w1.heap.size) := g1.size
  clear eS gA
  go_wp2_with (first
    | (at_mapUpdate; refine wpList_mapUpdate_in _ rfl _ _ _ 73 rfl 9 77 klaw Tryz.underlying73 fileElem w1.heap.size 0 (Tf.datum []) rfl Hm0.out (by unfold maxLen; omega) _ _ _ rfl rfl (kkey p hp) _ [] (fileElem_mk b) ?_; intro w2 hown2 hturn2; go_frame)
    | go_in)
  go_wp2
  go_ret
  rw [Tf.datum_put] at hown2
  have hne : some tb ≠ some w1.heap.size := fun e => by have := Option.some.inj e; omega
  have hbk := hturn2.grown.block tb (by simp; omega) hne
  refine ⟨rfl, ⟨w1.heap.size, hw1.out, h.low, (World.cell?_of_block (a := ⟨tb, 0, none⟩) hbk).trans hcS, (World.frozen?_of_block (a := ⟨tb, 0, none⟩) hbk).trans hfS.out, by have := h.low; omega, by omega, ownsMap_tight hown2⟩, ?_⟩
  refine ⟨below_turned gS.out (by have := h.low; simp; omega) (by have := h.low; omega) hturn2, ⟨Nat.le_trans gK.out.size hturn2.grown.size, fun j hj hs => ?_⟩⟩
  exact (hturn2.grown.block j (Nat.lt_of_lt_of_le hj gK.out.size) fun e => by have := Option.some.inj e; have := hw1.out; omega).trans (gK.out.block j hj hs)
theorem PutK_calls {B : Nat} {w : World} {tb : Nat} {fs : Fs} {o : Option Nat} {es : Nat → Value} (h : TreeAt B w tb fs o) (hE : TErr w es) (hlen : ∀ f ∈ fs, f.1.length ≤ 1000000) (hfew : fs.length ≤ 1000) (p b : List UInt8) (hp : p.length ≤ 1000000) :
    Calls Tryz.prog 14 #[Ptr tb, .string (ba p), .string (ba b)] w fun e w' => e = .returned (es (Tf.putCode pathB fs p b)) ∧ (∃ o', OldNew w o o' ∧ TreeAt B w' tb (Tf.putF pathB fs p b) o') ∧ Below B w w' ∧ Kept (tS tb o) w w' := by
  have HM := mayPut_calls h hE hlen hfew p b hp
  have hBw : B ≤ w.heap.size := by have := h.low; have := h.lt; omega
  cases hc : Tf.putCode pathB fs p b with
  | zero =>
    rw [hc, hE.nil] at HM
    rw [hE.nil, show Tf.putF pathB fs p b = Tf.put fs p b by simp [Tf.putF, hc]]
    cases o with
    | none => exact (PutK_none h p b hp HM).mono fun e w' ⟨h1, ⟨bm, hb, h2⟩, h3⟩ => ⟨h1, ⟨_, .inr ⟨bm, rfl, hb⟩, h2⟩, h3⟩
    | some bm => exact (PutK_some h p b hp hfew HM).mono fun e w' ⟨h1, h2, h3⟩ => ⟨h1, ⟨_, .inl rfl, h2⟩, h3⟩
  | succ k =>
    obtain ⟨t, u, e⟩ := hE.faces k
    rw [hc, e] at HM
    rw [e, show Tf.putF pathB fs p b = fs by simp [Tf.putF, hc]]
    exact (Put_no h p b t u HM).mono fun e w' ⟨h1, h2⟩ => ⟨h1, ⟨_, .inl rfl, h.below h2⟩, h2.mono hBw, .of h2⟩

set_option maxRecDepth 100000 in
set_option maxHeartbeats 2000000 in
theorem RemoveK_yes {B : Nat} {w : World} {tb : Nat} {fs : Fs} {bm : Nat} (h : TreeAt B w tb fs (some bm)) (p : List UInt8) (hp : p.length ≤ 1000000) (ht : Tf.hasP fs p = true) :
    Calls Tryz.prog 13 #[Ptr tb, .string (ba p)] w fun e w' => e = .returned .nilIface ∧ TreeAt B w' tb (Tf.del fs p) (some bm) ∧ Below B w w' ∧ Kept (tS tb (some bm)) w w' := by
  have hl := look_tree h p hp
  rw [ht] at hl
  have HA : Hid (Calls Tryz.prog 32 #[Ptr tb] w fun e w' => e = .returned (.map (some bm)) ∧ w' = w) := all_calls tb (some bm) w h.cell
  generalize (Tf.get fs p).getD [] = x at *
  have hc := h.cell
  have g1 : Below w.heap.size w (w.alloc (.cells #[.string (ba x)] 77)) := (Below.refl _ w).alloc (Nat.le_refl _) _
  have h1 := h.below g1
  have hc1 := h1.cell
  have hm := h1.isMap.2.2
  have hBw : B ≤ w.heap.size := by have := h.low; have := h.lt; omega
  clear ht
  go_enter Tryz.func13, Tryz.ntmps13
  go_wp2_with fail
  refine HA.out.mono ?_
  rintro e w' ⟨rfl, rfl⟩
  go_wp2_with (first
    | (at_delete; refine wpList_delete_own _ rfl _ _ 73 9 rfl 77 klaw Tryz.underlying73 fileElem bm fs.length (Tf.datum fs) rfl hm _ _ rfl (kkey p hp) ?_; intro w2 hown2 hturn2; go_frame)
    | go_in)
  go_wp2
  go_ret
  rw [Tf.datum_del] at hown2
  have hne : some tb ≠ some bm := fun e => h.isMap.2.1 (Option.some.inj e).symm
  have hbk := hturn2.grown.block tb h1.lt hne
  refine ⟨rfl, ⟨h.low, (World.cell?_of_block (a := ⟨tb, 0, none⟩) hbk).trans hc1, (World.frozen?_of_block (a := ⟨tb, 0, none⟩) hbk).trans h1.free, h.isMap.1, h.isMap.2.1, ownsMap_tight hown2⟩, ?_⟩
  exact ⟨below_turned (g1.mono hBw) (by have := g1.size; omega) h.isMap.1 hturn2, (Kept.of g1).grown hturn2.grown fun j e => .inr (by rw [e])⟩

theorem RemoveK_calls {B : Nat} {w : World} {tb : Nat} {fs : Fs} {o : Option Nat} {es : Nat → Value} (h : TreeAt B w tb fs o) (hE : TErr w es) (p : List UInt8) (hp : p.length ≤ 1000000) :
    Calls Tryz.prog 13 #[Ptr tb, .string (ba p)] w fun e w' => e = .returned (es (if Tf.hasP fs p then 0 else 6)) ∧ (∃ o', OldNew w o o' ∧ TreeAt B w' tb (Tf.del fs p) o') ∧ Below B w w' ∧ Kept (tS tb o) w w' := by
  have hBw : B ≤ w.heap.size := by have := h.low; have := h.lt; omega
  cases ht : Tf.hasP fs p with
  | true =>
    cases o with
    | none =>
      obtain rfl : fs = [] := h.isMap
      simp [Tf.hasP] at ht
    | some bm =>
      simp only [if_true, hE.nil]
      exact (RemoveK_yes h p hp ht).mono fun e w' ⟨h1, h2, h3⟩ => ⟨h1, ⟨_, .inl rfl, h2⟩, h3⟩
  | false =>
    simp only [Bool.false_eq_true, if_false]
    rw [Tf.del_none ht]
    exact (Remove_no h hE p hp ht).mono fun e w' ⟨h1, h2⟩ => ⟨h1, ⟨_, .inl rfl, h.below h2⟩, h2.mono hBw, .of h2⟩
end Go.Proofs.YtpkkhabiheobnaaGreatDoor
