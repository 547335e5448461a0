import Derived.Test.YtflbofdpfgkmcaaGreatDoorOP43
import Derived.OneCell
import Derived.Test.YtflbofdpfgkmcaaGreatDoorOP42
namespace Go.Proofs.YtflbofdpfgkmcaaGreatDoor
open Go.RowKit Go.Shelf Go.Lib Go.Maps
open Tf (Fs)
theorem Tryz.infoRFile : (Tryz.prog.info? 51).map (fun i => (i.zero, i.size, i.bytes)) = some (some (.agg #[.string ⟨#[]⟩, .string ⟨#[]⟩]), 2, 32) := by kernel_rfl
theorem entCells_take : ∀ (fs : Fs) (k : Nat), entCells (fs.take k) = (entCells fs).take (k * 2)
  | fs, 0 => by simp [entCells]
  | [], k + 1 => by simp [entCells]
  | f :: r, k + 1 => by
    have e1 : ∀ l : Fs, entCells (f :: l) = .string (ba f.1) :: .string (ba f.2) :: entCells l := fun l => by simp [entCells]
    rw [List.take_succ_cons, e1, e1, entCells_take r k, show (k + 1) * 2 = k * 2 + 1 + 1 by omega]
    rfl
theorem entCells_drop : ∀ (fs : Fs) (k : Nat), entCells (fs.drop k) = (entCells fs).drop (k * 2)
  | fs, 0 => by simp
  | [], k + 1 => by simp [entCells]
  | f :: r, k + 1 => by
    have e1 : entCells (f :: r) = .string (ba f.1) :: .string (ba f.2) :: entCells r := by simp [entCells]
    rw [List.drop_succ_cons, e1, entCells_drop r k, show (k + 1) * 2 = k * 2 + 1 + 1 by omega]
    rfl
theorem entCells_app (a b : Fs) : entCells (a ++ b) = entCells a ++ entCells b := by simp [entCells]
theorem entCells_one (fs : Fs) : ∀ u ∈ entCells fs, u.oneCell' = true := by
  intro u hu
  obtain ⟨e, _, h⟩ := List.mem_flatMap.1 hu
  rcases List.mem_cons.1 h with rfl | h
  · rfl
  · obtain rfl : u = .string (ba e.2) := by simpa using h
    rfl
structure Made (B : Nat) (w w' : World) (tb : Nat) (v : Value) (l : Fs) : Prop where
  row : w'.ownsRow B 51 2 v l.length (entCells l)
  new : ∀ g, v.ownBlock = some g → w.heap.size ≤ g
  below : Below w.heap.size w w'
theorem Made.start (B : Nat) (w : World) (tb : Nat) : Made B w w tb (.slice none 0 0) [] := ⟨World.ownsRow_nil _ _ _ _, (fun _ h => by cases h), Below.refl _ _⟩
theorem Made.cell {B : Nat} {w w' : World} {tb : Nat} {v : Value} {l : Fs} (h : Made B w w' tb v l) {a : Addr} {u : Value} (hc : w.cell? a = some u) : w'.cell? a = some u := cell_below' hc h.below
theorem Made.more {B : Nat} {w w1 w2 : World} {tb : Nat} {v v' : Value} {l m : Fs} {row : Option Nat} (h : Made B w w1 tb v l) (o : w2.ownsRow B 51 2 v' (l.length + m.length) (entCells l ++ entCells m)) (gr : w1.grownBy w2 row) (hrow : row = v.ownBlock) (loc : v'.ownBlock = v.ownBlock ∨ v'.ownBlock = some w1.heap.size) : Made B w w2 tb v' (l ++ m) := by
  subst hrow
  refine ⟨by rw [entCells_app, List.length_append]; exact o, fun g hg => ?_, h.below.grown gr h.below.size h.new⟩
  rcases loc with e | e
  · exact h.new g (e ▸ hg)
  · rw [e] at hg; cases hg; exact h.below.size
theorem Made.shape {B : Nat} {w w' : World} {tb : Nat} {v : Value} {l : Fs} (h : Made B w w' tb v l) (hne : l ≠ []) (N : Nat) (hN : l.length = N) : ∃ g c, v = .slice (some ⟨g, 0, none⟩) N c := by
  subst hN
  rcases h.row.2 with ⟨_, h0⟩ | ⟨g, c, cur, rfl, _⟩
  · exact absurd (List.length_eq_zero_iff.1 h0) hne
  · exact ⟨g, c, rfl⟩
theorem Made.alloc {B : Nat} {w w1 : World} {tb : Nat} {v : Value} {l : Fs} (h : Made B w w1 tb v l) (o : Obj) : Made B w (w1.alloc o) tb v l := ⟨h.row.alloc o, h.new, h.below.alloc h.below.size o⟩
end Go.Proofs.YtflbofdpfgkmcaaGreatDoor
namespace Go.Proofs.YtflbofdpfgkmcaaGreatDoor
open Go.RowKit Go.Shelf Go.Lib Go.Maps
open Tf (Fs)
theorem well_len {fs : Fs} (h : Tf.Well pathB fs) : ∀ f ∈ fs, f.1.length ≤ 64 := by
  intro f hf
  have h1 := (h.each f hf).1
  unfold pathB allB at h1
  simp only [Bool.and_eq_true, decide_eq_true_eq, List.all_eq_true] at h1
  have h2 : ∀ x ∈ Kf.parts f.1, x.length ≤ 12 := fun x hx => by
    have := h1.2 x hx
    unfold nameK at this
    simp only [Bool.and_eq_true, decide_eq_true_eq] at this
    have e : (ba x).size = x.length := ba_size x
    revert this
    simp [e]
    omega
  have h3 := Kf.tot_parts f.1
  have h4 : Kf.tot (Kf.parts f.1) ≤ (Kf.parts f.1).length * 13 := by
    generalize Kf.parts f.1 = l at h2
    clear h1 h3
    induction l with
    | nil => simp [Kf.tot]
    | cons x r ih =>
      have := ih fun y hy => h2 y (List.mem_cons_of_mem _ hy)
      have := h2 x (by simp)
      simp [Kf.tot] at *
      omega
  omega
end Go.Proofs.YtflbofdpfgkmcaaGreatDoor
namespace Go.Proofs.YtflbofdpfgkmcaaGreatDoor
open Go.RowKit Go.Shelf Go.Lib Go.Maps
open Tf (Fs)
theorem Made.shape2 {B : Nat} {w w' : World} {tb : Nat} {v : Value} {l : Fs} (h : Made B w w' tb v l) (hne : l ≠ []) (N : Nat) (hN : l.length = N) : ∃ g c, v = .slice (some ⟨g, 0, none⟩) N c ∧ N ≤ c := by
  subst hN
  rcases h.row.2 with ⟨_, h0⟩ | ⟨g, c, cur, rfl, _, _, h1, _⟩
  · exact absurd (List.length_eq_zero_iff.1 h0) hne
  · exact ⟨g, c, rfl, h1⟩
theorem well_clash {fs : Fs} (hw : Tf.Well pathB fs) {p : List UInt8} (ht : Tf.hasP fs p = true) : Tf.clash fs p = false := by
  obtain ⟨g, hg, e⟩ := List.any_eq_true.1 ht
  obtain rfl : g.1 = p := by simpa using e
  unfold Tf.clash
  rw [List.any_eq_false]
  intro f hf
  rw [hw.apart f hf g hg, hw.apart g hg f hf]
  simp
end Go.Proofs.YtflbofdpfgkmcaaGreatDoor
namespace Go.Proofs.YtflbofdpfgkmcaaGreatDoor
open Go.RowKit Go.Shelf Go.Lib Go.Maps
open Tf (Fs)
structure Kept (S : Nat → Prop) (w w' : World) : Prop where
  size : w.heap.size ≤ w'.heap.size
  block : ∀ j, j < w.heap.size → ¬ S j → w'.heap[j]? = w.heap[j]?
theorem Kept.of {S : Nat → Prop} {w w' : World} (h : Below w.heap.size w w') : Kept S w w' := ⟨h.size, fun j hj _ => h.block j hj⟩
theorem Kept.refl (S : Nat → Prop) (w : World) : Kept S w w := ⟨Nat.le_refl _, fun _ _ _ => rfl⟩
theorem Kept.trans {S : Nat → Prop} {a b c : World} (h : Kept S a b) (g : Kept S b c) : Kept S a c :=
  ⟨Nat.le_trans h.size g.size, fun j hj hs => (g.block j (Nat.lt_of_lt_of_le hj h.size) hs).trans (h.block j hj hs)⟩
theorem Kept.alloc {S : Nat → Prop} {a b : World} (h : Kept S a b) (o : Obj) : Kept S a (b.alloc o) := h.trans (.of ((Below.refl _ b).alloc (Nat.le_refl _) o))
theorem Kept.drew {S : Nat → Prop} {a b : World} (h : Kept S a b) : Kept S a b.drew := h.trans (.of (Below.refl _ b).drew)
theorem Kept.setCell {S : Nat → Prop} {a b : World} (h : Kept S a b) {p : Addr} (hp : S p.block) (v : Value) : Kept S a (b.setCell p v) := by
  refine h.trans ⟨by simp, fun j _ hs => Below.heap_setCell b p v j fun e => hs (e ▸ hp)⟩
theorem Kept.grown {S : Nat → Prop} {a b c : World} {o : Option Nat} (h : Kept S a b) (hg : b.grownBy c o) (ho : ∀ j, o = some j → S j) : Kept S a c :=
  h.trans ⟨hg.size, fun j hj hs => hg.block j hj fun e => hs (ho j e.symm)⟩
theorem Kept.cell {S : Nat → Prop} {w w' : World} (h : Kept S w w') {a : Addr} {u : Value} (hc : w.cell? a = some u) (hs : ¬ S a.block) : w'.cell? a = some u :=
  (World.cell?_of_block (h.block a.block (lt_of_cell hc) hs)).trans hc
def tS (tb : Nat) (o : Option Nat) : Nat → Prop := fun j => j = tb ∨ o = some j
theorem TreeAt.kept {B : Nat} {w w' : World} {tb : Nat} {fs : Fs} {o : Option Nat} {S : Nat → Prop} (h : TreeAt B w tb fs o) (hk : Kept S w w') (h1 : ¬ S tb) (h2 : ∀ j, o = some j → ¬ S j) : TreeAt B w' tb fs o := by
  have hbk := hk.block tb h.lt h1
  refine ⟨h.low, (World.cell?_of_block (a := ⟨tb, 0, none⟩) hbk).trans h.cell, (World.frozen?_of_block (a := ⟨tb, 0, none⟩) hbk).trans h.free, ?_⟩
  cases o with
  | none => exact h.isMap
  | some bm =>
    refine ⟨h.isMap.1, h.isMap.2.1, ?_⟩
    have hm := h.isMap.2.2
    have hlt := hm.lt
    obtain ⟨es, clock, e1, F, hs, hD⟩ := hm
    exact ⟨es, clock, (hk.block bm hlt (h2 bm rfl)).trans e1, F, hs, hD⟩
def OldNew (w : World) (o o' : Option Nat) : Prop := o' = o ∨ ∃ j, o' = some j ∧ w.heap.size ≤ j
set_option maxRecDepth 100000 in
set_option maxHeartbeats 2000000 in
theorem PutK_some {B : Nat} {w : World} {tb : Nat} {fs : Fs} {bm : Nat} (h : TreeAt B w tb fs (some bm)) (p b : List UInt8) (hp : p.length ≤ 1000000) (hfew : fs.length ≤ 1000)
    (HM : Hid (Calls Tryz.prog 78 #[Ptr tb, .string (ba p), .string (ba b)] w fun e w' => e = .returned .nilIface ∧ Below w.heap.size w w')) :
    Calls Tryz.prog 17 #[Ptr tb, .string (ba p), .string (ba b)] w fun e w' => e = .returned .nilIface ∧ (TreeAt B w' tb (Tf.put fs p b) (some bm)) ∧ Below B w w' ∧ Kept (tS tb (some bm)) w w' := by
  have hlt := h.lt
  go_enter Tryz.func17, Tryz.ntmps17
  go_wp2_with fail
  refine HM.out.mono ?_
  rintro e w1 ⟨rfl, g1⟩
  have h1 := h.below g1
  have hc := h1.cell
  have hm := h1.isMap.2.2
  have hq := eq_someMap bm
  go_wp2_with (first
    | (at_mapUpdate; refine wpList_mapUpdate_in _ rfl _ _ _ 136 rfl 9 140 klaw Tryz.underlying136 fileElem bm fs.length (Tf.datum fs) rfl hm (by unfold maxLen; omega) _ _ _ rfl rfl (kkey p hp) _ [] (fileElem_mk b) ?_; intro w2 hown2 hturn2; go_frame)
    | go_in)
  go_wp2
  go_ret
  rw [Tf.datum_put] at hown2
  have hne : some tb ≠ some bm := fun e => h.isMap.2.1 (Option.some.inj e).symm
  have hbk := hturn2.grown.block tb h1.lt hne
  refine ⟨rfl, ⟨h.low, (World.cell?_of_block (a := ⟨tb, 0, none⟩) hbk).trans hc, (World.frozen?_of_block (a := ⟨tb, 0, none⟩) hbk).trans h1.free, h.isMap.1, h.isMap.2.1, ownsMap_tight hown2⟩, ?_⟩
  exact ⟨below_turned (g1.mono (by have := h.low; omega)) (by have := h.low; have := g1.size; omega) h.isMap.1 hturn2, (Kept.of g1).grown hturn2.grown fun j e => .inr (by rw [e])⟩
set_option maxRecDepth 100000 in
set_option maxHeartbeats 2000000 in
theorem PutK_none {B : Nat} {w : World} {tb : Nat} {fs : Fs} (h : TreeAt B w tb fs none) (p b : List UInt8) (hp : p.length ≤ 1000000)
    (HM : Hid (Calls Tryz.prog 78 #[Ptr tb, .string (ba p), .string (ba b)] w fun e w' => e = .returned .nilIface ∧ Below w.heap.size w w')) :
    Calls Tryz.prog 17 #[Ptr tb, .string (ba p), .string (ba b)] w fun e w' => e = .returned .nilIface ∧ (∃ bm, w.heap.size ≤ bm ∧ TreeAt B w' tb (Tf.put fs p b) (some bm)) ∧ Below B w w' ∧ Kept (tS tb none) w w' := by
  have hlt := h.lt
  obtain rfl : fs = [] := h.isMap
  have hmm := @run_makeMap Tryz.prog
  go_enter Tryz.func17, Tryz.ntmps17
  go_wp2_with fail
  refine HM.out.mono ?_
  rintro e w1 ⟨rfl, g1⟩
  have h1 := h.below g1
  have hc := h1.cell
  have hf := h1.free
  have hq := eq_noMap
  have htb := h1.lt
  have eS : (w1.setCell ⟨tb, 0, none⟩ (.map (some w1.heap.size))).heap.size = w1.heap.size := by simp
  have gA : Below w1.heap.size (w1.setCell ⟨tb, 0, none⟩ (.map (some w1.heap.size))) ((w1.setCell ⟨tb, 0, none⟩ (.map (some w1.heap.size))).alloc (.map #[] 0)) := (Below.refl _ _).alloc (by simp) _
  have hcS : ((w1.setCell ⟨tb, 0, none⟩ (.map (some w1.heap.size))).alloc (.map #[] 0)).cell? ⟨tb, 0, none⟩ = some (.map (some w1.heap.size)) :=
    (gA.cell (p := ⟨tb, 0, none⟩) htb).trans (World.cell?_setCell_same' _ _ _ (by rw [hc]; rfl))
  have hfS : Hid (((w1.setCell ⟨tb, 0, none⟩ (.map (some w1.heap.size))).alloc (.map #[] 0)).frozen? ⟨tb, 0, none⟩ = false) :=
    (gA.frozen (p := ⟨tb, 0, none⟩) htb).trans (by rw [World.frozen?_setCell]; exact hf)
  have Hm0 : Hid (((w1.setCell ⟨tb, 0, none⟩ (.map (some w1.heap.size))).alloc (.map #[] 0)).ownsMap Tryz.prog 9 fileElem w1.heap.size 0 (Tf.datum [])) := by
    have := World.ownsMap_made (w1.setCell ⟨tb, 0, none⟩ (.map (some w1.heap.size))) Tryz.prog 9 fileElem
    rw [eS] at this
    exact this
  have gS : Hid (Below B w ((w1.setCell ⟨tb, 0, none⟩ (.map (some w1.heap.size))).alloc (.map #[] 0))) := ((g1.mono (by have := h.low; omega)).setCell (p := ⟨tb, 0, none⟩) h.low _).alloc (by rw [eS]; have := h.low; have := g1.size; omega) _
  have gK : Hid (Kept (tS tb none) w ((w1.setCell ⟨tb, 0, none⟩ (.map (some w1.heap.size))).alloc (.map #[] 0))) := ((Kept.of g1).setCell (p := ⟨tb, 0, none⟩) (.inl rfl) _).alloc _
  have hw1 : Hid (w.heap.size ≤ w1.heap.size) := g1.size
  clear eS gA
  go_wp2_with (first
    | (at_mapUpdate; refine wpList_mapUpdate_in _ rfl _ _ _ 136 rfl 9 140 klaw Tryz.underlying136 fileElem w1.heap.size 0 (Tf.datum []) rfl Hm0.out (by unfold maxLen; omega) _ _ _ rfl rfl (kkey p hp) _ [] (fileElem_mk b) ?_; intro w2 hown2 hturn2; go_frame)
    | go_in)
  go_wp2
  go_ret
  rw [Tf.datum_put] at hown2
  have hne : some tb ≠ some w1.heap.size := fun e => by have := Option.some.inj e; omega
  have hbk := hturn2.grown.block tb (by simp; omega) hne
  refine ⟨rfl, ⟨w1.heap.size, hw1.out, h.low, (World.cell?_of_block (a := ⟨tb, 0, none⟩) hbk).trans hcS, (World.frozen?_of_block (a := ⟨tb, 0, none⟩) hbk).trans hfS.out, by have := h.low; omega, by omega, ownsMap_tight hown2⟩, ?_⟩
  refine ⟨below_turned gS.out (by have := h.low; simp; omega) (by have := h.low; omega) hturn2, ⟨Nat.le_trans gK.out.size hturn2.grown.size, fun j hj hs => ?_⟩⟩
  exact (hturn2.grown.block j (Nat.lt_of_lt_of_le hj gK.out.size) fun e => by have := Option.some.inj e; have := hw1.out; omega).trans (gK.out.block j hj hs)
theorem PutK_calls {B : Nat} {w : World} {tb : Nat} {fs : Fs} {o : Option Nat} {es : Nat → Value} (h : TreeAt B w tb fs o) (hE : TErr w es) (hlen : ∀ f ∈ fs, f.1.length ≤ 1000000) (hfew : fs.length ≤ 1000) (p b : List UInt8) (hp : p.length ≤ 1000000) :
    Calls Tryz.prog 17 #[Ptr tb, .string (ba p), .string (ba b)] w fun e w' => e = .returned (es (Tf.putCode pathB fs p b)) ∧ (∃ o', OldNew w o o' ∧ TreeAt B w' tb (Tf.putF pathB fs p b) o') ∧ Below B w w' ∧ Kept (tS tb o) w w' := by
  have HM := mayPut_calls h hE hlen hfew p b hp
  have hBw : B ≤ w.heap.size := by have := h.low; have := h.lt; omega
  cases hc : Tf.putCode pathB fs p b with
  | zero =>
    rw [hc, hE.nil] at HM
    rw [hE.nil, show Tf.putF pathB fs p b = Tf.put fs p b by simp [Tf.putF, hc]]
    cases o with
    | none => exact (PutK_none h p b hp HM).mono fun e w' ⟨h1, ⟨bm, hb, h2⟩, h3⟩ => ⟨h1, ⟨_, .inr ⟨bm, rfl, hb⟩, h2⟩, h3⟩
    | some bm => exact (PutK_some h p b hp hfew HM).mono fun e w' ⟨h1, h2, h3⟩ => ⟨h1, ⟨_, .inl rfl, h2⟩, h3⟩
  | succ k =>
    obtain ⟨t, u, e⟩ := hE.faces k
    rw [hc, e] at HM
    rw [e, show Tf.putF pathB fs p b = fs by simp [Tf.putF, hc]]
    exact (Put_no h p b t u HM).mono fun e w' ⟨h1, h2⟩ => ⟨h1, ⟨_, .inl rfl, h.below h2⟩, h2.mono hBw, .of h2⟩
end Go.Proofs.YtflbofdpfgkmcaaGreatDoor
