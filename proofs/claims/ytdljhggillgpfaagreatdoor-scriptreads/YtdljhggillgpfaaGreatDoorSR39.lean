import Derived.Test.YtdljhggillgpfaaGreatDoorSR38
set_option maxRecDepth 100000
set_option maxHeartbeats 8000000
namespace Go.Proofs.YtdljhggillgpfaaGreatDoor
open Go.RowKit Go.Shelf Go.Lib Go.Maps
open Tf (Fs)
structure Kept (S : Nat → Prop) (w w' : World) : Prop where
 size : w.heap.size ≤ w'.heap.size
 block : ∀ j,j < w.heap.size → ¬ S j → w'.heap[j]? = w.heap[j]?
theorem Kept.of {S : Nat → Prop} {w w' : World} (h : Below w.heap.size w w') : Kept S w w' := ⟨h.size,fun j hj _ => h.block j hj⟩
theorem Kept.refl (S : Nat → Prop) (w : World) : Kept S w w := ⟨Nat.le_refl _,fun _ _ _ => rfl⟩
theorem Kept.trans {S : Nat → Prop} {a b c : World} (h : Kept S a b) (g : Kept S b c) : Kept S a c :=
 ⟨Nat.le_trans h.size g.size,fun j hj hs => (g.block j (Nat.lt_of_lt_of_le hj h.size) hs).trans (h.block j hj hs)⟩
theorem Kept.alloc {S : Nat → Prop} {a b : World} (h : Kept S a b) (o : Obj) : Kept S a (b.alloc o) := h.trans (.of ((Below.refl _ b).alloc (Nat.le_refl _) o))
theorem Kept.setCell {S : Nat → Prop} {a b : World} (h : Kept S a b) {p : Addr} (hp : S p.block) (v : Value) : Kept S a (b.setCell p v) := by
 refine h.trans ⟨by simp,fun j _ hs => Below.heap_setCell b p v j fun e => hs (e ▸ hp)⟩
theorem Kept.grown {S : Nat → Prop} {a b c : World} {o : Option Nat} (h : Kept S a b) (hg : b.grownBy c o) (ho : ∀ j,o = some j → S j) : Kept S a c :=
 h.trans ⟨hg.size,fun j hj hs => hg.block j hj fun e => hs (ho j e.symm)⟩
theorem Kept.cell {S : Nat → Prop} {w w' : World} (h : Kept S w w') {a : Addr} {u : Value} (hc : w.cell? a = some u) (hs : ¬ S a.block) : w'.cell? a = some u :=
 (World.cell?_of_block (h.block a.block (lt_of_cell hc) hs)).trans hc
def tS (tb : Nat) (o : Option Nat) : Nat → Prop := fun j => j = tb ∨ o = some j
theorem TreeAt.kept {B : Nat} {w w' : World} {tb : Nat} {fs : Fs} {o : Option Nat} {S : Nat → Prop} (h : TreeAt B w tb fs o) (hk : Kept S w w') (h1 : ¬ S tb) (h2 : ∀ j,o = some j → ¬ S j) : TreeAt B w' tb fs o := by
 have hbk := hk.block tb h.lt h1
 refine ⟨h.low,(World.cell?_of_block (a := ⟨tb,0,none⟩) hbk).trans h.cell,(World.frozen?_of_block (a := ⟨tb,0,none⟩) hbk).trans h.free,?_⟩
 cases o with
 | none => exact h.isMap
 | some bm =>
  refine ⟨h.isMap.1,h.isMap.2.1,?_⟩
  have hm := h.isMap.2.2
  have hlt := hm.lt
  obtain ⟨es,clock,e1,F,hs,hD⟩ := hm
  exact ⟨es,clock,(hk.block bm hlt (h2 bm rfl)).trans e1,F,hs,hD⟩
def OldNew (w : World) (o o' : Option Nat) : Prop := o' = o ∨ ∃ j,o' = some j ∧ w.heap.size ≤ j
theorem PutK_some {B : Nat} {w : World} {tb : Nat} {fs : Fs} {bm : Nat} (h : TreeAt B w tb fs (some bm)) (p b : List UInt8) (hp : p.length ≤ 1000000) (hfew : fs.length ≤ 1000)
  (HM : Hid (Calls Tryz.prog 129 #[Ptr tb,.string (ba p),.string (ba b)] w fun e w' => e = .returned .nilIface ∧ Below w.heap.size w w')) :
  Calls Tryz.prog 93 #[Ptr tb,.string (ba p),.string (ba b)] w fun e w' => e = .returned .nilIface ∧ (TreeAt B w' tb (Tf.put fs p b) (some bm)) ∧ Below B w w' ∧ Kept (tS tb (some bm)) w w' := by
 have hlt := h.lt
 go_enter Tryz.func93,Tryz.ntmps93
 go_wp2_with fail
 refine HM.out.mono ?_
 rintro e w1 ⟨rfl,g1⟩
 have h1 := h.below g1
 have hc := h1.cell
 have hm := h1.isMap.2.2
 have hq := eq_someMap bm
 go_wp2_with (first
  | (at_mapUpdate;refine wpList_mapUpdate_in _ rfl _ _ _ 102 rfl 9 156 klaw Tryz.underlying102 fileElem bm fs.length (Tf.datum fs) rfl hm (by unfold maxLen;omega) _ _ _ rfl rfl (kkey p hp) _ [] (fileElem_mk b) ?_;intro w2 hown2 hturn2;go_frame)
  | go_in)
 go_wp2
 go_ret
 rw [Tf.datum_put] at hown2
 have hne : some tb ≠ some bm := fun e => h.isMap.2.1 (Option.some.inj e).symm
 have hbk := hturn2.grown.block tb h1.lt hne
 refine ⟨rfl,⟨h.low,(World.cell?_of_block (a := ⟨tb,0,none⟩) hbk).trans hc,(World.frozen?_of_block (a := ⟨tb,0,none⟩) hbk).trans h1.free,h.isMap.1,h.isMap.2.1,ownsMap_tight hown2⟩,?_⟩
 exact ⟨below_turned (g1.mono (by have := h.low;omega)) (by have := h.low;have := g1.size;omega) h.isMap.1 hturn2,(Kept.of g1).grown hturn2.grown fun j e => .inr (by rw [e])⟩
theorem PutK_none {B : Nat} {w : World} {tb : Nat} {fs : Fs} (h : TreeAt B w tb fs none) (p b : List UInt8) (hp : p.length ≤ 1000000)
  (HM : Hid (Calls Tryz.prog 129 #[Ptr tb,.string (ba p),.string (ba b)] w fun e w' => e = .returned .nilIface ∧ Below w.heap.size w w')) :
  Calls Tryz.prog 93 #[Ptr tb,.string (ba p),.string (ba b)] w fun e w' => e = .returned .nilIface ∧ (∃ bm,w.heap.size ≤ bm ∧ TreeAt B w' tb (Tf.put fs p b) (some bm)) ∧ Below B w w' ∧ Kept (tS tb none) w w' := by
 have hlt := h.lt
 obtain rfl : fs = [] := h.isMap
 have hmm := @run_makeMap Tryz.prog
 go_enter Tryz.func93,Tryz.ntmps93
 go_wp2_with fail
 refine HM.out.mono ?_
 rintro e w1 ⟨rfl,g1⟩
 have h1 := h.below g1
 have hc := h1.cell
 have hf := h1.free
 have hq := eq_noMap
 have htb := h1.lt
 have eS : (w1.setCell ⟨tb,0,none⟩ (.map (some w1.heap.size))).heap.size = w1.heap.size := by simp
 have gA : Below w1.heap.size (w1.setCell ⟨tb,0,none⟩ (.map (some w1.heap.size))) ((w1.setCell ⟨tb,0,none⟩ (.map (some w1.heap.size))).alloc (.map #[] 0)) := (Below.refl _ _).alloc (by simp) _
 have hcS : ((w1.setCell ⟨tb,0,none⟩ (.map (some w1.heap.size))).alloc (.map #[] 0)).cell? ⟨tb,0,none⟩ = some (.map (some w1.heap.size)) :=
  (gA.cell (p := ⟨tb,0,none⟩) htb).trans (World.cell?_setCell_same' _ _ _ (by rw [hc];rfl))
 have hfS : Hid (((w1.setCell ⟨tb,0,none⟩ (.map (some w1.heap.size))).alloc (.map #[] 0)).frozen? ⟨tb,0,none⟩ = false) :=
  (gA.frozen (p := ⟨tb,0,none⟩) htb).trans (by rw [World.frozen?_setCell];exact hf)
 have Hm0 : Hid (((w1.setCell ⟨tb,0,none⟩ (.map (some w1.heap.size))).alloc (.map #[] 0)).ownsMap Tryz.prog 9 fileElem w1.heap.size 0 (Tf.datum [])) := by
  have := World.ownsMap_made (w1.setCell ⟨tb,0,none⟩ (.map (some w1.heap.size))) Tryz.prog 9 fileElem
  rw [eS] at this
  exact this
 have gS : Hid (Below B w ((w1.setCell ⟨tb,0,none⟩ (.map (some w1.heap.size))).alloc (.map #[] 0))) := ((g1.mono (by have := h.low;omega)).setCell (p := ⟨tb,0,none⟩) h.low _).alloc (by rw [eS];have := h.low;have := g1.size;omega) _
 have gK : Hid (Kept (tS tb none) w ((w1.setCell ⟨tb,0,none⟩ (.map (some w1.heap.size))).alloc (.map #[] 0))) := ((Kept.of g1).setCell (p := ⟨tb,0,none⟩) (.inl rfl) _).alloc _
 have hw1 : Hid (w.heap.size ≤ w1.heap.size) := g1.size
 clear eS gA
 go_wp2_with (first
  | (at_mapUpdate;refine wpList_mapUpdate_in _ rfl _ _ _ 102 rfl 9 156 klaw Tryz.underlying102 fileElem w1.heap.size 0 (Tf.datum []) rfl Hm0.out (by unfold maxLen;omega) _ _ _ rfl rfl (kkey p hp) _ [] (fileElem_mk b) ?_;intro w2 hown2 hturn2;go_frame)
  | go_in)
 go_wp2
 go_ret
 rw [Tf.datum_put] at hown2
 have hne : some tb ≠ some w1.heap.size := fun e => by have := Option.some.inj e;omega
 have hbk := hturn2.grown.block tb (by simp;omega) hne
 refine ⟨rfl,⟨w1.heap.size,hw1.out,h.low,(World.cell?_of_block (a := ⟨tb,0,none⟩) hbk).trans hcS,(World.frozen?_of_block (a := ⟨tb,0,none⟩) hbk).trans hfS.out,by have := h.low;omega,by omega,ownsMap_tight hown2⟩,?_⟩
 refine ⟨below_turned gS.out (by have := h.low;simp;omega) (by have := h.low;omega) hturn2,⟨Nat.le_trans gK.out.size hturn2.grown.size,fun j hj hs => ?_⟩⟩
 exact (hturn2.grown.block j (Nat.lt_of_lt_of_le hj gK.out.size) fun e => by have := Option.some.inj e;have := hw1.out;omega).trans (gK.out.block j hj hs)
theorem PutK_calls {B : Nat} {w : World} {tb : Nat} {fs : Fs} {o : Option Nat} {es : Nat → Value} (h : TreeAt B w tb fs o) (hE : TErr w es) (hlen : ∀ f ∈ fs,f.1.length ≤ 1000000) (hfew : fs.length ≤ 1000) (p b : List UInt8) (hp : p.length ≤ 1000000) :
  Calls Tryz.prog 93 #[Ptr tb,.string (ba p),.string (ba b)] w fun e w' => e = .returned (es (Tf.putCode pathB fs p b)) ∧ (∃ o',OldNew w o o' ∧ TreeAt B w' tb (Tf.putF pathB fs p b) o') ∧ Below B w w' ∧ Kept (tS tb o) w w' := by
 have HM := mayPut_calls h hE hlen hfew p b hp
 have hBw : B ≤ w.heap.size := by have := h.low;have := h.lt;omega
 cases hc : Tf.putCode pathB fs p b with
 | zero =>
  rw [hc,hE.nil] at HM
  rw [hE.nil,show Tf.putF pathB fs p b = Tf.put fs p b by simp [Tf.putF,hc]]
  cases o with
  | none => exact (PutK_none h p b hp HM).mono fun e w' ⟨h1,⟨bm,hb,h2⟩,h3⟩ => ⟨h1,⟨_,.inr ⟨bm,rfl,hb⟩,h2⟩,h3⟩
  | some bm => exact (PutK_some h p b hp hfew HM).mono fun e w' ⟨h1,h2,h3⟩ => ⟨h1,⟨_,.inl rfl,h2⟩,h3⟩
 | succ k =>
  obtain ⟨t,u,e⟩ := hE.faces k
  rw [hc,e] at HM
  rw [e,show Tf.putF pathB fs p b = fs by simp [Tf.putF,hc]]
  exact (Put_no h p b t u HM).mono fun e w' ⟨h1,h2⟩ => ⟨h1,⟨_,.inl rfl,h.below h2⟩,h2.mono hBw,.of h2⟩
theorem RemoveK_yes {B : Nat} {w : World} {tb : Nat} {fs : Fs} {bm : Nat} (h : TreeAt B w tb fs (some bm)) (p : List UInt8) (hp : p.length ≤ 1000000) (ht : Tf.hasP fs p = true) :
  Calls Tryz.prog 75 #[Ptr tb,.string (ba p)] w fun e w' => e = .returned .nilIface ∧ TreeAt B w' tb (Tf.del fs p) (some bm) ∧ Below B w w' ∧ Kept (tS tb (some bm)) w w' := by
 have hl := look_tree h p hp
 rw [ht] at hl
 have HA : Hid (Calls Tryz.prog 88 #[Ptr tb] w fun e w' => e = .returned (.map (some bm)) ∧ w' = w) := all_calls tb (some bm) w h.cell
 generalize (Tf.get fs p).getD [] = x at *
 have hc := h.cell
 have g1 : Below w.heap.size w (w.alloc (.cells #[.string (ba x)] 156)) := (Below.refl _ w).alloc (Nat.le_refl _) _
 have h1 := h.below g1
 have hc1 := h1.cell
 have hm := h1.isMap.2.2
 have hBw : B ≤ w.heap.size := by have := h.low;have := h.lt;omega
 clear ht
 go_enter Tryz.func75,Tryz.ntmps75
 go_wp2_with fail
 refine HA.out.mono ?_
 rintro e w' ⟨rfl,rfl⟩
 go_wp2_with (first
  | (at_delete;refine wpList_delete_own _ rfl _ _ 102 9 rfl 156 klaw Tryz.underlying102 fileElem bm fs.length (Tf.datum fs) rfl hm _ _ rfl (kkey p hp) ?_;intro w2 hown2 hturn2;go_frame)
  | go_in)
 go_wp2
 go_ret
 rw [Tf.datum_del] at hown2
 have hne : some tb ≠ some bm := fun e => h.isMap.2.1 (Option.some.inj e).symm
 have hbk := hturn2.grown.block tb h1.lt hne
 refine ⟨rfl,⟨h.low,(World.cell?_of_block (a := ⟨tb,0,none⟩) hbk).trans hc1,(World.frozen?_of_block (a := ⟨tb,0,none⟩) hbk).trans h1.free,h.isMap.1,h.isMap.2.1,ownsMap_tight hown2⟩,?_⟩
 exact ⟨below_turned (g1.mono hBw) (by have := g1.size;omega) h.isMap.1 hturn2,(Kept.of g1).grown hturn2.grown fun j e => .inr (by rw [e])⟩
theorem RemoveK_calls {B : Nat} {w : World} {tb : Nat} {fs : Fs} {o : Option Nat} {es : Nat → Value} (h : TreeAt B w tb fs o) (hE : TErr w es) (p : List UInt8) (hp : p.length ≤ 1000000) :
  Calls Tryz.prog 75 #[Ptr tb,.string (ba p)] w fun e w' => e = .returned (es (if Tf.hasP fs p then 0 else 6)) ∧ (∃ o',OldNew w o o' ∧ TreeAt B w' tb (Tf.del fs p) o') ∧ Below B w w' ∧ Kept (tS tb o) w w' := by
 have hBw : B ≤ w.heap.size := by have := h.low;have := h.lt;omega
 cases ht : Tf.hasP fs p with
 | true =>
  cases o with
  | none =>
   obtain rfl : fs = [] := h.isMap
   simp [Tf.hasP] at ht
  | some bm =>
   simp only [if_true,hE.nil]
   exact (RemoveK_yes h p hp ht).mono fun e w' ⟨h1,h2,h3⟩ => ⟨h1,⟨_,.inl rfl,h2⟩,h3⟩
 | false =>
  simp only [Bool.false_eq_true,if_false]
  rw [Tf.del_none ht]
  exact (Remove_no h hE p hp ht).mono fun e w' ⟨h1,h2⟩ => ⟨h1,⟨_,.inl rfl,h.below h2⟩,h2.mono hBw,.of h2⟩
end Go.Proofs.YtdljhggillgpfaaGreatDoor
namespace Go.Proofs.YtdljhggillgpfaaGreatDoor
open Go.RowKit Go.Shelf Go.Lib Go.Maps
theorem want_err {fs : Tf.Fs} {l : List Ru} {x : List UInt8} (h : (Bf.want Af.actO fs l x).2 ≠ 0) : (Bf.want Af.actO fs l x).1 = [] := by
 unfold Bf.want Bf.wantF at h ⊢
 split
 ·rename_i i hm
  simp only [hm] at h
  unfold Bf.wrule at h ⊢
  split
  ·rename_i h0
   rw [if_pos h0] at h
   unfold Af.actO at h ⊢
   split
   ·rename_i h1
    rw [if_pos h1] at h
    split
    ·rename_i k hk
     simp only [hk] at h
     split
     ·rfl
     ·rename_i h2
      rw [if_neg h2] at h
      exact absurd rfl h
    ·rfl
   ·rfl
  ·rfl
 ·rename_i hm
  simp only [hm] at h
  split
  ·rename_i b hb
   simp only [hb] at h
   exact absurd rfl h
  ·rfl
end Go.Proofs.YtdljhggillgpfaaGreatDoor
namespace Go.Proofs.YtdljhggillgpfaaGreatDoor
namespace Tf
end Tf
namespace Bf
def outS (l : List Ru) (d : Bd) (t : Tf.Fs) (i : Nat) : Tf.Fs :=
 match d.st i with
 | .done s _ => Tf.putF pathB t (l.getD i ⟨[],[],[],[]⟩).out s
 | .failed _ => Tf.del t (l.getD i ⟨[],[],[],[]⟩).out
 | .left => Tf.del t (l.getD i ⟨[],[],[],[]⟩).out
 | _ => t
def outW (l : List Ru) (d : Bd) (o : List Nat) (t : Tf.Fs) : Tf.Fs := o.foldl (outS l d) t
end Bf
end Go.Proofs.YtdljhggillgpfaaGreatDoor
namespace Go.Proofs.YtdljhggillgpfaaGreatDoor
open Go.RowKit Go.Shelf Go.Lib
namespace Bf
def off (fs os : Tf.Fs) (l : List Ru) (p : List UInt8) : Bool := Tf.get os p != (if (want Af.actO fs l p).2 = 0 then some (want Af.actO fs l p).1 else none)
def stale (fs os : Tf.Fs) (l : List Ru) : List (List UInt8) := Af.srt ((l.map Ru.out).filter (off fs os l))
end Bf
end Go.Proofs.YtdljhggillgpfaaGreatDoor
namespace Go.Proofs.YtdljhggillgpfaaGreatDoor
open Go.RowKit Go.Shelf Go.Lib
namespace Bf
def whole (l : List Ru) (outs : List (List UInt8)) : List (List UInt8) := if outs = [] then l.map Ru.out else outs
theorem whole_len {l : List Ru} {outs : List (List UInt8)} {n : Nat} (h : l.length ≤ n) (h' : outs.length ≤ n) : (whole l outs).length ≤ n := by
 unfold whole
 split
 ·simpa using h
 ·exact h'
structure Yd where
 fs : Tf.Fs
 os : Tf.Fs
 l : List Ru
 c : Ca
noncomputable def Yd.made (y : Yd) (outs : List (List UInt8)) : Bd × Ca := all Af.actO y.c (init y.fs y.l (whole y.l outs))
noncomputable def Yd.make (y : Yd) (outs : List (List UInt8)) : Yd :=
 { y with os := outW y.l (y.made outs).1 ((Ru.order y.l fun _ => true).getD []) y.os,c := (y.made outs).2 }
end Bf
end Go.Proofs.YtdljhggillgpfaaGreatDoor
namespace Go.Proofs.YtdljhggillgpfaaGreatDoor
namespace Bf
def layS (l : List Ru) (d : Bd) (t : Tf.Fs) (i : Nat) : Tf.Fs :=
 match d.st i with
 | .done s _ => Tf.putF pathB t (l.getD i ⟨[],[],[],[]⟩).out s
 | _ => t
def layW (l : List Ru) (d : Bd) (o : List Nat) (t : Tf.Fs) : Tf.Fs := o.foldl (layS l d) t
def sweepS (l : List Ru) (d : Bd) (t : Tf.Fs) (i : Nat) : Tf.Fs :=
 if (d.st i).isBad = true then Tf.del t (l.getD i ⟨[],[],[],[]⟩).out else t
def sweepW (l : List Ru) (d : Bd) (n : Nat) (t : Tf.Fs) : Tf.Fs := (List.range n).foldl (sweepS l d) t
def outP (l : List Ru) (d : Bd) (o : List Nat) (t : Tf.Fs) : Tf.Fs := sweepW l d l.length (layW l d o t)
theorem layS_well {l : List Ru} {d : Bd} {t : Tf.Fs} (h : Tf.Well pathB t) (i : Nat) : Tf.Well pathB (layS l d t i) := by
 unfold layS
 split
 ·exact h.putF _ _
 ·exact h
theorem layW_well {l : List Ru} {d : Bd} : ∀ (o : List Nat) {t : Tf.Fs},Tf.Well pathB t → Tf.Well pathB (layW l d o t)
 | [],_,h => h
 | i :: r,_,h => layW_well (l := l) (d := d) r (layS_well h i)
theorem layW_snoc (l : List Ru) (d : Bd) (o : List Nat) (t : Tf.Fs) (i : Nat) : layW l d (o ++ [i]) t = layS l d (layW l d o t) i := by simp [layW]
theorem sweepW_succ (l : List Ru) (d : Bd) (n : Nat) (t : Tf.Fs) : sweepW l d (n + 1) t = sweepS l d (sweepW l d n t) n := by
 unfold sweepW
 rw [List.range_succ,List.foldl_append]
 rfl
theorem sweepS_well {l : List Ru} {d : Bd} {t : Tf.Fs} (h : Tf.Well pathB t) (i : Nat) : Tf.Well pathB (sweepS l d t i) := by
 unfold sweepS
 split
 ·exact h.del _
 ·exact h
theorem sweepW_well {l : List Ru} {d : Bd} {t : Tf.Fs} (h : Tf.Well pathB t) : ∀ n,Tf.Well pathB (sweepW l d n t)
 | 0 => h
 | n + 1 => by rw [sweepW_succ];exact sweepS_well (sweepW_well h n) n
theorem outP_well {l : List Ru} {d : Bd} {o : List Nat} {t : Tf.Fs} (h : Tf.Well pathB t) : Tf.Well pathB (outP l d o t) := sweepW_well (layW_well o h) _
end Bf
end Go.Proofs.YtdljhggillgpfaaGreatDoor
namespace Go.Proofs.YtdljhggillgpfaaGreatDoor
open Go.RowKit Go.Shelf Go.Lib
theorem CaAt.sameG {es : Nat → Addr} {At : (Nat → Prop) → World → Value → Nat → Cf.Ens → Prop} (HC : Caches0 es At) {SC : Nat → Prop} {W W' : World} {cv : Value} {c : Bf.Ca} (h : CaAt At SC W cv c) (hz : W.heap.size ≤ W'.heap.size) (hb : ∀ k,SC k → W'.heap[k]? = W.heap[k]?) : CaAt At SC W' cv c := by
 cases c with
 | none => exact h
 | some x => exact ⟨h.1,HC.same _ _ _ _ _ _ h.2 hz hb⟩
theorem CaAt.ltG {es : Nat → Addr} {At : (Nat → Prop) → World → Value → Nat → Cf.Ens → Prop} (HC : Caches0 es At) {SC : Nat → Prop} {W : World} {cv : Value} {c : Bf.Ca} (h : CaAt At SC W cv c) : ∀ k,SC k → k < W.heap.size := by
 cases c with
 | none => exact fun k hk => absurd hk (h.2 k)
 | some x => exact HC.lt _ _ _ _ _ h.2
end Go.Proofs.YtdljhggillgpfaaGreatDoor
namespace Go.Proofs.YtdljhggillgpfaaGreatDoor
open Go.RowKit Go.Shelf Go.Lib
structure YL where
 tb : Nat
 ob : Nat
 lv : Value
 cv : Value
 o1 : Option Nat
 o2 : Option Nat
 SC : Nat → Prop
 R : Nat → Prop
 k : Nat → Nat
def YL.more (L : YL) (n g : Nat) : Nat → Nat := fun j => if j < n then L.k j else g
theorem YL.more_old (L : YL) {n g j : Nat} (h : j < n) : L.more n g j = L.k j := by unfold YL.more;rw [if_pos h]
theorem YL.more_new (L : YL) {n g j : Nat} (h : n ≤ j) : L.more n g j = g := by unfold YL.more;rw [if_neg (by omega)]
structure YdAt (At : (Nat → Prop) → World → Value → Nat → Cf.Ens → Prop) (B : Nat) (W : World) (yb : Nat) (L : YL) (y : Bf.Yd) : Prop where
 row : W.heap[yb]? = some (.cells #[Ptr L.tb,Ptr L.ob,L.lv,L.cv] 78 (0,0))
 low : B ≤ yb
 t : TreeAt B W L.tb y.fs L.o1
 o : TreeAt B W L.ob y.os L.o2
 ca : CaAt At L.SC W L.cv y.c
 cp : ∃ p,L.cv = .pointer (some p)
 lowC : ∀ j,L.SC j → B ≤ j
 rows : ∀ W' : World,W.heap.size ≤ W'.heap.size → (∀ j,L.R j → W'.heap[j]? = W.heap[j]?) → RRow W' L.lv y.l
 rlt : ∀ j,L.R j → j < W.heap.size
 ky : L.k yb = 0
 kt : L.k L.tb = 1
 k1 : ∀ j,L.o1 = some j → L.k j = 1
 ko : L.k L.ob = 2
 k2 : ∀ j,L.o2 = some j → L.k j = 2
 kc : ∀ j,L.SC j → L.k j = 3
 kr : ∀ j,L.R j → L.k j = 4
variable {es : Nat → Addr} {At : (Nat → Prop) → World → Value → Nat → Cf.Ens → Prop}
theorem YdAt.lt {B : Nat} {W : World} {yb : Nat} {L : YL} {y : Bf.Yd} (h : YdAt At B W yb L y) : yb < W.heap.size := (Array.getElem?_eq_some_iff.1 h.row).1
theorem YdAt.rrow {B : Nat} {W : World} {yb : Nat} {L : YL} {y : Bf.Yd} (h : YdAt At B W yb L y) : RRow W L.lv y.l := h.rows W (Nat.le_refl _) fun _ _ => rfl
theorem YdAt.c0 {B : Nat} {W : World} {yb : Nat} {L : YL} {y : Bf.Yd} (h : YdAt At B W yb L y) : W.cell? ⟨yb,0,none⟩ = some (Ptr L.tb) := cell_of_row (j := 0) h.row rfl
theorem YdAt.c1 {B : Nat} {W : World} {yb : Nat} {L : YL} {y : Bf.Yd} (h : YdAt At B W yb L y) : W.cell? ⟨yb,1,none⟩ = some (Ptr L.ob) := cell_of_row (j := 1) h.row rfl
theorem YdAt.c2 {B : Nat} {W : World} {yb : Nat} {L : YL} {y : Bf.Yd} (h : YdAt At B W yb L y) : W.cell? ⟨yb,2,none⟩ = some L.lv := cell_of_row (j := 2) h.row rfl
theorem YdAt.c3 {B : Nat} {W : World} {yb : Nat} {L : YL} {y : Bf.Yd} (h : YdAt At B W yb L y) : W.cell? ⟨yb,3,none⟩ = some L.cv := cell_of_row (j := 3) h.row rfl
theorem YdAt.mapt {B : Nat} {W : World} {yb : Nat} {L : YL} {y : Bf.Yd} (h : YdAt At B W yb L y) {j : Nat} (e : L.o1 = some j) : j < W.heap.size := by
 have := h.t.isMap
 rw [e] at this
 exact this.2.2.lt
theorem YdAt.mapo {B : Nat} {W : World} {yb : Nat} {L : YL} {y : Bf.Yd} (h : YdAt At B W yb L y) {j : Nat} (e : L.o2 = some j) : j < W.heap.size := by
 have := h.o.isMap
 rw [e] at this
 exact this.2.2.lt
theorem YdAt.krow {B : Nat} {W W' : World} {yb : Nat} {L : YL} {y : Bf.Yd} (h : YdAt At B W yb L y) {g : Nat} (hk : Kept (fun j => L.k j = g) W W') (hg : g ≠ 0) : W'.heap[yb]? = some (.cells #[Ptr L.tb,Ptr L.ob,L.lv,L.cv] 78 (0,0)) :=
 (hk.block yb h.lt fun e => hg (by rw [← e,h.ky])).trans h.row
theorem YdAt.kfiles {B : Nat} {W W' : World} {yb : Nat} {L : YL} {y : Bf.Yd} (h : YdAt At B W yb L y) {g : Nat} (hk : Kept (fun j => L.k j = g) W W') (hg : g ≠ 1) : TreeAt B W' L.tb y.fs L.o1 :=
 h.t.kept hk (fun e => hg (by rw [← e,h.kt])) fun j hj e => hg (by rw [← e,h.k1 j hj])
theorem YdAt.kout {B : Nat} {W W' : World} {yb : Nat} {L : YL} {y : Bf.Yd} (h : YdAt At B W yb L y) {g : Nat} (hk : Kept (fun j => L.k j = g) W W') (hg : g ≠ 2) : TreeAt B W' L.ob y.os L.o2 :=
 h.o.kept hk (fun e => hg (by rw [← e,h.ko])) fun j hj e => hg (by rw [← e,h.k2 j hj])
theorem YdAt.kcache (HC : Caches0 es At) {B : Nat} {W W' : World} {yb : Nat} {L : YL} {y : Bf.Yd} (h : YdAt At B W yb L y) {g : Nat} (hk : Kept (fun j => L.k j = g) W W') (hg : g ≠ 3) : CaAt At L.SC W' L.cv y.c :=
 h.ca.sameG HC hk.size fun j hj => hk.block j (h.ca.ltG HC j hj) fun e => hg (by rw [← e,h.kc j hj])
theorem YdAt.krules {B : Nat} {W W' : World} {yb : Nat} {L : YL} {y : Bf.Yd} (h : YdAt At B W yb L y) {g : Nat} (hk : Kept (fun j => L.k j = g) W W') (hg : g ≠ 4) : ∀ V : World,W'.heap.size ≤ V.heap.size → (∀ j,L.R j → V.heap[j]? = W'.heap[j]?) → RRow V L.lv y.l := fun V hz hV =>
 h.rows V (Nat.le_trans hk.size hz) fun j hj => (hV j hj).trans (hk.block j (h.rlt j hj) fun e => hg (by rw [← e,h.kr j hj]))
theorem YdAt.aside (HC : Caches0 es At) {B : Nat} {W W' : World} {yb : Nat} {L : YL} {y : Bf.Yd} (h : YdAt At B W yb L y) (hk : Kept (fun j => L.k j = 9) W W') : YdAt At B W' yb L y :=
 ⟨h.krow hk (by decide),h.low,h.kfiles hk (by decide),h.kout hk (by decide),h.kcache HC hk (by decide),h.cp,h.lowC,h.krules hk (by decide),fun j hj => Nat.lt_of_lt_of_le (h.rlt j hj) hk.size,h.ky,h.kt,h.k1,h.ko,h.k2,h.kc,h.kr⟩
theorem YdAt.below (HC : Caches0 es At) {B : Nat} {W W' : World} {yb : Nat} {L : YL} {y : Bf.Yd} (h : YdAt At B W yb L y) (hb : Below W.heap.size W W') : YdAt At B W' yb L y := h.aside HC (.of hb)
theorem YdAt.retag (HC : Caches0 es At) {B : Nat} {W : World} {yb : Nat} {L : YL} {y : Bf.Yd} (h : YdAt At B W yb L y) (g : Nat) : YdAt At B W yb { L with k := L.more W.heap.size g } y :=
 ⟨h.row,h.low,h.t,h.o,h.ca,h.cp,h.lowC,h.rows,h.rlt,(L.more_old h.lt).trans h.ky,(L.more_old h.t.lt).trans h.kt,fun j hj => (L.more_old (h.mapt hj)).trans (h.k1 j hj),(L.more_old h.o.lt).trans h.ko,fun j hj => (L.more_old (h.mapo hj)).trans (h.k2 j hj),fun j hj => (L.more_old (h.ca.ltG HC j hj)).trans (h.kc j hj),fun j hj => (L.more_old (h.rlt j hj)).trans (h.kr j hj)⟩
theorem YdAt.files (HC : Caches0 es At) {B : Nat} {W W' : World} {yb : Nat} {L : YL} {y : Bf.Yd} (h : YdAt At B W yb L y) {fs : Tf.Fs} {o' : Option Nat} (hT : TreeAt B W' L.tb fs o') (hon : OldNew W L.o1 o') (hK : Kept (tS L.tb L.o1) W W') : YdAt At B W' yb { L with o1 := o',k := L.more W.heap.size 1 } { y with fs := fs } := by
 have hk : Kept (fun j => L.k j = 1) W W' := ⟨hK.size,fun j hj hs => hK.block j hj fun e => hs (e.elim (fun e => by rw [e];exact h.kt) fun e => h.k1 j e)⟩
 have hS : ∀ j,L.SC j → L.more W.heap.size 1 j = 3 := fun j hj => by rw [L.more_old (h.ca.ltG HC j hj)];exact h.kc j hj
 refine ⟨h.krow hk (by decide),h.low,hT,h.kout hk (by decide),h.kcache HC hk (by decide),h.cp,h.lowC,h.krules hk (by decide),fun j hj => Nat.lt_of_lt_of_le (h.rlt j hj) hK.size,(L.more_old h.lt).trans h.ky,(L.more_old h.t.lt).trans h.kt,fun j hj => ?_,(L.more_old h.o.lt).trans h.ko,fun j hj => (L.more_old (h.mapo hj)).trans (h.k2 j hj),hS,fun j hj => (L.more_old (h.rlt j hj)).trans (h.kr j hj)⟩
 rcases hon with e | ⟨i,e,hi⟩
 ·have hj' : L.o1 = some j := e ▸ hj
  exact (L.more_old (h.mapt hj')).trans (h.k1 j hj')
 ·have : i = j := by have := e.symm.trans hj;exact Option.some.inj this
  subst this
  exact L.more_new hi
theorem YdAt.outs (HC : Caches0 es At) {B : Nat} {W W' : World} {yb : Nat} {L : YL} {y : Bf.Yd} (h : YdAt At B W yb L y) {os : Tf.Fs} {o' : Option Nat} (hT : TreeAt B W' L.ob os o') (hon : OldNew W L.o2 o') (hK : Kept (tS L.ob L.o2) W W') : YdAt At B W' yb { L with o2 := o',k := L.more W.heap.size 2 } { y with os := os } := by
 have hk : Kept (fun j => L.k j = 2) W W' := ⟨hK.size,fun j hj hs => hK.block j hj fun e => hs (e.elim (fun e => by rw [e];exact h.ko) fun e => h.k2 j e)⟩
 have hS : ∀ j,L.SC j → L.more W.heap.size 2 j = 3 := fun j hj => by rw [L.more_old (h.ca.ltG HC j hj)];exact h.kc j hj
 refine ⟨h.krow hk (by decide),h.low,h.kfiles hk (by decide),hT,h.kcache HC hk (by decide),h.cp,h.lowC,h.krules hk (by decide),fun j hj => Nat.lt_of_lt_of_le (h.rlt j hj) hK.size,(L.more_old h.lt).trans h.ky,(L.more_old h.t.lt).trans h.kt,fun j hj => (L.more_old (h.mapt hj)).trans (h.k1 j hj),(L.more_old h.o.lt).trans h.ko,fun j hj => ?_,hS,fun j hj => (L.more_old (h.rlt j hj)).trans (h.kr j hj)⟩
 rcases hon with e | ⟨i,e,hi⟩
 ·have hj' : L.o2 = some j := e ▸ hj
  exact (L.more_old (h.mapo hj')).trans (h.k2 j hj')
 ·have : i = j := by have := e.symm.trans hj;exact Option.some.inj this
  subst this
  exact L.more_new hi
theorem YdAt.cached {B : Nat} {W W' : World} {yb : Nat} {L : YL} {y : Bf.Yd} (h : YdAt At B W yb L y) {c : Bf.Ca} {SC : Nat → Prop} (hC : CaAt At SC W' L.cv c) (hz : W.heap.size ≤ W'.heap.size) (hb : ∀ j,j < W.heap.size → ¬ L.SC j → W'.heap[j]? = W.heap[j]?) (hS : ∀ j,SC j → L.SC j ∨ W.heap.size ≤ j) (hlt : ∀ j,L.SC j → j < W.heap.size) : YdAt At B W' yb { L with SC := SC,k := L.more W.heap.size 3 } { y with c := c } := by
 have hk : Kept (fun j => L.k j = 3) W W' := ⟨hz,fun j hj hs => hb j hj fun e => hs (h.kc j e)⟩
 have hB : B ≤ W.heap.size := by have := h.low;have := h.lt;omega
 refine ⟨h.krow hk (by decide),h.low,h.kfiles hk (by decide),h.kout hk (by decide),hC,h.cp,fun j hj => ?_,h.krules hk (by decide),fun j hj => Nat.lt_of_lt_of_le (h.rlt j hj) hz,(L.more_old h.lt).trans h.ky,(L.more_old h.t.lt).trans h.kt,fun j hj => (L.more_old (h.mapt hj)).trans (h.k1 j hj),(L.more_old h.o.lt).trans h.ko,fun j hj => (L.more_old (h.mapo hj)).trans (h.k2 j hj),fun j hj => ?_,fun j hj => (L.more_old (h.rlt j hj)).trans (h.kr j hj)⟩
 ·rcases hS j hj with e | e
  ·exact h.lowC j e
  ·omega
 ·rcases hS j hj with e | e
  ·exact (L.more_old (hlt j e)).trans (h.kc j e)
  ·exact L.more_new e
theorem YdAt.ruled (HC : Caches0 es At) {B : Nat} {W w1 : World} {yb : Nat} {L : YL} {y : Bf.Yd} (h : YdAt At B W yb L y) (hb : Below W.heap.size W w1) {lv : Value} {l : List Ru} (hl : ∀ V : World,w1.heap.size ≤ V.heap.size → (∀ j,W.heap.size ≤ j → j < w1.heap.size → V.heap[j]? = w1.heap[j]?) → RRow V lv l) (hr : (w1.setCell ⟨yb,2,none⟩ lv).heap[yb]? = some (.cells #[Ptr L.tb,Ptr L.ob,lv,L.cv] 78 (0,0))) :
  YdAt At B (w1.setCell ⟨yb,2,none⟩ lv) yb { L with lv := lv,R := fun j => W.heap.size ≤ j ∧ j < w1.heap.size,k := L.more W.heap.size 4 } { y with l := l } := by
 have e1 : (w1.setCell ⟨yb,2,none⟩ lv).heap.size = w1.heap.size := by simp
 have hk : Kept (fun j => L.k j = 0) W (w1.setCell ⟨yb,2,none⟩ lv) := ⟨by rw [e1];exact hb.size,fun j hj hs => (Below.heap_setCell _ _ _ _ fun e => hs (by have e' : j = yb := e;rw [e'];exact h.ky)).trans (hb.block j hj)⟩
 have hyl := h.lt
 have hS : ∀ j,L.SC j → L.more W.heap.size 4 j = 3 := fun j hj => by rw [L.more_old (h.ca.ltG HC j hj)];exact h.kc j hj
 refine ⟨hr,h.low,h.kfiles hk (by decide),h.kout hk (by decide),h.kcache HC hk (by decide),h.cp,h.lowC,fun V hz hV => hl V (by rw [← e1];exact hz) fun j h1 h2 => (hV j ⟨h1,h2⟩).trans (Below.heap_setCell _ _ _ _ fun e => by have e' : j = yb := e;omega),fun j hj => by rw [e1];exact hj.2,(L.more_old h.lt).trans h.ky,(L.more_old h.t.lt).trans h.kt,fun j hj => (L.more_old (h.mapt hj)).trans (h.k1 j hj),(L.more_old h.o.lt).trans h.ko,fun j hj => (L.more_old (h.mapo hj)).trans (h.k2 j hj),hS,fun j hj => L.more_new hj.1⟩
end Go.Proofs.YtdljhggillgpfaaGreatDoor
namespace Go.Proofs.YtdljhggillgpfaaGreatDoor
open Go.RowKit Go.Shelf Go.Lib
variable {es : Nat → Addr} {At : (Nat → Prop) → World → Value → Nat → Cf.Ens → Prop}
theorem yNew_calls (HC : Caches0 es At) (W : World) (m : Nat) (h1 : 1 ≤ m) (h2 : m ≤ 100) :
  Calls Tryz.prog 24 #[.int .i64 m] W fun e w' => ∃ yb L,e = .returned (.tuple #[Ptr yb,.nilIface]) ∧ Below W.heap.size W w' ∧ YdAt At W.heap.size w' yb L ⟨[],[],[],some (m,[])⟩ := by
 have H0 := hid1 (HC.make W m h1 h2)
 have HCs := hid1 HC
 go_enter Tryz.func24,Tryz.ntmps24
 go_wp2_with fail
 refine H0.out.mono ?_
 rintro e w1 ⟨p,S,rfl,g1,hA,hS⟩
 have HA := hid1 (And.intro hA hS)
 have N1 := hid1 (New_calls w1)
 go_wp2_with fail
 refine N1.out.mono ?_
 rintro e w2 ⟨rfl,hT,g2⟩
 have N2 := hid1 (New_calls w2)
 have HT := hid1 hT
 go_wp2_with fail
 refine N2.out.mono ?_
 rintro e w3 ⟨rfl,hO,g3⟩
 have HO := hid1 hO
 go_wp2
 go_ret2
 have hO := HO.out
 have gA : Below w3.heap.size w3 (w3.alloc (.cells #[Ptr w1.heap.size,Ptr w2.heap.size,.slice none 0 0,.pointer (some p)] 78)) := (Below.refl _ w3).alloc (Nat.le_refl _) _
 have z1 := g1.size
 have zt := HT.out.lt
 have zo := hO.lt
 have hlt : ∀ j,S j → j < w1.heap.size := HCs.out.lt _ _ _ _ _ HA.out.1
 refine ⟨w3.heap.size,⟨w1.heap.size,w2.heap.size,.slice none 0 0,.pointer (some p),none,none,S,fun _ => False,fun j => if j < w1.heap.size then 3 else if j = w1.heap.size then 1 else if j = w2.heap.size then 2 else 0⟩,rfl,below_then g1 (below_then g2 (below_then g3 gA)),?_⟩
 have e1 : ¬ w3.heap.size < w1.heap.size := by omega
 have e2 : w3.heap.size ≠ w1.heap.size := by omega
 have e3 : w3.heap.size ≠ w2.heap.size := by omega
 have e4 : ¬ w2.heap.size < w1.heap.size := by omega
 have e5 : w2.heap.size ≠ w1.heap.size := by omega
 exact ⟨row_newW w3 _,by omega,((HT.out.below g3).below gA).mono z1,(hO.below gA).mono (by omega),⟨⟨_,rfl⟩,HCs.out.same _ _ _ _ _ _ HA.out.1 (by have := gA.size;omega) fun k hk => (gA.block k (by have := hlt k hk;omega)).trans ((g3.block k (by have := hlt k hk;omega)).trans (g2.block k (hlt k hk)))⟩,⟨_,rfl⟩,HA.out.2,fun W' _ _ => RRow.nil W',fun j h => h.elim,
  (by simp [e1,e2,e3]),(by simp),fun j h => (by cases h),(by simp [e4,e5]),fun j h => (by cases h),fun j hj => (by simp [hlt j hj]),fun j h => h.elim⟩
theorem yTree_calls {B : Nat} {W : World} {yb : Nat} {L : YL} {y : Bf.Yd} (h : YdAt At B W yb L y) : Calls Tryz.prog 58 #[Ptr yb] W fun e w' => e = .returned (Ptr L.tb) ∧ w' = W := by
 have c := h.c0
 go_enter Tryz.func58,Tryz.ntmps58
 go_wp2
 go_ret
 exact ⟨rfl,rfl⟩
theorem yOut_calls {B : Nat} {W : World} {yb : Nat} {L : YL} {y : Bf.Yd} (h : YdAt At B W yb L y) : Calls Tryz.prog 76 #[Ptr yb] W fun e w' => e = .returned (Ptr L.ob) ∧ w' = W := by
 have c := h.c1
 go_enter Tryz.func76,Tryz.ntmps76
 go_wp2
 go_ret
 exact ⟨rfl,rfl⟩
theorem youts_calls {B : Nat} {W : World} {yb : Nat} {L : YL} {y : Bf.Yd} (h : YdAt At B W yb L y) (hl : y.l.length ≤ 1000) :
  Calls Tryz.prog 81 #[Ptr yb] W fun e w' => ∃ u,e = .returned u ∧ w'.ownsRow W.heap.size 9 1 u y.l.length ((y.l.map Ru.out).map sv) ∧ Below W.heap.size W w' := by
 have c := h.c2
 obtain ⟨p,cap,e,hcap,-,hin⟩ := h.rrow
 rw [e] at c
 have HI := hid1 hin
 obtain ⟨i0,hi,hz0,hz1,hz2⟩ := info_parts Tryz.infoStr
 generalize y.l = l at *
 go_enter Tryz.func81,Tryz.ntmps81
 go_wp2
 go_loopw [3,11] (fun ov iv wr => ∃ j : Nat,j ≤ l.length ∧ iv = .int .i64 j ∧ wr.ownsRow W.heap.size 9 1 ov j (((l.take j).map Ru.out).map sv) ∧ Below W.heap.size W wr) (fun _ iv _ => l.length - (intOf iv).toNat)
 case atStart => exact ⟨0,Nat.zero_le _,rfl,World.ownsRow_nil _ _ _ _,Below.refl _ _⟩
 case round =>
  obtain ⟨j,hj,rfl,hO,B⟩ := hrel
  have HO := hid1 hO
  have j0 : (0 : Int) ≤ (j : Int) := by omega
  by_cases hlt : j < l.length
  ·have j1 : (j : Int) < (l.length : Int) := by omega
   obtain ⟨g,o,rfl,hg,hc⟩ := HI.out (by intro e;rw [e] at hlt;simp at hlt)
   obtain ⟨b0,b1,b2,v3,b3,bx⟩ := hc j hlt
   have d0 := cell_below' b0 B
   have d1 := cell_below' b1 B
   have d2 := cell_below' b2 B
   have d3 := cell_below' b3 B
   obtain ⟨p3,cap3,rfl,-⟩ := bx
   have hst : ∀ (a : Addr) (m : Mode) (W : World),Sem.run Tryz.prog (store a (.slice p3 l[j].ins.length cap3) m) W = stored Tryz.prog W a (.slice p3 l[j].ins.length cap3) m := fun a m W => run_store _ W a _ m rfl
   have HS : Hid (((l.take (j + 1)).map Ru.out).map sv = ((l.take j).map Ru.out).map sv ++ [sv l[j].out]) := hid1 (by
    rw [List.take_succ_eq_append_getElem hlt,List.map_append,List.map_append]
    rfl)
   have hbz := B.size
   have hml : j + 1 ≤ maxLen := by unfold maxLen;omega
   have B3 := B.alloc hbz (.cells #[.string (ba l[j].out),.string (ba l[j].kind),.string (ba l[j].word),.slice p3 l[j].ins.length cap3] 36)
   have hrow := HO.out.alloc (.cells #[.string (ba l[j].out),.string (ba l[j].kind),.string (ba l[j].word),.slice p3 l[j].ins.length cap3] 36)
   have hbz3 := B3.size
   go_wp2_with (at_builtin;refine wpList_append_own _ rfl _ _ 22 rfl W.heap.size 9 i0 (.string ⟨#[]⟩) 1 16 Tryz.underlying22 hi hz0 hz1 hz2 rfl (by decide) _ _ _ rfl (hrow.alloc _) ⟨wr.heap.size + 1,0,none⟩ 1 1 [.string (ba l[j].out)] rfl rfl (one_new _ _ _ _ (by simp)) (by simp [Value.oneCell']) hml (by omega) (by simp;omega) ?_;intro v' w4 hown' hgrow _)
   exact ⟨⟨j + 1,by omega,by go_num,by rw [HS.out];exact hown',below_appended B3 hbz3 hrow hgrow⟩,by simp [intOf];omega⟩
  ·have j1 : (l.length : Int) ≤ (j : Int) := by omega
   obtain rfl : j = l.length := by omega
   have hO := HO.out
   rw [List.take_length] at hO
   have HQ := hid1 hO
   go_wp2
   go_ret
   exact ⟨_,rfl,HQ.out,B⟩
end Go.Proofs.YtdljhggillgpfaaGreatDoor
