import Derived.Test.YtdljhggillgpfaaGreatDoorSA31
set_option maxRecDepth 100000
set_option maxHeartbeats 16000000
namespace Go.Proofs.YtdljhggillgpfaaGreatDoor
open Go.RowKit Go.Shelf Go.Lib Go.Maps
open Tf (Fs)
structure Kept (S : Nat → Prop) (w w' : World) : Prop where
 size : w.heap.size ≤ w'.heap.size
 block : ∀ j,j < w.heap.size → ¬ S j → w'.heap[j]? = w.heap[j]?
theorem Kept.of {S : Nat → Prop} {w w' : World} (h : Below w.heap.size w w') : Kept S w w' := ⟨h.size,fun j hj _ => h.block j hj⟩
theorem Kept.refl (S : Nat → Prop) (w : World) : Kept S w w := ⟨Nat.le_refl _,fun _ _ _ => rfl⟩
theorem Kept.trans {S : Nat → Prop} {a b c : World} (h : Kept S a b) (g : Kept S b c) : Kept S a c :=
 ⟨Nat.le_trans h.size g.size,fun j hj hs => (g.block j (Nat.lt_of_lt_of_le hj h.size) hs).trans (h.block j hj hs)⟩
theorem Kept.alloc {S : Nat → Prop} {a b : World} (h : Kept S a b) (o : Obj) : Kept S a (b.alloc o) := h.trans (.of ((Below.refl _ b).alloc (Nat.le_refl _) o))
theorem Kept.setCell {S : Nat → Prop} {a b : World} (h : Kept S a b) {p : Addr} (hp : S p.block) (v : Value) : Kept S a (b.setCell p v) := by
 refine h.trans ⟨by simp,fun j _ hs => Below.heap_setCell b p v j fun e => hs (e ▸ hp)⟩
theorem Kept.grown {S : Nat → Prop} {a b c : World} {o : Option Nat} (h : Kept S a b) (hg : b.grownBy c o) (ho : ∀ j,o = some j → S j) : Kept S a c :=
 h.trans ⟨hg.size,fun j hj hs => hg.block j hj fun e => hs (ho j e.symm)⟩
theorem Kept.cell {S : Nat → Prop} {w w' : World} (h : Kept S w w') {a : Addr} {u : Value} (hc : w.cell? a = some u) (hs : ¬ S a.block) : w'.cell? a = some u :=
 (World.cell?_of_block (h.block a.block (lt_of_cell hc) hs)).trans hc
def tS (tb : Nat) (o : Option Nat) : Nat → Prop := fun j => j = tb ∨ o = some j
theorem TreeAt.kept {B : Nat} {w w' : World} {tb : Nat} {fs : Fs} {o : Option Nat} {S : Nat → Prop} (h : TreeAt B w tb fs o) (hk : Kept S w w') (h1 : ¬ S tb) (h2 : ∀ j,o = some j → ¬ S j) : TreeAt B w' tb fs o := by
 have hbk := hk.block tb h.lt h1
 refine ⟨h.low,(World.cell?_of_block (a := ⟨tb,0,none⟩) hbk).trans h.cell,(World.frozen?_of_block (a := ⟨tb,0,none⟩) hbk).trans h.free,?_⟩
 cases o with
 | none => exact h.isMap
 | some bm =>
  refine ⟨h.isMap.1,h.isMap.2.1,?_⟩
  have hm := h.isMap.2.2
  have hlt := hm.lt
  obtain ⟨es,clock,e1,F,hs,hD⟩ := hm
  exact ⟨es,clock,(hk.block bm hlt (h2 bm rfl)).trans e1,F,hs,hD⟩
def OldNew (w : World) (o o' : Option Nat) : Prop := o' = o ∨ ∃ j,o' = some j ∧ w.heap.size ≤ j
theorem PutK_some {B : Nat} {w : World} {tb : Nat} {fs : Fs} {bm : Nat} (h : TreeAt B w tb fs (some bm)) (p b : List UInt8) (hp : p.length ≤ 1000000) (hfew : fs.length ≤ 1000)
  (HM : Hid (Calls Tryz.prog 129 #[Ptr tb,.string (ba p),.string (ba b)] w fun e w' => e = .returned .nilIface ∧ Below w.heap.size w w')) :
  Calls Tryz.prog 93 #[Ptr tb,.string (ba p),.string (ba b)] w fun e w' => e = .returned .nilIface ∧ (TreeAt B w' tb (Tf.put fs p b) (some bm)) ∧ Below B w w' ∧ Kept (tS tb (some bm)) w w' := by
 have hlt := h.lt
 go_enter Tryz.func93,Tryz.ntmps93
 go_wp2_with fail
 refine HM.out.mono ?_
 rintro e w1 ⟨rfl,g1⟩
 have h1 := h.below g1
 have hc := h1.cell
 have hm := h1.isMap.2.2
 have hq := eq_someMap bm
 go_wp2_with (first
  | (at_mapUpdate;refine wpList_mapUpdate_in _ rfl _ _ _ 102 rfl 9 156 klaw Tryz.underlying102 fileElem bm fs.length (Tf.datum fs) rfl hm (by unfold maxLen;omega) _ _ _ rfl rfl (kkey p hp) _ [] (fileElem_mk b) ?_;intro w2 hown2 hturn2;go_frame)
  | go_in)
 go_wp2
 go_ret
 rw [Tf.datum_put] at hown2
 have hne : some tb ≠ some bm := fun e => h.isMap.2.1 (Option.some.inj e).symm
 have hbk := hturn2.grown.block tb h1.lt hne
 refine ⟨rfl,⟨h.low,(World.cell?_of_block (a := ⟨tb,0,none⟩) hbk).trans hc,(World.frozen?_of_block (a := ⟨tb,0,none⟩) hbk).trans h1.free,h.isMap.1,h.isMap.2.1,ownsMap_tight hown2⟩,?_⟩
 exact ⟨below_turned (g1.mono (by have := h.low;omega)) (by have := h.low;have := g1.size;omega) h.isMap.1 hturn2,(Kept.of g1).grown hturn2.grown fun j e => .inr (by rw [e])⟩
theorem PutK_none {B : Nat} {w : World} {tb : Nat} {fs : Fs} (h : TreeAt B w tb fs none) (p b : List UInt8) (hp : p.length ≤ 1000000)
  (HM : Hid (Calls Tryz.prog 129 #[Ptr tb,.string (ba p),.string (ba b)] w fun e w' => e = .returned .nilIface ∧ Below w.heap.size w w')) :
  Calls Tryz.prog 93 #[Ptr tb,.string (ba p),.string (ba b)] w fun e w' => e = .returned .nilIface ∧ (∃ bm,w.heap.size ≤ bm ∧ TreeAt B w' tb (Tf.put fs p b) (some bm)) ∧ Below B w w' ∧ Kept (tS tb none) w w' := by
 have hlt := h.lt
 obtain rfl : fs = [] := h.isMap
 have hmm := @run_makeMap Tryz.prog
 go_enter Tryz.func93,Tryz.ntmps93
 go_wp2_with fail
 refine HM.out.mono ?_
 rintro e w1 ⟨rfl,g1⟩
 have h1 := h.below g1
 have hc := h1.cell
 have hf := h1.free
 have hq := eq_noMap
 have htb := h1.lt
 have eS : (w1.setCell ⟨tb,0,none⟩ (.map (some w1.heap.size))).heap.size = w1.heap.size := by simp
 have gA : Below w1.heap.size (w1.setCell ⟨tb,0,none⟩ (.map (some w1.heap.size))) ((w1.setCell ⟨tb,0,none⟩ (.map (some w1.heap.size))).alloc (.map #[] 0)) := (Below.refl _ _).alloc (by simp) _
 have hcS : ((w1.setCell ⟨tb,0,none⟩ (.map (some w1.heap.size))).alloc (.map #[] 0)).cell? ⟨tb,0,none⟩ = some (.map (some w1.heap.size)) :=
  (gA.cell (p := ⟨tb,0,none⟩) htb).trans (World.cell?_setCell_same' _ _ _ (by rw [hc];rfl))
 have hfS : Hid (((w1.setCell ⟨tb,0,none⟩ (.map (some w1.heap.size))).alloc (.map #[] 0)).frozen? ⟨tb,0,none⟩ = false) :=
  (gA.frozen (p := ⟨tb,0,none⟩) htb).trans (by rw [World.frozen?_setCell];exact hf)
 have Hm0 : Hid (((w1.setCell ⟨tb,0,none⟩ (.map (some w1.heap.size))).alloc (.map #[] 0)).ownsMap Tryz.prog 9 fileElem w1.heap.size 0 (Tf.datum [])) := by
  have := World.ownsMap_made (w1.setCell ⟨tb,0,none⟩ (.map (some w1.heap.size))) Tryz.prog 9 fileElem
  rw [eS] at this
  exact this
 have gS : Hid (Below B w ((w1.setCell ⟨tb,0,none⟩ (.map (some w1.heap.size))).alloc (.map #[] 0))) := ((g1.mono (by have := h.low;omega)).setCell (p := ⟨tb,0,none⟩) h.low _).alloc (by rw [eS];have := h.low;have := g1.size;omega) _
 have gK : Hid (Kept (tS tb none) w ((w1.setCell ⟨tb,0,none⟩ (.map (some w1.heap.size))).alloc (.map #[] 0))) := ((Kept.of g1).setCell (p := ⟨tb,0,none⟩) (.inl rfl) _).alloc _
 have hw1 : Hid (w.heap.size ≤ w1.heap.size) := g1.size
 clear eS gA
 go_wp2_with (first
  | (at_mapUpdate;refine wpList_mapUpdate_in _ rfl _ _ _ 102 rfl 9 156 klaw Tryz.underlying102 fileElem w1.heap.size 0 (Tf.datum []) rfl Hm0.out (by unfold maxLen;omega) _ _ _ rfl rfl (kkey p hp) _ [] (fileElem_mk b) ?_;intro w2 hown2 hturn2;go_frame)
  | go_in)
 go_wp2
 go_ret
 rw [Tf.datum_put] at hown2
 have hne : some tb ≠ some w1.heap.size := fun e => by have := Option.some.inj e;omega
 have hbk := hturn2.grown.block tb (by simp;omega) hne
 refine ⟨rfl,⟨w1.heap.size,hw1.out,h.low,(World.cell?_of_block (a := ⟨tb,0,none⟩) hbk).trans hcS,(World.frozen?_of_block (a := ⟨tb,0,none⟩) hbk).trans hfS.out,by have := h.low;omega,by omega,ownsMap_tight hown2⟩,?_⟩
 refine ⟨below_turned gS.out (by have := h.low;simp;omega) (by have := h.low;omega) hturn2,⟨Nat.le_trans gK.out.size hturn2.grown.size,fun j hj hs => ?_⟩⟩
 exact (hturn2.grown.block j (Nat.lt_of_lt_of_le hj gK.out.size) fun e => by have := Option.some.inj e;have := hw1.out;omega).trans (gK.out.block j hj hs)
theorem PutK_calls {B : Nat} {w : World} {tb : Nat} {fs : Fs} {o : Option Nat} {es : Nat → Value} (h : TreeAt B w tb fs o) (hE : TErr w es) (hlen : ∀ f ∈ fs,f.1.length ≤ 1000000) (hfew : fs.length ≤ 1000) (p b : List UInt8) (hp : p.length ≤ 1000000) :
  Calls Tryz.prog 93 #[Ptr tb,.string (ba p),.string (ba b)] w fun e w' => e = .returned (es (Tf.putCode pathB fs p b)) ∧ (∃ o',OldNew w o o' ∧ TreeAt B w' tb (Tf.putF pathB fs p b) o') ∧ Below B w w' ∧ Kept (tS tb o) w w' := by
 have HM := mayPut_calls h hE hlen hfew p b hp
 have hBw : B ≤ w.heap.size := by have := h.low;have := h.lt;omega
 cases hc : Tf.putCode pathB fs p b with
 | zero =>
  rw [hc,hE.nil] at HM
  rw [hE.nil,show Tf.putF pathB fs p b = Tf.put fs p b by simp [Tf.putF,hc]]
  cases o with
  | none => exact (PutK_none h p b hp HM).mono fun e w' ⟨h1,⟨bm,hb,h2⟩,h3⟩ => ⟨h1,⟨_,.inr ⟨bm,rfl,hb⟩,h2⟩,h3⟩
  | some bm => exact (PutK_some h p b hp hfew HM).mono fun e w' ⟨h1,h2,h3⟩ => ⟨h1,⟨_,.inl rfl,h2⟩,h3⟩
 | succ k =>
  obtain ⟨t,u,e⟩ := hE.faces k
  rw [hc,e] at HM
  rw [e,show Tf.putF pathB fs p b = fs by simp [Tf.putF,hc]]
  exact (Put_no h p b t u HM).mono fun e w' ⟨h1,h2⟩ => ⟨h1,⟨_,.inl rfl,h.below h2⟩,h2.mono hBw,.of h2⟩
theorem RemoveK_yes {B : Nat} {w : World} {tb : Nat} {fs : Fs} {bm : Nat} (h : TreeAt B w tb fs (some bm)) (p : List UInt8) (hp : p.length ≤ 1000000) (ht : Tf.hasP fs p = true) :
  Calls Tryz.prog 75 #[Ptr tb,.string (ba p)] w fun e w' => e = .returned .nilIface ∧ TreeAt B w' tb (Tf.del fs p) (some bm) ∧ Below B w w' ∧ Kept (tS tb (some bm)) w w' := by
 have hl := look_tree h p hp
 rw [ht] at hl
 have HA : Hid (Calls Tryz.prog 88 #[Ptr tb] w fun e w' => e = .returned (.map (some bm)) ∧ w' = w) := all_calls tb (some bm) w h.cell
 generalize (Tf.get fs p).getD [] = x at *
 have hc := h.cell
 have g1 : Below w.heap.size w (w.alloc (.cells #[.string (ba x)] 156)) := (Below.refl _ w).alloc (Nat.le_refl _) _
 have h1 := h.below g1
 have hc1 := h1.cell
 have hm := h1.isMap.2.2
 have hBw : B ≤ w.heap.size := by have := h.low;have := h.lt;omega
 clear ht
 go_enter Tryz.func75,Tryz.ntmps75
 go_wp2_with fail
 refine HA.out.mono ?_
 rintro e w' ⟨rfl,rfl⟩
 go_wp2_with (first
  | (at_delete;refine wpList_delete_own _ rfl _ _ 102 9 rfl 156 klaw Tryz.underlying102 fileElem bm fs.length (Tf.datum fs) rfl hm _ _ rfl (kkey p hp) ?_;intro w2 hown2 hturn2;go_frame)
  | go_in)
 go_wp2
 go_ret
 rw [Tf.datum_del] at hown2
 have hne : some tb ≠ some bm := fun e => h.isMap.2.1 (Option.some.inj e).symm
 have hbk := hturn2.grown.block tb h1.lt hne
 refine ⟨rfl,⟨h.low,(World.cell?_of_block (a := ⟨tb,0,none⟩) hbk).trans hc1,(World.frozen?_of_block (a := ⟨tb,0,none⟩) hbk).trans h1.free,h.isMap.1,h.isMap.2.1,ownsMap_tight hown2⟩,?_⟩
 exact ⟨below_turned (g1.mono hBw) (by have := g1.size;omega) h.isMap.1 hturn2,(Kept.of g1).grown hturn2.grown fun j e => .inr (by rw [e])⟩
theorem RemoveK_calls {B : Nat} {w : World} {tb : Nat} {fs : Fs} {o : Option Nat} {es : Nat → Value} (h : TreeAt B w tb fs o) (hE : TErr w es) (p : List UInt8) (hp : p.length ≤ 1000000) :
  Calls Tryz.prog 75 #[Ptr tb,.string (ba p)] w fun e w' => e = .returned (es (if Tf.hasP fs p then 0 else 6)) ∧ (∃ o',OldNew w o o' ∧ TreeAt B w' tb (Tf.del fs p) o') ∧ Below B w w' ∧ Kept (tS tb o) w w' := by
 have hBw : B ≤ w.heap.size := by have := h.low;have := h.lt;omega
 cases ht : Tf.hasP fs p with
 | true =>
  cases o with
  | none =>
   obtain rfl : fs = [] := h.isMap
   simp [Tf.hasP] at ht
  | some bm =>
   simp only [if_true,hE.nil]
   exact (RemoveK_yes h p hp ht).mono fun e w' ⟨h1,h2,h3⟩ => ⟨h1,⟨_,.inl rfl,h2⟩,h3⟩
 | false =>
  simp only [Bool.false_eq_true,if_false]
  rw [Tf.del_none ht]
  exact (Remove_no h hE p hp ht).mono fun e w' ⟨h1,h2⟩ => ⟨h1,⟨_,.inl rfl,h.below h2⟩,h2.mono hBw,.of h2⟩
end Go.Proofs.YtdljhggillgpfaaGreatDoor
namespace Go.Proofs.YtdljhggillgpfaaGreatDoor
open Go.RowKit Go.Shelf Go.Lib
theorem Tryz.infoRule : (Tryz.prog.info? 36).map (fun i => (i.zero,i.size,i.bytes)) = some (some (.agg #[.string ⟨#[]⟩,.string ⟨#[]⟩,.string ⟨#[]⟩,.slice none 0 0]),4,72) := by kernel_rfl
theorem row_low4 {w : World} {base : Nat} {e : TypeId} {size : Nat} {v : Value} {n : Nat} {xs : List Value} (h : w.ownsRow base e size v n xs) : ∀ k,v.ownBlock = some k → base ≤ k := by
 intro k hk
 rcases h.2 with ⟨rfl,_⟩ | ⟨g,cap,cur,rfl,hb,_⟩
 ·cases hk
 ·cases hk;exact hb
def ruCells (l : List (Ru × Value)) : List Value := l.flatMap fun x => [.string (ba x.1.out),.string (ba x.1.kind),.string (ba x.1.word),x.2]
theorem ruCells_snoc (l : List (Ru × Value)) (x : Ru × Value) : ruCells (l ++ [x]) = ruCells l ++ [.string (ba x.1.out),.string (ba x.1.kind),.string (ba x.1.word),x.2] := by simp [ruCells]
theorem ruCells_at : ∀ (l : List (Ru × Value)) (j : Nat) (h : j < l.length),(ruCells l)[j * 4]? = some (.string (ba l[j].1.out)) ∧ (ruCells l)[j * 4 + 1]? = some (.string (ba l[j].1.kind)) ∧ (ruCells l)[j * 4 + 2]? = some (.string (ba l[j].1.word)) ∧ (ruCells l)[j * 4 + 3]? = some l[j].2
 | x :: r,0,_ => by simp [ruCells]
 | x :: r,j + 1,h => by
  have ih := ruCells_at r j (by simpa using h)
  have e : ruCells (x :: r) = .string (ba x.1.out) :: .string (ba x.1.kind) :: .string (ba x.1.word) :: x.2 :: ruCells r := by simp [ruCells]
  rw [e,show (j + 1) * 4 = j * 4 + 1 + 1 + 1 + 1 by omega]
  simpa [Nat.add_assoc] using ih
theorem RRow.of_owns {w : World} {base : Nat} {v : Value} {l : List (Ru × Value)} {n : Nat} (h : w.ownsRow base 36 4 v n (ruCells l)) (hn : n = l.length) (hx : ∀ x ∈ l,XRow w x.2 x.1.ins) : RRow w v (l.map Prod.fst) := by
 subst hn
 rcases h.2 with ⟨rfl,hn⟩ | ⟨g,cap,cur,rfl,_,hb,h1,_,_,h4⟩
 ·obtain rfl : l = [] := by simpa using hn
  exact RRow.nil w
 ·refine ⟨some ⟨g,0,none⟩,cap,by simp,by simpa using h1,fun h => (by cases h),fun _ => ⟨g,0,rfl,(Array.getElem?_eq_some_iff.1 hb).1,fun j hj => ?_⟩⟩
  have hj' : j < l.length := by simpa using hj
  have key : ∀ i x,i < l.length * 4 → (ruCells l)[i]? = some x → w.cell? ⟨g,i,none⟩ = some x := fun i x hi hx => by
   have := congrArg (fun y => y[i]?) h4
   simp only [List.getElem?_take,hi,if_true,hx,Array.getElem?_toList] at this
   exact cell_of_row hb this
  obtain ⟨a0,a1,a2,a3⟩ := ruCells_at l j hj'
  rw [Nat.zero_add,List.getElem_map]
  exact ⟨key _ _ (by omega) a0,key _ _ (by omega) a1,key _ _ (by omega) a2,_,key _ _ (by omega) a3,hx _ (List.getElem_mem hj')⟩
theorem four_new (W : World) (x0 x1 x2 x3 : Value) (t : TypeId) (n : Nat) (hn : W.heap.size = n) (j : Nat) (u : Value) (h : [x0,x1,x2,x3][j]? = some u) : (W.alloc (.cells #[x0,x1,x2,x3] t)).cell? ((⟨n,0,none⟩ : Addr).add j) = some u := by
 subst hn
 rw [add_at2,Nat.zero_add,World.cell?_alloc_at _ _ _ _ rfl]
 simpa using h
end Go.Proofs.YtdljhggillgpfaaGreatDoor
namespace Go.Proofs.YtdljhggillgpfaaGreatDoor
open Go.RowKit Go.Shelf Go.Lib
theorem compact_upto {zs : List (List UInt8)} (hs : zs.Pairwise (fun x y => x ≤ y)) : ∀ m,m ≤ zs.length → (compactUpTo zs.toArray m).Pairwise (fun x y => x ≤ y) ∧ (compactUpTo zs.toArray m).Nodup ∧ ∀ x,x ∈ compactUpTo zs.toArray m ↔ x ∈ zs.take m
 | 0,_ => by simp [compactUpTo]
 | m + 1,h => by
  obtain ⟨h1,h2,h3⟩ := compact_upto hs m (by omega)
  have hm : m < zs.length := by omega
  have em : zs.toArray[m]! = zs[m] := by simp [hm]
  have hsd := List.pairwise_iff_getElem.1 hs
  rw [Af.compact_succ,List.take_succ_eq_append_getElem hm]
  by_cases hk : keeps zs.toArray m = true
  ·rw [if_pos hk,em]
   have hnew : zs[m] ∉ zs.take m := by
    intro hmem
    obtain ⟨j,hj,ej⟩ := List.getElem_of_mem hmem
    rw [List.getElem_take] at ej
    have hjm : j < m := by simp at hj;omega
    unfold keeps at hk
    have hk' : m = 0 ∨ zs.toArray[m]! ≠ zs.toArray[m - 1]! := by simpa using hk
    rcases hk' with h0 | h0
    ·omega
    ·rw [em,show zs.toArray[m - 1]! = zs[m - 1] by simp [show m - 1 < zs.length by omega]] at h0
     refine h0 (List.le_antisymm ?_ (hsd (m - 1) m (by omega) hm (by omega)))
     rw [← ej]
     by_cases e : j = m - 1
     ·subst e;exact List.le_refl _
     ·exact hsd j (m - 1) (by omega) (by omega) (by omega)
   refine ⟨?_,?_,fun x => ?_⟩
   ·rw [List.pairwise_append]
    refine ⟨h1,by simp,fun a ha b hb => ?_⟩
    rw [List.mem_singleton.1 hb]
    obtain ⟨j,hj,ej⟩ := List.getElem_of_mem ((h3 a).1 ha)
    rw [List.getElem_take] at ej
    rw [← ej]
    exact hsd j m (by simp at hj;omega) hm (by simp at hj;omega)
   ·rw [List.nodup_append]
    refine ⟨h2,by simp,fun a ha b hb => ?_⟩
    rw [List.mem_singleton.1 hb]
    rintro rfl
    exact hnew ((h3 _).1 ha)
   ·rw [List.mem_append,List.mem_append,h3]
  ·rw [if_neg hk,List.append_nil]
   refine ⟨h1,h2,fun x => ?_⟩
   have hk' : ¬ (m = 0 ∨ zs.toArray[m]! ≠ zs.toArray[m - 1]!) := by
    unfold keeps at hk
    simpa using hk
   have h0 : m ≠ 0 := fun e => hk' (.inl e)
   have hq : zs.toArray[m]! = zs.toArray[m - 1]! := Classical.byContradiction fun e => hk' (.inr e)
   rw [em,show zs.toArray[m - 1]! = zs[m - 1] by simp [show m - 1 < zs.length by omega]] at hq
   rw [h3,List.mem_append,List.mem_singleton]
   constructor
   ·exact .inl
   ·rintro (h4 | rfl)
    ·exact h4
    ·rw [hq]
     exact List.mem_take_iff_getElem.2 ⟨m - 1,by omega,rfl⟩
theorem compact_sorted {zs : List (List UInt8)} (hs : zs.Pairwise (fun x y => x ≤ y)) : (Lib.compact zs).Pairwise (fun x y => x ≤ y) ∧ (Lib.compact zs).Nodup ∧ ∀ x,x ∈ Lib.compact zs ↔ x ∈ zs := by
 have := compact_upto hs zs.length (Nat.le_refl _)
 rwa [List.take_length] at this
structure LeafU (l : List Ru) (i k : Nat) (r : List (List UInt8)) : Prop where
 mem : ∀ x,x ∈ r ↔ ((∃ y ∈ l.take i,x ∈ y.ins) ∨ ∃ y,l[i]? = some y ∧ x ∈ y.ins.take k) ∧ ∀ z ∈ l,z.out ≠ x
 few : r.length ≤ i * 12 + k
theorem LeafU.first (l : List Ru) : LeafU l 0 0 [] := ⟨fun x => by simp,by simp⟩
theorem LeafU.nextRule {l : List Ru} {i : Nat} {r : List (List UInt8)} (hi : i < l.length) (h12 : l[i].ins.length ≤ 12) (h : LeafU l i l[i].ins.length r) : LeafU l (i + 1) 0 r := by
 refine ⟨fun x => ?_,by have := h.few;omega⟩
 rw [h.mem,List.getElem?_eq_getElem hi,List.take_succ_eq_append_getElem hi]
 simp only [Option.some.injEq,List.mem_append,List.mem_singleton,List.take_zero,List.not_mem_nil,and_false,exists_false,or_false]
 constructor
 ·rintro ⟨h1,h2⟩
  refine ⟨?_,h2⟩
  rcases h1 with ⟨y,hy,hx⟩ | ⟨y,rfl,hx⟩
  ·exact ⟨y,.inl hy,hx⟩
  ·exact ⟨_,.inr rfl,List.mem_of_mem_take hx⟩
 ·rintro ⟨⟨y,hy,hx⟩,h2⟩
  refine ⟨?_,h2⟩
  rcases hy with hy | rfl
  ·exact .inl ⟨y,hy,hx⟩
  ·exact .inr ⟨_,rfl,by rwa [List.take_length]⟩
theorem LeafU.made {l : List Ru} {i k : Nat} {r : List (List UInt8)} (hi : i < l.length) (hk : k < l[i].ins.length) (h : LeafU l i k r) (hs : ∃ z ∈ l,z.out = l[i].ins[k]) : LeafU l i (k + 1) r := by
 refine ⟨fun x => ?_,by have := h.few;omega⟩
 rw [h.mem,List.getElem?_eq_getElem hi]
 simp only [Option.some.injEq]
 constructor
 ·rintro ⟨h1,h2⟩
  refine ⟨?_,h2⟩
  rcases h1 with h1 | ⟨y,rfl,hx⟩
  ·exact .inl h1
  ·exact .inr ⟨_,rfl,(List.take_sublist_take_left (Nat.le_succ k)).subset hx⟩
 ·rintro ⟨h1,h2⟩
  rcases h1 with h1 | ⟨y,rfl,hx⟩
  ·exact ⟨.inl h1,h2⟩
  ·rw [List.take_succ_eq_append_getElem hk,List.mem_append,List.mem_singleton] at hx
   rcases hx with hx | rfl
   ·exact ⟨.inr ⟨_,rfl,hx⟩,h2⟩
   ·obtain ⟨z,hz,e⟩ := hs
    exact absurd e (h2 z hz)
theorem LeafU.more {l : List Ru} {i k : Nat} {r : List (List UInt8)} (hi : i < l.length) (hk : k < l[i].ins.length) (h : LeafU l i k r) (hm : ∀ z ∈ l,z.out ≠ l[i].ins[k]) : LeafU l i (k + 1) (r ++ [l[i].ins[k]]) := by
 refine ⟨fun x => ?_,by rw [List.length_append,List.length_singleton];have := h.few;omega⟩
 rw [List.mem_append,List.mem_singleton,h.mem,List.getElem?_eq_getElem hi]
 simp only [Option.some.injEq]
 constructor
 ·rintro (⟨h1,h2⟩ | rfl)
  ·refine ⟨?_,h2⟩
   rcases h1 with h1 | ⟨y,rfl,hx⟩
   ·exact .inl h1
   ·exact .inr ⟨_,rfl,(List.take_sublist_take_left (Nat.le_succ k)).subset hx⟩
  ·exact ⟨.inr ⟨_,rfl,by rw [List.take_succ_eq_append_getElem hk];exact List.mem_append_right _ (List.mem_singleton.2 rfl)⟩,hm⟩
 ·rintro ⟨h1,h2⟩
  rcases h1 with h1 | ⟨y,rfl,hx⟩
  ·exact .inl ⟨.inl h1,h2⟩
  ·rw [List.take_succ_eq_append_getElem hk,List.mem_append,List.mem_singleton] at hx
   rcases hx with hx | rfl
   ·exact .inl ⟨.inr ⟨_,rfl,hx⟩,h2⟩
   ·exact .inr rfl
theorem LeafU.done {l : List Ru} {r : List (List UInt8)} (h : LeafU l l.length 0 r) : Ru.Leaves l (Lib.compact (Af.srt r)) := by
 obtain ⟨h1,h2,h3⟩ := compact_sorted (Af.srt_sorted r)
 refine ⟨h1,h2,fun x => ?_⟩
 rw [h3,(Af.srt_perm r).mem_iff,h.mem,List.take_length]
 unfold Ru.Leaf
 simp
theorem HRow.ir {B : Nat} {w : World} {v : Value} {l : List (List UInt8)} (h : HRow B w v l) : IRow w v l := by
 rcases h with ⟨rfl,rfl⟩ | ⟨g,cap,rfl,_,h2,_,hH⟩
 ·exact ⟨none,0,rfl,fun h => absurd rfl h⟩
 ·refine ⟨_,cap,rfl,fun _ => ⟨g,0,rfl,h2,fun j hj => ?_⟩⟩
  have := (hH j (by simpa using hj)).1
  rw [this]
  simp [hj]
end Go.Proofs.YtdljhggillgpfaaGreatDoor
namespace Go.Proofs.YtdljhggillgpfaaGreatDoor
open Go.RowKit Go.Shelf Go.Lib
theorem mk_get {l : List Ru} {s : List UInt8} (h : (Ru.mkr l s).isSome = true) : ∃ z ∈ l,z.out = s := by
 cases hm : Ru.mkr l s with
 | none => rw [hm] at h;cases h
 | some k =>
  obtain ⟨hk,h1,_⟩ := Ru.mkr_some hm
  exact ⟨_,List.getElem_mem hk,h1⟩
def NewRow (B : Nat) (u : Value) : Prop := ∀ p n c,u = .slice (some p) n c → B ≤ p.block
def CapRow (u : Value) : Prop := ∀ p n c,u = .slice (some p) n c → n ≤ c
theorem gLeaves_cap {w : World} {es : Nat → Addr} (hW : SheetW w es) (v : Value) (l : List Ru) (hrow : RRow w v l) (hn : l.length ≤ 1000) (hS : ∀ x ∈ l,x.Small) :
  Calls Tryz.prog 85 #[v] w fun e w' => ∃ u ev,e = .returned (.tuple #[u,ev]) ∧ Below w.heap.size w w' ∧ LeavesTells es l w' u ev ∧ NewRow w.heap.size u ∧ CapRow u := by
 have HL := hid1 (grlook_calls hW v l hrow hn hS)
 obtain ⟨pr,cap,rfl,hcap,hnn,hin⟩ := hrow
 have HI := hid1 hin
 have H12 : Hid (∀ i (hi : i < l.length),l[i].ins.length ≤ 12) := hid1 fun i hi => (hS _ (List.getElem_mem hi)).many
 clear hin hnn hS hW
 obtain ⟨i0,hi,hz0,hz1,hz2⟩ := info_parts Tryz.infoStr
 have zn : (l.length : Int) ≤ 1000 := by omega
 go_enter Tryz.func85,Tryz.ntmps85
 go_wp2_with fail
 refine HL.out.mono ?_
 rintro e w1 ⟨u,ev,rfl,g1,hT⟩
 rcases hT with ⟨hf,hE,rfl,t,x,rfl⟩ | ⟨hf,rfl,p,bm,G,vals,rfl,hSh⟩
 ·have HE := hid1 hE
  have HZ := hid1 hf
  clear HL hE hf
  go_wp2
  go_ret2
  exact ⟨_,_,rfl,g1,.inl ⟨HZ.out,HE.out,_,_,rfl⟩,(fun p n c e => by cases e),fun p n c e => by cases e⟩
 ·have HZ := hid1 hf
  have HSh := hid1 hSh
  have HF := hid1 (LeafU.first l)
  have hc0 := hSh.c0
  clear HL hf hSh
  go_wp2
  go_loopw [6,23] (fun ov iv wr => ∃ (i : Nat) (r : List (List UInt8)),i ≤ l.length ∧ iv = .int .i64 i ∧ wr.ownsRow w1.heap.size 9 1 ov r.length (r.map sv) ∧ LeafU l i 0 r ∧ Below w1.heap.size w1 wr) (fun _ iv _ => l.length - (intOf iv).toNat)
  case atStart => exact ⟨0,[],Nat.zero_le _,rfl,World.ownsRow_nil _ _ _ _,HF.out,Below.refl _ _⟩
  case round =>
   obtain ⟨i,r,hil,rfl,hO,hU,B⟩ := hrel
   have HO := hid1 hO
   have HU := hid1 hU
   clear hO hU HF
   have c0 : (0 : Int) ≤ (i : Int) := by omega
   by_cases hlt : i < l.length
   ·have c1 : (i : Int) < (l.length : Int) := by omega
    obtain ⟨g',o,rfl,hg,hcur⟩ := HI.out (by intro e;rw [e] at hlt;simp at hlt)
    obtain ⟨b0,b1,b2,ui,b3,bx⟩ := hcur i hlt
    have gB := below_then g1 B
    have d0 := cell_below' b0 gB
    have d1 := cell_below' b1 gB
    have d2 := cell_below' b2 gB
    have d3 := cell_below' b3 gB
    have h12 := H12.out i hlt
    have z12 : (l[i].ins.length : Int) ≤ 12 := by omega
    obtain ⟨p3,cap3,rfl,hcap3,-,hin3⟩ := bx
    have HI3 := hid1 hin3
    have hst : ∀ (a : Addr) (m : Mode) (W : World),Sem.run Tryz.prog (store a (.slice p3 l[i].ins.length cap3) m) W = stored Tryz.prog W a (.slice p3 l[i].ins.length cap3) m := fun a m W => run_store _ W a _ m rfl
    clear hcur hin3 b0 b1 b2 b3
    generalize wr = w2 at *
    have B3 := B.alloc B.size (.cells #[.string (ba l[i].out),.string (ba l[i].kind),.string (ba l[i].word),.slice p3 l[i].ins.length cap3] 36)
    have HO3 := hid1 (HO.out.alloc (.cells #[.string (ba l[i].out),.string (ba l[i].kind),.string (ba l[i].word),.slice p3 l[i].ins.length cap3] 36))
    go_wp2
    go_loopw [6,30] (fun ov kv wx => ∃ (k : Nat) (r : List (List UInt8)),k ≤ l[i].ins.length ∧ kv = .int .i64 k ∧ wx.ownsRow w1.heap.size 9 1 ov r.length (r.map sv) ∧ LeafU l i k r ∧ Below w1.heap.size w1 wx) (fun _ kv _ => l[i].ins.length - (intOf kv).toNat)
    case atStart => exact ⟨0,r,Nat.zero_le _,rfl,HO3.out,HU.out,B3⟩
    case round =>
     clear HO HU HO3 B3 B gB d0 d1 d2 d3 r hst
     obtain ⟨k,r,hkl,rfl,hO,hU,B⟩ := hrel
     have HO := hid1 hO
     have HU := hid1 hU
     clear hO hU
     have k0 : (0 : Int) ≤ (k : Int) := by omega
     by_cases hklt : k < l[i].ins.length
     ·have k1 : (k : Int) < (l[i].ins.length : Int) := by omega
      obtain ⟨g3,o3,rfl,hg3,hc3⟩ := HI3.out (by intro e;rw [e] at hklt;simp at hklt)
      have gB := below_then g1 B
      have e3 := (gB.cell (p := ⟨g3,o3 + k,none⟩) hg3).trans (hc3 k hklt)
      have HMade := hid1 (HU.out.made hlt hklt)
      have HMore := hid1 (HU.out.more hlt hklt)
      have hfew := HU.out.few
      have hcm := cell_below' hc0 B
      have hlk := look_mk (HSh.out.below B).map l[i].ins[k]
      generalize hs : l[i].ins[k] = s at *
      cases hm : Ru.mkr l s with
      | some j =>
       have HQ := hid1 (HMade.out (mk_get (by rw [hm];rfl)))
       rw [hm] at hlk
       simp only [Option.getD_some,Option.isSome_some] at hlk
       clear HMade HMore hm hfew hc3 HI3
       go_wp2
       exact ⟨⟨k + 1,r,by omega,by go_num,HO.out,HQ.out,B⟩,by simp [intOf];omega⟩
      | none =>
       have HQ := hid1 (HMore.out (Ru.mkr_none hm))
       rw [hm] at hlk
       simp only [Option.getD_none,Option.isSome_none] at hlk
       have hrl : r.length ≤ 12012 := by
        have : i * 12 ≤ 1000 * 12 := Nat.mul_le_mul (by omega) (Nat.le_refl _)
        omega
       have hrow := HO.out
       have hml : r.length + 1 ≤ maxLen := by unfold maxLen;omega
       have hbz := B.size
       clear HMade HMore hm hfew hc3 HI3
       go_wp2_with (at_builtin;refine wpList_append_own _ rfl _ _ 22 rfl w1.heap.size 9 i0 (.string ⟨#[]⟩) 1 16 Tryz.underlying22 hi hz0 hz1 hz2 rfl (by decide) _ _ _ rfl (hrow.alloc _) ⟨wr.heap.size,0,none⟩ 1 1 [.string (ba s)] rfl rfl (cell_one_new _ _ _) (by simp [Value.oneCell']) hml (by omega) (by simp;omega) ?_;intro v' w4 hown' hgrow _)
       exact ⟨⟨k + 1,r ++ [s],by omega,by go_num,by simpa using hown',HQ.out,below_appended B hbz hrow hgrow⟩,by simp [intOf];omega⟩
     ·have k1 : (l[i].ins.length : Int) ≤ (k : Int) := by omega
      obtain rfl : k = l[i].ins.length := by omega
      have HQ := hid1 (HU.out.nextRule hlt h12)
      clear HU HI3
      go_wp2
      exact ⟨⟨i + 1,r,by omega,by go_num,HO.out,HQ.out,B⟩,by simp [intOf];omega⟩
   ·have c1 : (l.length : Int) ≤ (i : Int) := by omega
    obtain rfl : i = l.length := by omega
    have HQ := hid1 HU.out.done
    have hfew := HU.out.few
    have hrl : r.length ≤ 12000 := by
     have : l.length * 12 ≤ 1000 * 12 := Nat.mul_le_mul (by omega) (Nat.le_refl _)
     omega
    have HS := hid1 (sort_calls (HRow.of_owns HO.out) B.size (by omega))
    clear HU hfew HI
    go_wp2_with fail
    refine HS.out.mono ?_
    rintro e w3 ⟨rfl,h3,g3⟩
    have G3 := B.trans g3
    have HC := hid1 (compact_calls h3 G3.size (by rw [Af.srt_len];omega))
    clear HS h3 g3
    go_wp2_with fail
    refine HC.out.mono ?_
    rintro e w4 ⟨v4,rfl,h4,g4⟩
    have HH := hid1 h4.ir
    have HNw : Hid (NewRow w.heap.size v4 ∧ CapRow v4) := hid1 (by
     have hz := g1.size
     rcases h4 with ⟨_,rfl⟩ | ⟨g,cap,rfl,h5,_,h6,_⟩
     ·exact ⟨(fun p n c e => by cases e),fun p n c e => by cases e⟩
     ·exact ⟨(fun p n c e => by cases e;exact Nat.le_trans hz h5),fun p n c e => by cases e;exact h6⟩)
    have G4 := below_then g1 (G3.trans g4)
    clear HC h4 g4
    go_wp2
    go_ret2
    exact ⟨_,_,rfl,G4,.inr ⟨HZ.out,rfl,_,HQ.out,HH.out⟩,HNw.out⟩
end Go.Proofs.YtdljhggillgpfaaGreatDoor
namespace Go.Proofs.YtdljhggillgpfaaGreatDoor
open Go.RowKit Go.Shelf Go.Lib Go.Maps
theorem want_err {fs : Tf.Fs} {l : List Ru} {x : List UInt8} (h : (Bf.want Af.actO fs l x).2 ≠ 0) : (Bf.want Af.actO fs l x).1 = [] := by
 unfold Bf.want Bf.wantF at h ⊢
 split
 ·rename_i i hm
  simp only [hm] at h
  unfold Bf.wrule at h ⊢
  split
  ·rename_i h0
   rw [if_pos h0] at h
   unfold Af.actO at h ⊢
   split
   ·rename_i h1
    rw [if_pos h1] at h
    split
    ·rename_i k hk
     simp only [hk] at h
     split
     ·rfl
     ·rename_i h2
      rw [if_neg h2] at h
      exact absurd rfl h
    ·rfl
   ·rfl
  ·rfl
 ·rename_i hm
  simp only [hm] at h
  split
  ·rename_i b hb
   simp only [hb] at h
   exact absurd rfl h
  ·rfl
end Go.Proofs.YtdljhggillgpfaaGreatDoor
namespace Go.Proofs.YtdljhggillgpfaaGreatDoor
namespace Tf
end Tf
namespace Bf
def outS (l : List Ru) (d : Bd) (t : Tf.Fs) (i : Nat) : Tf.Fs :=
 match d.st i with
 | .done s _ => Tf.putF pathB t (l.getD i ⟨[],[],[],[]⟩).out s
 | .failed _ => Tf.del t (l.getD i ⟨[],[],[],[]⟩).out
 | .left => Tf.del t (l.getD i ⟨[],[],[],[]⟩).out
 | _ => t
def outW (l : List Ru) (d : Bd) (o : List Nat) (t : Tf.Fs) : Tf.Fs := o.foldl (outS l d) t
end Bf
end Go.Proofs.YtdljhggillgpfaaGreatDoor
namespace Go.Proofs.YtdljhggillgpfaaGreatDoor
open Go.RowKit Go.Shelf Go.Lib
namespace Bf
def off (fs os : Tf.Fs) (l : List Ru) (p : List UInt8) : Bool := Tf.get os p != (if (want Af.actO fs l p).2 = 0 then some (want Af.actO fs l p).1 else none)
def stale (fs os : Tf.Fs) (l : List Ru) : List (List UInt8) := Af.srt ((l.map Ru.out).filter (off fs os l))
end Bf
end Go.Proofs.YtdljhggillgpfaaGreatDoor
namespace Go.Proofs.YtdljhggillgpfaaGreatDoor
open Go.RowKit Go.Shelf Go.Lib
namespace Bf
def whole (l : List Ru) (outs : List (List UInt8)) : List (List UInt8) := if outs = [] then l.map Ru.out else outs
theorem whole_len {l : List Ru} {outs : List (List UInt8)} {n : Nat} (h : l.length ≤ n) (h' : outs.length ≤ n) : (whole l outs).length ≤ n := by
 unfold whole
 split
 ·simpa using h
 ·exact h'
structure Yd where
 fs : Tf.Fs
 os : Tf.Fs
 l : List Ru
 c : Ca
noncomputable def Yd.made (y : Yd) (outs : List (List UInt8)) : Bd × Ca := all Af.actO y.c (init y.fs y.l (whole y.l outs))
noncomputable def Yd.make (y : Yd) (outs : List (List UInt8)) : Yd :=
 { y with os := outW y.l (y.made outs).1 ((Ru.order y.l fun _ => true).getD []) y.os,c := (y.made outs).2 }
end Bf
end Go.Proofs.YtdljhggillgpfaaGreatDoor
namespace Go.Proofs.YtdljhggillgpfaaGreatDoor
namespace Bf
def layS (l : List Ru) (d : Bd) (t : Tf.Fs) (i : Nat) : Tf.Fs :=
 match d.st i with
 | .done s _ => Tf.putF pathB t (l.getD i ⟨[],[],[],[]⟩).out s
 | _ => t
def layW (l : List Ru) (d : Bd) (o : List Nat) (t : Tf.Fs) : Tf.Fs := o.foldl (layS l d) t
def sweepS (l : List Ru) (d : Bd) (t : Tf.Fs) (i : Nat) : Tf.Fs :=
 if (d.st i).isBad = true then Tf.del t (l.getD i ⟨[],[],[],[]⟩).out else t
def sweepW (l : List Ru) (d : Bd) (n : Nat) (t : Tf.Fs) : Tf.Fs := (List.range n).foldl (sweepS l d) t
def outP (l : List Ru) (d : Bd) (o : List Nat) (t : Tf.Fs) : Tf.Fs := sweepW l d l.length (layW l d o t)
theorem layS_well {l : List Ru} {d : Bd} {t : Tf.Fs} (h : Tf.Well pathB t) (i : Nat) : Tf.Well pathB (layS l d t i) := by
 unfold layS
 split
 ·exact h.putF _ _
 ·exact h
theorem layW_well {l : List Ru} {d : Bd} : ∀ (o : List Nat) {t : Tf.Fs},Tf.Well pathB t → Tf.Well pathB (layW l d o t)
 | [],_,h => h
 | i :: r,_,h => layW_well (l := l) (d := d) r (layS_well h i)
theorem layW_snoc (l : List Ru) (d : Bd) (o : List Nat) (t : Tf.Fs) (i : Nat) : layW l d (o ++ [i]) t = layS l d (layW l d o t) i := by simp [layW]
theorem sweepW_succ (l : List Ru) (d : Bd) (n : Nat) (t : Tf.Fs) : sweepW l d (n + 1) t = sweepS l d (sweepW l d n t) n := by
 unfold sweepW
 rw [List.range_succ,List.foldl_append]
 rfl
theorem sweepS_well {l : List Ru} {d : Bd} {t : Tf.Fs} (h : Tf.Well pathB t) (i : Nat) : Tf.Well pathB (sweepS l d t i) := by
 unfold sweepS
 split
 ·exact h.del _
 ·exact h
theorem sweepW_well {l : List Ru} {d : Bd} {t : Tf.Fs} (h : Tf.Well pathB t) : ∀ n,Tf.Well pathB (sweepW l d n t)
 | 0 => h
 | n + 1 => by rw [sweepW_succ];exact sweepS_well (sweepW_well h n) n
theorem outP_well {l : List Ru} {d : Bd} {o : List Nat} {t : Tf.Fs} (h : Tf.Well pathB t) : Tf.Well pathB (outP l d o t) := sweepW_well (layW_well o h) _
end Bf
end Go.Proofs.YtdljhggillgpfaaGreatDoor
namespace Go.Proofs.YtdljhggillgpfaaGreatDoor
open Go.RowKit Go.Shelf Go.Lib
theorem CaAt.sameG {es : Nat → Addr} {At : (Nat → Prop) → World → Value → Nat → Cf.Ens → Prop} (HC : Caches0 es At) {SC : Nat → Prop} {W W' : World} {cv : Value} {c : Bf.Ca} (h : CaAt At SC W cv c) (hz : W.heap.size ≤ W'.heap.size) (hb : ∀ k,SC k → W'.heap[k]? = W.heap[k]?) : CaAt At SC W' cv c := by
 cases c with
 | none => exact h
 | some x => exact ⟨h.1,HC.same _ _ _ _ _ _ h.2 hz hb⟩
theorem CaAt.ltG {es : Nat → Addr} {At : (Nat → Prop) → World → Value → Nat → Cf.Ens → Prop} (HC : Caches0 es At) {SC : Nat → Prop} {W : World} {cv : Value} {c : Bf.Ca} (h : CaAt At SC W cv c) : ∀ k,SC k → k < W.heap.size := by
 cases c with
 | none => exact fun k hk => absurd hk (h.2 k)
 | some x => exact HC.lt _ _ _ _ _ h.2
end Go.Proofs.YtdljhggillgpfaaGreatDoor
