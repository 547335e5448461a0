import Derived.Test.YtdljhggillgpfaaGreatDoorSA29
import Derived.Test.YtdljhggillgpfaaGreatDoorSA28
import Derived.Deep.LoopGhost
set_option maxRecDepth 100000
set_option maxHeartbeats 16000000
namespace Go.Proofs.YtdljhggillgpfaaGreatDoor
open Go.RowKit Go.Shelf Go.Lib Go.Maps
def ruK (l : List Ru) (uv : Nat → Value) (k : Nat) (x : List UInt8) : Option Value :=
 match Bf.mkr l x with
 | some i => if i < k then some (ruV (l.getD i ⟨[],[],[],[]⟩) (uv i)) else none
 | none => none
theorem ruK_zero (l : List Ru) (uv : Nat → Value) (x : List UInt8) : ruK l uv 0 x = none := by
 unfold ruK
 split
 ·rw [if_neg (by omega)]
 ·rfl
theorem ruK_all (l : List Ru) (uv : Nat → Value) (x : List UInt8) : ruK l uv l.length x = ruF l uv x := by
 unfold ruK ruF
 cases hm : Bf.mkr l x with
 | none => rfl
 | some i =>
  obtain ⟨hi,_⟩ := Bf.mkr_of hm
  simp only [Option.map_some]
  rw [if_pos hi]
theorem ruK_next {l : List Ru} (uv : Nat → Value) {k : Nat} (hk : k < l.length) (hA : ∀ i j (hi : i < l.length) (hj : j < l.length),l[i].out = l[j].out → i = j) (x : List UInt8) : ruK l uv (k + 1) x = if x = l[k].out then some (ruV l[k] (uv k)) else ruK l uv k x := by
 by_cases e : x = l[k].out
 ·have hm : Bf.mkr l x = some k := by
   rw [e]
   unfold Bf.mkr
   rw [List.findIdx?_eq_some_iff_getElem]
   refine ⟨hk,by simp,fun j hj => ?_⟩
   have : l[j].out ≠ l[k].out := fun e => by
    have := hA j k (by omega) hk e
    omega
   simpa using this
  rw [if_pos e]
  unfold ruK
  rw [hm]
  simp only
  rw [if_pos (by omega),Bf.getD_at hk]
 ·rw [if_neg e]
  unfold ruK
  cases hm : Bf.mkr l x with
  | none => rfl
  | some i =>
   obtain ⟨hi,ei⟩ := Bf.mkr_of hm
   have : i ≠ k := fun h => e (by subst h;exact ei.symm)
   simp only
   by_cases h : i < k
   ·rw [if_pos h,if_pos (by omega)]
   ·rw [if_neg h,if_neg (by omega)]
theorem ruK_out {l : List Ru} {uv : Nat → Value} {k : Nat} {x : List UInt8} (h : (ruK l uv k x).isSome = true) : x ∈ l.map Ru.out := by
 unfold ruK at h
 cases hm : Bf.mkr l x with
 | none => rw [hm] at h;cases h
 | some i =>
  obtain ⟨hi,ei⟩ := Bf.mkr_of hm
  exact List.mem_map.2 ⟨_,List.getElem_mem hi,ei⟩
theorem last_cell (W : World) (v : Value) (t : TypeId) {n : Nat} (hn : W.heap.size = n) : (W.alloc (.cells #[v] t)).cell? ⟨n,0,none⟩ = some v := by
 subst hn
 exact cell_of_row (j := 0) (row_newW W _) rfl
structure AskM (tb : Nat) (l : List Ru) (uv : Nat → Value) (W0 : World) (k : Nat) (W : World) : Prop where
 base : Below W0.heap.size W0 W
 ct : W.cell? ⟨W0.heap.size,0,none⟩ = some (Ptr tb)
 cr : W.cell? ⟨W0.heap.size + 1 + 1,0,none⟩ = some (.map (some (W0.heap.size + 1)))
 rules : VMap W (W0.heap.size + 1) (ruK l uv k)
theorem AskM.lay {tb : Nat} {l : List Ru} {uv : Nat → Value} {W0 W : World} {k : Nat} (h : AskM tb l uv W0 k W) (hk : k < l.length) (hl : l.length ≤ 40) (ho : l[k].out.length ≤ 1000) (hA : ∀ i j (hi : i < l.length) (hj : j < l.length),l[i].out = l[j].out → i = j) :
  ∃ w1,(Instr.mapUpdate 236 (.map (some (W0.heap.size + 1))) (.string (ba l[k].out)) (ruV l[k] (uv k))).run Tryz.prog W = .ok () w1 ∧ AskM tb l uv W0 (k + 1) w1 := by
 obtain ⟨w1,hr,hv,ht⟩ := h.rules.laid Tryz.underlying236 (l.map Ru.out) (fun x hx => ruK_out hx) (by simp;omega) l[k].out (by omega) (ruV l[k] (uv k))
 have hb : ∀ j,j < W.heap.size → j ≠ W0.heap.size + 1 → w1.heap[j]? = W.heap[j]? := fun j hj hn => ht.grown.block j hj (by simpa using hn)
 refine ⟨w1,hr,⟨⟨ht.grown.os.trans h.base.os,ht.grown.tape.trans h.base.tape,ht.grown.output.trans h.base.output,Nat.le_trans h.base.size ht.grown.size,fun j hj => (hb j (Nat.lt_of_lt_of_le hj h.base.size) (by omega)).trans (h.base.block j hj)⟩,?_,?_,hv.congr fun x => ruK_next uv hk hA x⟩⟩
 ·exact (World.cell?_of_block (hb _ (lt_of_cell h.ct) (by simp))).trans h.ct
 ·exact (World.cell?_of_block (hb _ (lt_of_cell h.cr) (by simp))).trans h.cr
theorem AskM.below {tb : Nat} {l : List Ru} {uv : Nat → Value} {W0 W W' : World} {k : Nat} (h : AskM tb l uv W0 k W) (hb : Below W.heap.size W W') : AskM tb l uv W0 k W' :=
 ⟨below_then h.base hb,cell_below' h.ct hb,cell_below' h.cr hb,h.rules.below hb⟩
theorem AskM.done {es : Nat → Addr} {fs : Tf.Fs} {tb : Nat} {l : List Ru} {uv : Nat → Value} {W0 W W' : World} (h : AskM tb l uv W0 l.length W) (hb : Below W.heap.size W W') (hm : VMap W' W.heap.size (fun _ => none)) (hd : W'.cell? ⟨W.heap.size + 1,0,none⟩ = some (.map (some W.heap.size)))
  (hk : W'.cell? ⟨W.heap.size + 1 + 1,0,none⟩ = some (AskL.fn ⟨W0.heap.size + 1 + 1,W0.heap.size,W.heap.size + 1,W.heap.size + 1 + 1,W0.heap.size + 1,W.heap.size⟩)) :
  Asks es tb fs l uv W0 ⟨W0.heap.size + 1 + 1,W0.heap.size,W.heap.size + 1,W.heap.size + 1 + 1,W0.heap.size + 1,W.heap.size⟩ W' := by
 have h' := h.below hb
 have l1 := lt_of_cell h.ct
 have l2 := lt_of_cell h.cr
 simp only at l1 l2
 exact ⟨h'.base,h'.cr,h'.ct,hd,hk,h'.rules.congr fun x => (ruK_all l uv x).symm,⟨_,hm,fun x v hx => by cases hx⟩,by simp only;omega,by simp only;omega,by simp only;omega,by simp only;omega,by simp only;omega,by simp only;omega⟩
theorem AskM.fin {es : Nat → Addr} {fs : Tf.Fs} {tb : Nat} {l : List Ru} {uv : Nat → Value} {W0 W : World} (h : AskM tb l uv W0 l.length W) :
  Asks es tb fs l uv W0 ⟨W0.heap.size + 1 + 1,W0.heap.size,W.heap.size + 1,W.heap.size + 1 + 1,W0.heap.size + 1,W.heap.size⟩ (((W.alloc (.map #[] 0)).alloc (.cells #[.map (some W.heap.size)] 237)).alloc (.cells #[AskL.fn ⟨W0.heap.size + 1 + 1,W0.heap.size,W.heap.size + 1,W.heap.size + 1 + 1,W0.heap.size + 1,W.heap.size⟩] 183)) := by
 have g1 : Below W.heap.size W (W.alloc (.map #[] 0)) := (Below.refl _ W).alloc (Nat.le_refl _) _
 have g2 : Below (W.alloc (.map #[] 0)).heap.size (W.alloc (.map #[] 0)) ((W.alloc (.map #[] 0)).alloc (.cells #[.map (some W.heap.size)] 237)) := (Below.refl _ _).alloc (Nat.le_refl _) _
 have g3 : Below ((W.alloc (.map #[] 0)).alloc (.cells #[.map (some W.heap.size)] 237)).heap.size ((W.alloc (.map #[] 0)).alloc (.cells #[.map (some W.heap.size)] 237)) (((W.alloc (.map #[] 0)).alloc (.cells #[.map (some W.heap.size)] 237)).alloc (.cells #[AskL.fn ⟨W0.heap.size + 1 + 1,W0.heap.size,W.heap.size + 1,W.heap.size + 1 + 1,W0.heap.size + 1,W.heap.size⟩] 183)) := (Below.refl _ _).alloc (Nat.le_refl _) _
 exact h.done (below_then (below_then g1 g2) g3) (((VMap.made W).below g2).below g3) (cell_below' (last_cell _ _ _ (by simp)) g3) (last_cell _ _ _ (by simp))
theorem wAsker_calls {es : Nat → Addr} {fs : Tf.Fs} {tb : Nat} {l : List Ru} {W0 : World} (hE : AskE W0 es) (hT : ∃ B o,TreeAt B W0 tb fs o) (hby : ∀ x b,Tf.get fs x = some b → b.length ≤ 2000) (lv : Value) (hrow : RRow W0 lv l) (hl : l.length ≤ 40) (hS : ∀ x ∈ l,x.Small) (hA : ∀ i j (hi : i < l.length) (hj : j < l.length),l[i].out = l[j].out → i = j) :
  Calls Tryz.prog 117 #[Ptr tb,lv] W0 fun e w' => ∃ uv L,AskB es tb fs l uv W0 ∧ e = .returned L.fn ∧ Asks es tb fs l uv W0 L w' := by
 obtain ⟨p,cap,rfl,hcap,hnn,hin⟩ := hrow
 obtain ⟨uv,huv⟩ : ∃ uv : Nat → Value,∀ i (hi : i < l.length),∃ g o,p = some ⟨g,o,none⟩ ∧ g < W0.heap.size ∧ W0.cell? ⟨g,o + i * 4,none⟩ = some (.string (ba l[i].out)) ∧ W0.cell? ⟨g,o + i * 4 + 1,none⟩ = some (.string (ba l[i].kind)) ∧ W0.cell? ⟨g,o + i * 4 + 2,none⟩ = some (.string (ba l[i].word)) ∧ W0.cell? ⟨g,o + i * 4 + 3,none⟩ = some (uv i) ∧ XRow W0 (uv i) l[i].ins := by
  by_cases h0 : l = []
  ·exact ⟨fun _ => .nilIface,fun i hi => by rw [h0] at hi;simp at hi⟩
  ·obtain ⟨g,o,rfl,hg,hat⟩ := hin h0
   refine ⟨fun i => (W0.cell? ⟨g,o + i * 4 + 3,none⟩).getD .nilIface,fun i hi => ?_⟩
   obtain ⟨b0,b1,b2,u,b3,hu⟩ := hat i hi
   refine ⟨g,o,rfl,hg,b0,b1,b2,?_,?_⟩
   ·show _ = some ((W0.cell? ⟨g,o + i * 4 + 3,none⟩).getD .nilIface)
    rw [b3];rfl
   ·show XRow W0 ((W0.cell? ⟨g,o + i * 4 + 3,none⟩).getD .nilIface) _
    rw [b3];exact hu
 have HBase : Hid (AskB es tb fs l uv W0) := hid1 ⟨hE,hT,hby,fun i hi => by obtain ⟨_,_,_,_,_,_,_,_,h⟩ := huv i hi;exact h,hS,hl⟩
 have HUv := hid1 huv
 have HA := hid1 hA
 have HS := hid1 hS
 have hmm := @run_makeMap Tryz.prog
 have hst : ∀ (a : Addr) (m : Mode) (W : World) (f : Nat) (c : Array Value),Sem.run Tryz.prog (store a (.func (.func f) #[] c) m) W = stored Tryz.prog W a (.func (.func f) #[] c) m := fun a m W f c => run_store _ W a _ m rfl
 have HM0 : Hid (AskM tb l uv W0 0 (((W0.alloc (.cells #[Ptr tb] 75)).alloc (.map #[] 0)).alloc (.cells #[.map (some (W0.heap.size + 1))] 236))) := hid1 (by
  have z1 : (W0.alloc (.cells #[Ptr tb] 75)).heap.size = W0.heap.size + 1 := by simp
  have g1 : Below W0.heap.size W0 (W0.alloc (.cells #[Ptr tb] 75)) := (Below.refl _ W0).alloc (Nat.le_refl _) _
  have g2 : Below (W0.alloc (.cells #[Ptr tb] 75)).heap.size (W0.alloc (.cells #[Ptr tb] 75)) ((W0.alloc (.cells #[Ptr tb] 75)).alloc (.map #[] 0)) := (Below.refl _ _).alloc (Nat.le_refl _) _
  have g3 : Below ((W0.alloc (.cells #[Ptr tb] 75)).alloc (.map #[] 0)).heap.size ((W0.alloc (.cells #[Ptr tb] 75)).alloc (.map #[] 0)) (((W0.alloc (.cells #[Ptr tb] 75)).alloc (.map #[] 0)).alloc (.cells #[.map (some (W0.heap.size + 1))] 236)) := (Below.refl _ _).alloc (Nat.le_refl _) _
  have m1 := VMap.made (W0.alloc (.cells #[Ptr tb] 75))
  rw [z1] at m1
  exact ⟨below_then (below_then g1 g2) g3,cell_below' (cell_below' (cell_of_row (j := 0) (row_newW W0 _) rfl) g2) g3,last_cell _ _ _ (by simp),(m1.below g3).congr fun x => ruK_zero l uv x⟩)
 go_enter Tryz.func117,Tryz.ntmps117
 go_wp2
 go_loopw [13] (fun iv wr => ∃ k : Nat,k ≤ l.length ∧ iv = .int .i64 k ∧ AskM tb l uv W0 k wr) (fun iv _ => l.length - (intOf iv).toNat)
 case atStart =>
  exact ⟨0,Nat.zero_le _,rfl,HM0.out⟩
 case round =>
  obtain ⟨k,hk,rfl,hM⟩ := hrel
  have HM := hid1 hM
  have k0 : (0 : Int) ≤ (k : Int) := by omega
  by_cases hlt : k < l.length
  ·have k1 : (k : Int) < (l.length : Int) := by omega
   obtain ⟨g,o,rfl,hg,b0,b1,b2,b3,hu⟩ := HUv.out k hlt
   have c0 := cell_below' b0 hM.base
   have c1 := cell_below' b1 hM.base
   have c2 := cell_below' b2 hM.base
   have c3 := cell_below' b3 hM.base
   have bA : Below wr.heap.size wr (wr.alloc (.cells #[.string (ba l[k].out),.string (ba l[k].kind),.string (ba l[k].word),uv k] 36)) := (Below.refl _ wr).alloc (Nat.le_refl _) _
   obtain ⟨w2,hr2,hM2⟩ := (hM.below bA).lay hlt (by omega) (by have := (HS.out _ (List.getElem_mem hlt)).out;omega) HA.out
   have cr := (hM.below bA).cr
   have HM2 := hid1 hM2
   obtain ⟨pu,cu,eu,-⟩ := hu
   rw [eu] at c3 hr2 cr
   generalize l[k] = r at *
   go_wp2
   exact ⟨⟨k + 1,by omega,by go_num,HM2.out⟩,by simp [intOf];omega⟩
  ·have k1 : (l.length : Int) ≤ (k : Int) := by omega
   obtain rfl : k = l.length := by omega
   have HF := hid1 (HM.out.fin (es := es) (fs := fs))
   go_wp2
   go_ret
   exact ⟨uv,⟨W0.heap.size + 1 + 1,W0.heap.size,wr.heap.size + 1,wr.heap.size + 1 + 1,W0.heap.size + 1,wr.heap.size⟩,HBase.out,rfl,HF.out⟩
theorem nodup_inj {l : List Nat} (h : l.Nodup) {i j : Nat} (hi : i < l.length) (hj : j < l.length) (e : l[i] = l[j]) : i = j := by
 have hp := List.pairwise_iff_getElem.1 h
 rcases Nat.lt_trichotomy i j with h1 | h1 | h1
 ·exact absurd e (hp i j hi hj h1)
 ·exact h1
 ·exact absurd e.symm (hp j i hj hi h1)
abbrev ruOf (l : List Ru) (k : Nat) : Ru := l.getD k ⟨[],[],[],[]⟩
theorem stepsOf_calls {es : Nat → Addr} {W0 : World} {Bt tb : Nat} {fs : Tf.Fs} {o : Option Nat} (hT : TreeAt Bt W0 tb fs o) (lv : Value) (l : List Ru) (hrow : RRow W0 lv l) (hl : l.length ≤ 40) (hS : ∀ x ∈ l,x.Small) (hA : Ru.Apart l) (ov : Value) (ord : List Nat) (hord : NIRow W0 ov ord) (ht : Ru.Topo l ord) (hnd : ord.Nodup) (hol : ∀ i ∈ ord,i < l.length) :
  Calls Tryz.prog 149 #[Ptr tb,lv,ov] W0 fun e w' => ∃ bm mb L,e = .returned (.map (some bm)) ∧ OfS es W0 l fs (ruOf l) bm mb ord L w' := by
 have hlen : ord.length ≤ l.length := len_le hnd hol
 have hmm := @run_makeMap Tryz.prog
 have HT := hid1 hT
 have HS := hid1 hS
 have HA := hid1 hA
 have HTo := hid1 ht
 have HNd := hid1 hnd
 have HOl := hid1 hol
 have hru : ∀ k (hk : k < l.length),ruOf l k = l[k] := fun k hk => by simp [ruOf,hk]
 have HRu := hid1 hru
 obtain ⟨po,co,rfl,hoc⟩ := hord
 obtain ⟨pl,cl,rfl,hcl,hnl,hlc⟩ := hrow
 have HOc := hid1 hoc
 have HLc := hid1 hlc
 have zo : (ord.length : Int) ≤ 1000 := by omega
 have HS0 := hid1 (OfS.start es W0 l fs (ruOf l) ⟨fun _ => 0,fun _ => .slice none 0 0,fun _ => .slice none 0 0,fun _ => []⟩)
 go_enter Tryz.func149,Tryz.ntmps149
 go_wp2
 go_loopw [16] (fun iv wr => ∃ (m : Nat) (L : Lay),m ≤ ord.length ∧ iv = .int .i64 m ∧ OfS es W0 l fs (ruOf l) W0.heap.size (W0.heap.size + 1) (ord.take m) L wr) (fun iv _ => ord.length - (intOf iv).toNat)
 case atStart => exact ⟨0,_,Nat.zero_le _,rfl,HS0.out⟩
 case round =>
  obtain ⟨m,L,hm,rfl,hN⟩ := hrel
  have HN := hid1 hN
  have m0 : (0 : Int) ≤ (m : Int) := by omega
  by_cases hlt : m < ord.length
  ·have m1 : (m : Int) < (ord.length : Int) := by omega
   obtain ⟨g1,o1,rfl,hg1,hc1⟩ := HOc.out (by intro e;rw [e] at hlt;simp at hlt)
   have d0 := (HN.out.made.base.cell (p := ⟨g1,o1 + m,none⟩) hg1).trans (hc1 m hlt)
   have hil : ord[m] < l.length := HOl.out _ (List.getElem_mem hlt)
   have hnot : ord[m] ∉ ord.take m := fun e => by
    obtain ⟨j,hj,ej⟩ := List.mem_take_iff_getElem.1 e
    have := nodup_inj HNd.out _ _ ej
    omega
   have htk : ord.take (m + 1) = ord.take m ++ [ord[m]] := List.take_succ_eq_append_getElem hlt
   have HTk := hid1 htk
   have HTm := hid1 fun k (hn : Ru.needs l ord[m] k = true) => HTo.out m hlt k hn
   have HBk : Hid (∀ k ∈ ord.take m,k < l.length ∧ Ru.needs l k ord[m] = false) := hid1 fun k hk => by
    obtain ⟨j,hj,ej⟩ := List.mem_take_iff_getElem.1 hk
    refine ⟨HOl.out k (List.mem_of_mem_take hk),?_⟩
    rw [Bool.eq_false_iff]
    intro hn
    rw [← ej] at hn
    have h1 := HTo.out j (by omega) _ hn
    obtain ⟨j',hj',ej'⟩ := List.mem_take_iff_getElem.1 h1
    have := nodup_inj HNd.out _ _ ej'
    omega
   have hself : Ru.needs l ord[m] ord[m] = false := by
    rw [Bool.eq_false_iff]
    intro hn
    exact hnot (HTo.out m hlt _ hn)
   have hdl : (ord.take m).length = m := by simp;omega
   generalize ord[m] = i at *
   have i0 : (0 : Int) ≤ (i : Int) := by omega
   have i1 : (i : Int) < (l.length : Int) := by omega
   obtain ⟨g2,o2,rfl,hg2,hc2⟩ := HLc.out (by intro e;rw [e] at hil;simp at hil)
   obtain ⟨b0,b1,b2,u,b3,hu⟩ := hc2 i hil
   have hb := HN.out.made.base
   have c0 := cell_below' b0 hb
   have c1 := cell_below' b1 hb
   have c2 := cell_below' b2 hb
   have c3 := cell_below' b3 hb
   have hsm := HS.out _ (List.getElem_mem hil)
   have HNw := newStep_calls (es := es) (i := i) HN.out.made hnot HT.out u (by rw [HRu.out i hil];exact hu) (by rw [HRu.out i hil];exact hsm.many) (by rw [HRu.out i hil];exact fun x hx => by have := hsm.ins x hx;omega) HN.out.mmap (inpOf l fs) (by
    rw [HRu.out i hil]
    intro x hx
    unfold inpOf mkD
    cases hmk : Bf.mkr l x with
    | some k =>
     obtain ⟨hk,e1,_⟩ := Ru.mkr_some (show Ru.mkr l x = some k from hmk)
     have hin := HTm.out k (by rw [Ru.needs_eq hil hk,e1];simpa using hx)
     exact .inl ⟨k,rfl,hin,by simp only;rw [if_pos hin]⟩
    | none =>
     cases hg : Tf.get fs x with
     | some b => exact .inr (.inl ⟨rfl,b,rfl,rfl⟩)
     | none => exact .inr (.inr ⟨rfl,rfl,rfl⟩)) (fun k hk => by have := HN.out.usl k hk;omega)
   have HNx := hid1 fun w2 sb L' hN2 => HN.out.next (w2 := w2) (sb := sb) (L' := L') HRu.out HA.out hil hnot (by have := hsm.out;omega) hsm.many (by omega) hself HBk.out (by omega) hN2
   rw [HRu.out i hil] at HNw HNx
   have HNw := hid1 HNw
   obtain ⟨pu,cu,rfl,-⟩ := hu
   have HB0 := hid1 b0
   generalize hri : l[i] = r at *
   go_wp2_with fail
   refine HNw.out.mono ?_
   rintro e w2 ⟨sb,L',rfl,hsb,hN2⟩
   obtain ⟨w3,r3,b3,w4,r4,hN4⟩ := HNx.out w2 sb L' hN2
   have HN4 := hid1 hN4
   have e0 := cell_below' HB0.out b3
   go_wp2
   exact ⟨⟨m + 1,_,by omega,by go_num,by rw [HTk.out];exact HN4.out⟩,by simp [intOf];omega⟩
  ·have m1 : (ord.length : Int) ≤ (m : Int) := by omega
   have HN2 : Hid (OfS es W0 l fs (ruOf l) W0.heap.size (W0.heap.size + 1) ord L wr) := hid1 (by
    have := HN.out
    rwa [List.take_of_length_le (by omega)] at this)
   go_wp2
   go_ret
   exact ⟨_,_,L,rfl,HN2.out⟩
namespace Bf
theorem go_no (act : Act) (c : Ca) (d : Bd) {i : Nat} (hr : d.isReady i = true) (k : Nat) : ((go act c d i).d.st k).isNo = (d.st k).isNo := by
 have hw := ready_waits hr
 have hset : ∀ s : St,s.isNo = false → ((d.set i s).st k).isNo = (d.st k).isNo := fun s hs => by
  show (setS d.st i s k).isNo = _
  by_cases e : k = i
  ·rw [e,setS_same,hw,hs];rfl
  ·rw [setS_other e]
 have hfail : ∀ e,((d.fail i e).st k).isNo = (d.st k).isNo := fun e => by
  show (Bf.spread d.l (setS d.st i (.failed e)) k).isNo = _
  rw [spread_no]
  by_cases e' : k = i
  ·rw [e',setS_same,hw];rfl
  ·rw [setS_other e']
 unfold go
 split
 ·exact hfail _
 ·split
  ·exact hset _ rfl
  ·split
   ·exact hset _ rfl
   ·exact hfail _
theorem go_hit (act : Act) (c : Ca) (d : Bd) {i : Nat} (_ : d.isReady i = true) : (go act c d i).hit = (((go act c d i).d.st i).num == 2) ∧ (go act c d i).code = 0 := by
 have hset : ∀ s : St,(d.set i s).st i = s := fun s => setS_same _ _ _
 have hfail : ∀ e,(d.fail i e).st i = .failed e := fun e => by
  show Bf.spread d.l (setS d.st i (.failed e)) i = _
  rw [spread_keeps (by rw [setS_same];rfl),setS_same]
 unfold go
 split
 ·simp only [hfail];exact ⟨rfl,trivial⟩
 ·split
  ·simp only [hset];exact ⟨rfl,trivial⟩
  ·split
   ·simp only [hset];exact ⟨rfl,trivial⟩
   ·simp only [hfail];exact ⟨rfl,trivial⟩
end Bf
theorem BuM.turn {es : Nat → Addr} {W W' : World} {bb bm n : Nat} {L : Lay} {cv : Value} {d d' : Bf.Bd} (h : BuM es W bb bm n L cv d) (hl : d'.l = d.l) (hf : d'.fs = d.fs) (hno : ∀ k,(d'.st k).isNo = (d.st k).isNo) (hI : Bf.Inv d') (c0 : W'.cell? ⟨bb,0,none⟩ = some (.map (some bm))) (c1 : W'.cell? ⟨bb,1,none⟩ = some cv) (hm : SMap W' bm n d.dom L.sp) (hS : Steps W' es d.dom L d.rule (insOf d) d'.st) : BuM es W' bb bm n L cv d' := by
 obtain ⟨fs,l,st⟩ := d
 obtain ⟨fs',l',st'⟩ := d'
 simp only at hl hf
 subst hl hf
 have hd : Bf.Bd.dom ⟨fs',l',st'⟩ = Bf.Bd.dom ⟨fs',l',st⟩ := by
  funext k
  unfold Bf.Bd.dom Bf.Bd.dm
  simp only [hno k]
 refine ⟨c0,c1,by rw [hd];exact hm,by rw [hd];exact hS,fun i hi k => ?_,fun i hi => ?_,hI,h.apart,fun i hi => ?_⟩
 ·rw [h.us i (by rw [← hno i];exact hi) k,hno k]
 ·rw [hd] at hi
  exact h.usl i hi
 ·rw [hd] at hi
  exact h.few i hi
theorem BuM.far {es : Nat → Addr} {W : World} {bb bm n : Nat} {L : Lay} {cv : Value} {d : Bf.Bd} (h : BuM es W bb bm n L cv d) : ¬ PBlk d.dom L bb ∧ ¬ PBlk d.dom L bm := by
 constructor
 ·rintro ⟨i,hi,e⟩
  have c0 := (h.steps.at hi).c0
  have := h.c0
  rw [e,c0] at this
  cases this
 ·rintro ⟨i,hi,e⟩
  have r := h.steps.step i hi
  obtain ⟨D,⟨es',clock,h1,_⟩,_⟩ := h.map
  rw [e,r] at h1
  cases h1
theorem BuM.ran {es : Nat → Addr} {W w' : World} {bb bm n : Nat} {L : Lay} {cv : Value} {d : Bf.Bd} {c : Bf.Ca} {SC : Nat → Prop} {i : Nat} (h : BuM es W bb bm n L cv d) (hi : d.dom i) (hr : d.isReady i = true) (hap : ∀ j,BBlk bb bm d L j → ¬ SC j) (hP : RunPost es L d (Bf.go Af.actO c d i).d (Bf.go Af.actO c d i).c SC W cv w') :
  BuM es w' bb bm n L cv (Bf.go Af.actO c d i).d ∧ Only (fun j => BBlk bb bm d L j ∨ SC j) W w' ∧ ∃ SC',CaAt CAt SC' w' cv (Bf.go Af.actO c d i).c ∧ ∀ j,SC' j → SC j ∨ W.heap.size ≤ j := by
 obtain ⟨hS,hO,hC⟩ := hP
 obtain ⟨f1,f2⟩ := h.far
 have b1 : w'.heap[bb]? = W.heap[bb]? := hO.block bb (h.lt bb (.inl rfl)) fun e => e.elim f1 (hap bb (.inl rfl))
 have b2 : w'.heap[bm]? = W.heap[bm]? := hO.block bm (h.lt bm (.inr (.inl rfl))) fun e => e.elim f2 (hap bm (.inr (.inl rfl)))
 have hgl := Bf.go_less Af.actO c d i (h.lo hi) hr
 refine ⟨h.turn hgl.2.1 hgl.2.2 (Bf.go_no Af.actO c d hr) (h.inv.go Af.actO c hr) ((World.cell?_of_block (a := ⟨bb,0,none⟩) b1).trans h.c0) ((World.cell?_of_block (a := ⟨bb,1,none⟩) b1).trans h.c1) (h.map.same b2) hS,⟨hO.os,hO.tape,hO.output,hO.size,fun j hj hn => hO.block j hj fun e => hn (e.imp_left fun e => .inr (.inr e.s))⟩,hC⟩
def RunsPost (es : Nat → Addr) (bb bm n : Nat) (L : Lay) (d d' : Bf.Bd) (c' : Bf.Ca) (SC : Nat → Prop) (W : World) (cv : Value) (w' : World) : Prop :=
 BuM es w' bb bm n L cv d' ∧ Only (fun j => BBlk bb bm d L j ∨ SC j) W w' ∧ ∃ SC',CaAt CAt SC' w' cv c' ∧ ∀ j,SC' j → SC j ∨ W.heap.size ≤ j
theorem RunsPost.still {es : Nat → Addr} {bb bm n : Nat} {L : Lay} {d : Bf.Bd} {c : Bf.Ca} {SC : Nat → Prop} {W w' : World} {cv : Value} (h : BuM es W bb bm n L cv d) (hC : CaAt CAt SC W cv c) (hb : Below W.heap.size W w') : RunsPost es bb bm n L d d c SC W cv w' :=
 ⟨h.below hb,Only.of hb,SC,hC.below hb,fun _ h => .inl h⟩
theorem buRun_calls {es : Nat → Addr} {W : World} {bb bm n B : Nat} {L : Lay} {cv : Value} {d : Bf.Bd} {c : Bf.Ca} {SC : Nat → Prop} (hM : BuM es W bb bm n L cv d) (hC : CaAt CAt SC W cv c) (hap : ∀ j,BBlk bb bm d L j → ¬ SC j) (hW : BuildB B W es) (hSC : ∀ j,SC j → B ≤ j) (hS : ∀ x ∈ d.l,x.Small) (hfit : Bf.Fit d) (hcf : Bf.CFit c) (i : Int) (h0 : -9223372036854775808 ≤ i) (h1 : i ≤ 9223372036854775807) :
  Calls Tryz.prog 151 #[Ptr bb,.int .i64 i] W fun e w' => e = .returned (.tuple #[.bool (Bf.run Af.actO c d i).hit,erOf es (Bf.run Af.actO c d i).code]) ∧ RunsPost es bb bm n L d (Bf.run Af.actO c d i).d (Bf.run Af.actO c d i).c SC W cv w' := by
 have HA := hid1 (buall_calls hM.c0)
 have eN := hW.w.none
 have eT := hW.w.turn
 have eD := hW.w.done
 have HSt := hid1 fun V (g : Below W.heap.size W V) => RunsPost.still (hM) hC g
 rcases hM.look i h0 h1 with ⟨e0,hl⟩ | ⟨k,rfl,hk,hkl,e0,hl⟩
 ·have er : Bf.run Af.actO c d i = ⟨false,6,d,c⟩ := by
   unfold Bf.run
   split
   ·rfl
   ·rename_i h2
    unfold Bf.Bd.at at e0
    rw [if_neg h2] at e0
    unfold Bf.runN
    rw [e0]
    rfl
  rw [er]
  clear hM hC hap hW hSC hS hfit hcf e0 er
  go_enter Tryz.func151,Tryz.ntmps151
  go_wp2_with fail
  refine HA.out.mono ?_
  rintro e w1 ⟨rfl,rfl⟩
  clear HA
  go_wp2
  go_region
  go_wp2
  go_ret2
  exact ⟨rfl,HSt.out _ ((Below.refl _ _).drew)⟩
 ·have hno := Bf.Bd.dom_no hk
  have hA := hM.steps.at hk
  have c4 := hA.c4
  have hnw := Bf.St.num_waits hno
  have e1 : Bf.run Af.actO c d (k : Nat) = Bf.runN Af.actO c d k := by
   unfold Bf.run
   rw [if_neg (by omega),Int.toNat_natCast]
  have e2 : Bf.runN Af.actO c d k = if (d.st k).isWaits = false then ⟨false,12,d,c⟩ else if d.isReady k = false then ⟨false,11,d,c⟩ else Bf.go Af.actO c d k := by
   unfold Bf.runN
   rw [if_neg (by rw [hno];simp)]
  rw [e1,e2]
  cases hwt : (d.st k).isWaits with
  | false =>
   rw [if_pos rfl]
   rw [hwt] at hnw
   have z : (((d.st k).num : Int) == 0) = false := by
    have : (d.st k).num ≠ 0 := fun e => by rw [e] at hnw;cases hnw
    simp;omega
   clear hM hC hap hW hSC hS hfit hcf e0 e1 e2 hnw hwt hA hno
   generalize (d.st k).num = m at *
   go_enter Tryz.func151,Tryz.ntmps151
   go_wp2_with fail
   refine HA.out.mono ?_
   rintro e w1 ⟨rfl,rfl⟩
   clear HA
   go_wp2
   go_region
   go_wp2
   go_ret2
   exact ⟨rfl,HSt.out _ ((Below.refl _ _).drew)⟩
  | true =>
   rw [if_neg (by simp)]
   rw [hwt] at hnw
   have z : (d.st k).num = 0 := by simpa using hnw.symm
   rw [z] at c4
   have HRd := stready_calls hM.steps k hk hno (hM.few k hk)
   rw [hM.isReady hk] at HRd
   have HRd := hid1 HRd
   cases hrd : d.isReady k with
   | false =>
    rw [if_pos rfl]
    rw [hrd] at HRd
    clear hM hC hap hW hSC hS hfit hcf e0 e1 e2 hnw hwt hA hno z hrd
    go_enter Tryz.func151,Tryz.ntmps151
    go_wp2_with fail
    refine HA.out.mono ?_
    rintro e w1 ⟨rfl,rfl⟩
    clear HA
    go_wp2_with fail
    refine HRd.out.mono ?_
    rintro e w2 ⟨rfl,g2⟩
    have eT2 := cell_below' eT g2
    clear HRd
    go_wp2
    go_region
    go_wp2
    go_ret2
    exact ⟨rfl,HSt.out _ g2.drew⟩
   | true =>
    rw [if_neg (by simp)]
    rw [hrd] at HRd
    have hr : (d.rule k) ∈ d.l := by unfold Bf.Bd.rule;simp [hkl]
    have hsm := hS _ hr
    have HGo := hid1 fun V (g : Below W.heap.size W V) => strun_calls (hM.below g) hk hrd (hC.below g) (fun j hj => hap j (.inr (.inr hj))) (hW.below g) hSC hfit hcf (by have := hsm.kind;omega) (by have := hsm.word;omega) hsm.many
    have HFin := hid1 fun V w' (g : Below W.heap.size W V) hP => (hM.below g).ran hk hrd hap (w' := w') (c := c) hP
    obtain ⟨hh1,hh2⟩ := Bf.go_hit Af.actO c d hrd
    have HC1 := hid1 fun V (g : Below W.heap.size W V) => (hM.below g).c1
    obtain ⟨oc,rfl⟩ := hC.ptr
    rw [hh1,hh2]
    clear hM hC hap hW hSC hS hfit hcf e0 e1 e2 hnw hwt hA hno z hr hsm hh1 hh2
    generalize Bf.go Af.actO c d k = G at *
    go_enter Tryz.func151,Tryz.ntmps151
    go_wp2_with fail
    refine HA.out.mono ?_
    rintro e w1 ⟨rfl,rfl⟩
    clear HA
    go_wp2_with fail
    refine HRd.out.mono ?_
    rintro e w2 ⟨rfl,g2⟩
    have c1 := HC1.out w2 g2
    have HGo2 := hid1 (HGo.out w2 g2)
    clear HRd HGo
    go_wp2_with fail
    refine HGo2.out.mono ?_
    rintro e w3 ⟨rfl,hP⟩
    obtain ⟨p1,p2,SC',p3,p4⟩ := HFin.out w2 w3 g2 hP
    have hz2 := g2.size
    have HPo : Hid (RunsPost es bb bm n L d G.d G.c SC w1 (.pointer oc) w3) := hid1 ⟨p1,(Only.of g2).trans p2 fun j hj => .inl hj,SC',p3,fun j hj => (p4 j hj).imp_right fun h => Nat.le_trans hz2 h⟩
    have d4 := (hP.1.at hk).c4
    have z2 : (((G.d.st k).num : Int) == 2) = ((G.d.st k).num == 2) := by
     rw [Bool.eq_iff_iff]
     simp
     omega
    clear HGo2 HFin p1 p2 p3 p4 hP
    generalize hgm : (G.d.st k).num = m at *
    have HGm := hid1 hgm
    clear hgm
    go_wp2
    go_ret2
    exact ⟨by rw [HGm.out];rfl,HPo.out⟩
end Go.Proofs.YtdljhggillgpfaaGreatDoor
namespace Go.Proofs.YtdljhggillgpfaaGreatDoor
open Go.RowKit Go.Shelf Go.Lib Go.Maps
theorem dom_go (c : Bf.Ca) (d : Bf.Bd) {i : Nat} (hr : d.isReady i = true) : (Bf.go Af.actO c d i).d.dom = d.dom := by
 funext k
 unfold Bf.Bd.dom Bf.Bd.dm
 simp only [Bf.go_no Af.actO c d hr k]
structure AllS (es : Nat → Addr) (bb bm n : Nat) (L : Lay) (cv : Value) (d : Bf.Bd) (c : Bf.Ca) (SC : Nat → Prop) (W1 : World) (r : Nat) (d' : Bf.Bd) (c' : Bf.Ca) (SC' : Nat → Prop) (wr : World) : Prop where
 l : d'.l = d.l
 dom : d'.dom = d.dom
 all : Bf.all Af.actO c d = Bf.all Af.actO c' d'
 fit : Bf.Fit d'
 cfit : Bf.CFit c'
 m : BuM es wr bb bm n L cv d'
 ca : CaAt CAt SC' wr cv c'
 sc : ∀ j,SC' j → SC j ∨ W1.heap.size ≤ j
 only : Only (fun j => BBlk bb bm d L j ∨ SC j) W1 wr
 row : wr.heap[r]? = some (.cells #[.int .i64 0,.int .i64 0,.int .i64 0,.int .i64 0] 137)
theorem AllS.below {es : Nat → Addr} {bb bm n : Nat} {L : Lay} {cv : Value} {d : Bf.Bd} {c : Bf.Ca} {SC : Nat → Prop} {W1 : World} {r : Nat} {d' : Bf.Bd} {c' : Bf.Ca} {SC' : Nat → Prop} {wr w' : World} (h : AllS es bb bm n L cv d c SC W1 r d' c' SC' wr) (hb : Below wr.heap.size wr w') : AllS es bb bm n L cv d c SC W1 r d' c' SC' w' :=
 ⟨h.l,h.dom,h.all,h.fit,h.cfit,h.m.below hb,h.ca.below hb,h.sc,h.only.trans (Only.of hb) fun _ hj => .inl hj,(hb.block r (Array.getElem?_eq_some_iff.1 h.row).1).trans h.row⟩
theorem AllS.blk {es : Nat → Addr} {bb bm n : Nat} {L : Lay} {cv : Value} {d : Bf.Bd} {c : Bf.Ca} {SC : Nat → Prop} {W1 : World} {r : Nat} {d' : Bf.Bd} {c' : Bf.Ca} {SC' : Nat → Prop} {wr : World} (h : AllS es bb bm n L cv d c SC W1 r d' c' SC' wr) (j : Nat) : BBlk bb bm d' L j ↔ BBlk bb bm d L j := by
 unfold BBlk
 rw [h.dom]
theorem AllS.next {es : Nat → Addr} {bb bm n : Nat} {L : Lay} {cv : Value} {d : Bf.Bd} {c : Bf.Ca} {SC : Nat → Prop} {W1 : World} {r : Nat} {d' : Bf.Bd} {c' : Bf.Ca} {SC' : Nat → Prop} {wr w' : World} (h : AllS es bb bm n L cv d c SC W1 r d' c' SC' wr) (hlt : ∀ j,BBlk bb bm d L j → j < r) (hSC : ∀ j,SC j → j < r) (hr1 : r < W1.heap.size) {i : Nat} {q : List Nat} (hq : d'.ready = i :: q) (hP : RunsPost es bb bm n L d' (Bf.go Af.actO c' d' i).d (Bf.go Af.actO c' d' i).c SC' wr cv w') :
  ∃ SC'',AllS es bb bm n L cv d c SC W1 r (Bf.go Af.actO c' d' i).d (Bf.go Af.actO c' d' i).c SC'' w' := by
 obtain ⟨p1,p2,SC'',p3,p4⟩ := hP
 have hm := Bf.mem_ready.1 (show i ∈ d'.ready by rw [hq];simp)
 have hgl := Bf.go_less Af.actO c' d' i hm.1 hm.2
 have hgf := Bf.go_fit (act := Af.actO) actFit (c := c') (d := d') h.cfit h.fit i
 have hz := h.only.size
 have hne : ∀ j,BBlk bb bm d' L j ∨ SC' j → j ≠ r := fun j hj e => by
  rcases hj with h1 | h1
  ·have := hlt j ((h.blk j).1 h1)
   omega
  ·rcases h.sc j h1 with h2 | h2
   ·have := hSC j h2
    omega
   ·omega
 refine ⟨SC'',hgl.2.1.trans h.l,(dom_go c' d' hm.2).trans h.dom,h.all.trans (Bf.all_cons Af.actO c' d' hq),hgf.1,hgf.2,p1,p3,fun j hj => ?_,?_,?_⟩
 ·rcases p4 j hj with h1 | h1
  ·exact h.sc j h1
  ·exact .inr (by omega)
 ·refine h.only.trans p2 fun j hj => ?_
  rcases hj with h1 | h1
  ·exact .inl (.inl ((h.blk j).1 h1))
  ·exact (h.sc j h1).imp_left .inr
 ·exact (p2.block r (Array.getElem?_eq_some_iff.1 h.row).1 fun e => hne r e rfl).trans h.row
theorem AllS.done {es : Nat → Addr} {bb bm n : Nat} {L : Lay} {cv : Value} {d : Bf.Bd} {c : Bf.Ca} {SC : Nat → Prop} {W W1 : World} {d' : Bf.Bd} {c' : Bf.Ca} {SC' : Nat → Prop} {wr : World} (h : AllS es bb bm n L cv d c SC W1 W.heap.size d' c' SC' wr) (hlt : ∀ j,BBlk bb bm d L j → j < W.heap.size) (hSC : ∀ j,SC j → j < W.heap.size) (hr1 : W1.heap.size = W.heap.size + 1) (gA : Below W.heap.size W W1) (hq : d'.ready = []) (x0 x1 x2 x3 : Value) :
  RunsPost es bb bm n L d (Bf.all Af.actO c d).1 (Bf.all Af.actO c d).2 SC W cv ((((wr.setCell ⟨W.heap.size,0,none⟩ x0).setCell ⟨W.heap.size,1,none⟩ x1).setCell ⟨W.heap.size,2,none⟩ x2).setCell ⟨W.heap.size,3,none⟩ x3) := by
 have hs : ∀ j,j ≠ W.heap.size → ((((wr.setCell ⟨W.heap.size,0,none⟩ x0).setCell ⟨W.heap.size,1,none⟩ x1).setCell ⟨W.heap.size,2,none⟩ x2).setCell ⟨W.heap.size,3,none⟩ x3).heap[j]? = wr.heap[j]? := fun j hj => by
  rw [Below.heap_setCell _ _ _ j hj,Below.heap_setCell _ _ _ j hj,Below.heap_setCell _ _ _ j hj,Below.heap_setCell _ _ _ j hj]
 have hz := h.only.size
 rw [h.all,Bf.all_nil Af.actO c' d' hq]
 refine ⟨h.m.same fun j hj => hs j fun e => ?_,⟨?_,?_,?_,?_,fun j hj hn => ?_⟩,SC',h.ca.same (by simp) fun j hj => hs j fun e => ?_,fun j hj => ?_⟩
 ·have := hlt j ((h.blk j).1 hj)
  omega
 ·exact h.only.os.trans gA.os
 ·exact h.only.tape.trans gA.tape
 ·exact h.only.output.trans gA.output
 ·simp
  omega
 ·rw [hs j (by omega),h.only.block j (by omega) hn]
  exact gA.block j hj
 ·rcases h.sc j hj with h2 | h2
  ·have := hSC j h2
   omega
  ·omega
 ·exact (h.sc j hj).imp_right fun h2 => by omega
theorem buAll_calls {es : Nat → Addr} {W : World} {bb bm n B : Nat} {L : Lay} {cv : Value} {d : Bf.Bd} {c : Bf.Ca} {SC : Nat → Prop} (hM : BuM es W bb bm n L cv d) (hC : CaAt CAt SC W cv c) (hap : ∀ j,BBlk bb bm d L j → ¬ SC j) (hW : BuildB B W es) (hSB : ∀ j,BBlk bb bm d L j → B ≤ j) (hSC : ∀ j,SC j → B ≤ j) (hS : ∀ x ∈ d.l,x.Small) (hl : d.l.length ≤ 1000) (hfit : Bf.Fit d) (hcf : Bf.CFit c) :
  Calls Tryz.prog 109 #[Ptr bb] W fun e w' => e = .returned (.agg #[.int .i64 ((Bf.all Af.actO c d).1.ran : Nat),.int .i64 ((Bf.all Af.actO c d).1.hits : Nat),.int .i64 ((Bf.all Af.actO c d).1.fails : Nat),.int .i64 ((Bf.all Af.actO c d).1.lefts : Nat)]) ∧ RunsPost es bb bm n L d (Bf.all Af.actO c d).1 (Bf.all Af.actO c d).2 SC W cv w' := by
 obtain ⟨W1,hW1⟩ : ∃ W1,W1 = W.alloc (.cells #[.int .i64 0,.int .i64 0,.int .i64 0,.int .i64 0] 137) := ⟨_,rfl⟩
 have hz1 : W1.heap.size = W.heap.size + 1 := by rw [hW1];simp
 have gA : Below W.heap.size W W1 := by rw [hW1];exact (Below.refl _ W).alloc (Nat.le_refl _) _
 have hr1 : W1.heap[W.heap.size]? = some (.cells #[.int .i64 0,.int .i64 0,.int .i64 0,.int .i64 0] 137) := by rw [hW1];exact row_new _ _
 have HA0 : Hid (AllS es bb bm n L cv d c SC W1 W.heap.size d c SC W1) := hid1 ⟨rfl,rfl,rfl,hfit,hcf,hM.below gA,hC.below gA,fun j hj => .inl hj,Only.refl _ _,hr1⟩
 have HLt := hid1 hM.lt
 have HCl := hid1 hC.lt
 have HAp := hid1 hap
 have HSC := hid1 hSC
 have HSB := hid1 hSB
 have HW1 := hid1 (hW.below gA)
 have HBl := hid1 hW.le
 have HSm := hid1 hS
 have HGA := hid1 gA
 have HRd0 := hid1 (buReady_calls (hM.below gA) hl)
 go_enter Tryz.func109,Tryz.ntmps109
 rw [hW1] at HRd0
 go_wp2_with fail
 refine HRd0.out.mono ?_
 rintro e w2 ⟨u0,rfl,hu0,g2⟩
 rw [← hW1] at g2
 have HU0 := hid1 hu0
 have HA2 := hid1 (HA0.out.below g2)
 obtain ⟨p0,k0,e0,-⟩ := hu0
 subst e0
 have HUX := HU0
 go_wp2
 go_loopg [3] (d.waits) (fun gn lv wr => ∃ (d' : Bf.Bd) (c' : Bf.Ca) (SC' : Nat → Prop),d'.waits = gn ∧ AllS es bb bm n L cv d c SC W1 W.heap.size d' c' SC' wr ∧ NIRow wr lv d'.ready)
 case atStart => exact ⟨d,c,SC,rfl,HA2.out,HUX.out⟩
 case round =>
  obtain ⟨d',c',SC',hgn,hA,hu⟩ := hrel
  have HA := hid1 hA
  have HGn := hid1 hgn
  have hl' : d'.l.length ≤ 1000 := by rw [hA.l];exact hl
  have hrl : d'.ready.length ≤ 1000 := Nat.le_trans (Bf.readyTo_len d' d'.l.length) hl'
  have HU := hid1 hu
  obtain ⟨p3,c3,rfl,-⟩ := hu
  cases hq : d'.ready with
  | nil =>
   have HCt := hid1 (buCount_calls HA.out.m hl')
   have HDn := hid1 fun w5 (g5 : Below wr.heap.size wr w5) => (HA.out.below g5).done HLt.out HCl.out hz1 HGA.out hq
   have HEq : Hid ((Bf.all Af.actO c d).1 = d') := hid1 (by rw [HA.out.all,Bf.all_nil Af.actO c' d' hq])
   have HRow := hid1 fun w5 (g5 : Below wr.heap.size wr w5) => (HA.out.below g5).row
   go_wp2_with fail
   refine HCt.out.mono ?_
   rintro e w5 ⟨rfl,g5⟩
   have rr := HRow.out w5 g5
   have HP := hid1 (HDn.out w5 g5)
   have z0 := cell_of_row (j := 0) rr rfl
   have z1 := cell_of_row (j := 1) rr rfl
   have z2 := cell_of_row (j := 2) rr rfl
   have z3 := cell_of_row (j := 3) rr rfl
   have f0 : w5.frozen? ⟨W.heap.size,0,none⟩ = false := by simp [World.frozen?,rr]
   have f1 : w5.frozen? ⟨W.heap.size,1,none⟩ = false := by simp [World.frozen?,rr]
   have f2 : w5.frozen? ⟨W.heap.size,2,none⟩ = false := by simp [World.frozen?,rr]
   have f3 : w5.frozen? ⟨W.heap.size,3,none⟩ = false := by simp [World.frozen?,rr]
   have qq := hid1 (count_cells rr (.int .i64 (d'.ran : Nat)) (.int .i64 (d'.hits : Nat)) (.int .i64 (d'.fails : Nat)) (.int .i64 (d'.lefts : Nat)))
   go_wp2
   refine bodyPost_ret (v := .agg #[.int .i64 (d'.ran : Nat),.int .i64 (d'.hits : Nat),.int .i64 (d'.fails : Nat),.int .i64 (d'.lefts : Nat)]) ?_ rfl ⟨by rw [HEq.out],HP.out _ _ _ _⟩
   obtain ⟨q0,q1,q2,q3⟩ := qq.out
   simp [results,Tryz.f109,go_sem,q0,q1,q2,q3]
  | cons i q =>
   have hm := Bf.mem_ready.1 (show i ∈ d'.ready by rw [hq];simp)
   obtain ⟨g3,o3,rfl,hg3,hc3⟩ := NIRow.at HU.out (by rw [hq];simp)
   have d0 := hc3 0 (by rw [hq];simp)
   have e0 : d'.ready[0]'(by rw [hq];simp) = i := by simp [hq]
   rw [e0,Nat.add_zero] at d0
   have HRn := hid1 (buRun_calls HA.out.m HA.out.ca (fun j hj h1 => by
    have hj' := (HA.out.blk j).1 hj
    rcases HA.out.sc j h1 with h2 | h2
    ·exact HAp.out j hj' h2
    ·have := HLt.out j hj'
     omega) (HW1.out.only HA.out.only fun j hj => hj.elim (HSB.out j) (HSC.out j)) (fun j h1 => by
    rcases HA.out.sc j h1 with h2 | h2
    ·exact HSC.out j h2
    ·have := HBl.out
     omega) (by rw [HA.out.l];exact HSm.out) HA.out.fit HA.out.cfit (i : Nat) (by omega) (by have := hm.1;omega))
   rw [Bf.run_ready Af.actO c' d' i hm.1 hm.2] at HRn
   have HNx := hid1 fun w6 hP => HA.out.next (w' := w6) HLt.out HCl.out (by omega) hq hP
   have hless := (Bf.go_less Af.actO c' d' i hm.1 hm.2).1
   rw [hq,List.length_cons] at hrl
   rw [List.length_cons]
   have zq : (0 : Int) < (q.length : Int) + 1 := by omega
   go_wp2_with fail
   refine HRn.out.mono ?_
   rintro e w6 ⟨rfl,hP⟩
   obtain ⟨SC'',hA6⟩ := HNx.out w6 hP
   have HA6 := hid1 hA6
   have HRd := hid1 (buReady_calls hA6.m (by rw [hA6.l];exact hl))
   go_wp2_with fail
   refine HRd.out.mono ?_
   rintro e w7 ⟨u7,rfl,hu7,g7⟩
   have HA7 := hid1 (HA6.out.below g7)
   have HU7 := hid1 hu7
   obtain ⟨p7,c7,rfl,-⟩ := hu7
   go_wp2
   go_roundg ((Bf.go Af.actO c' d' i).d.waits)
   case measure => rw [← HGn.out];exact hless
   case rel => exact ⟨_,_,SC'',rfl,HA7.out,HU7.out⟩
end Go.Proofs.YtdljhggillgpfaaGreatDoor
