import Derived.Test.YtflbofdpfgkmcaaGreatDoorRP31
set_option maxRecDepth 100000
set_option maxHeartbeats 16000000
namespace Go.Proofs.YtflbofdpfgkmcaaGreatDoor
open Go.RowKit Go.Shelf Go.Lib Go.Maps
theorem OfS.build {es : Nat → Addr} {W0 w1 : World} {l : List Ru} {fs : Tf.Fs} {bm mb : Nat} {ord : List Nat} {L : Lay} (h : OfS es W0 l fs (ruOf l) bm mb ord L w1) (hA : Ru.Apart l) (hS : ∀ x ∈ l,x.Small) {outs : List (List UInt8)} {f : Nat → Bool} (hN : Ru.Needed l outs f) (hn : ∀ k,k ∈ ord ↔ k < l.length ∧ f k = true) (hlen : ord.length ≤ 40) {cv : Value} {w2 : World} {bb : Nat} (hb : Below w1.heap.size w1 w2) (hz : w1.heap.size ≤ bb) (c0 : w2.cell? ⟨bb,0,none⟩ = some (.map (some bm))) (c1 : w2.cell? ⟨bb,1,none⟩ = some cv) :
  BuM es w2 bb bm ord.length L cv (Bf.init fs l outs) ∧ ∀ j,BBlk bb bm (Bf.init fs l outs) L j → W0.heap.size ≤ j := by
 have hst : ∀ k,(Bf.init fs l outs).st k = if k ∈ ord then .waits else .no := fun k => by
  show (if Bf.need l outs k = true then Bf.St.waits else .no) = _
  by_cases hk : k < l.length
  ·rw [Bf.need_eq hN hk]
   by_cases hf : f k = true
   ·rw [if_pos hf,if_pos ((hn k).2 ⟨hk,hf⟩)]
   ·rw [if_neg hf,if_neg fun e => hf ((hn k).1 e).2]
  ·rw [Bf.need_out (by omega),if_neg (by simp),if_neg fun e => hk ((hn k).1 e).1]
 have hdom : (Bf.init fs l outs).dom = fun k => k ∈ ord := by
  funext k
  unfold Bf.Bd.dom Bf.Bd.dm
  rw [hst k]
  by_cases hk : k ∈ ord
  ·rw [if_pos hk];simp [hk,Bf.St.isNo]
  ·rw [if_neg hk];simp [hk,Bf.St.isNo]
 have hno : ∀ k,((Bf.init fs l outs).st k).isNo = false ↔ k ∈ ord := fun k => by
  rw [hst k]
  by_cases hk : k ∈ ord
  ·rw [if_pos hk];simp [hk,Bf.St.isNo]
  ·rw [if_neg hk];simp [hk,Bf.St.isNo]
 have hins : ∀ k,insOf (Bf.init fs l outs) k = (ruOf l k).ins.map (inpOf l fs) := fun k => rfl
 refine ⟨⟨c0,c1,?_,?_,?_,?_,?_,hA,?_⟩,?_⟩
 ·rw [hdom]
  exact h.smap.same (hb.block bm h.smap.lt)
 ·have hs := h.made.steps.below hb
  rw [hdom]
  exact hs.congr fun i hi => by rw [hst i,if_pos hi]
 ·intro i hi k
  rw [h.us i ((hno i).1 hi) k,← hno k]
  rfl
 ·intro i hi
  rw [hdom] at hi
  have := h.usl i hi
  omega
 ·refine Bf.Inv.init (fun i hi => ?_) (fun i k hk hi => ?_) fun i => ?_
  ·rw [hst i,if_neg fun e => by have := ((hn i).1 e).1;have : l.length ≤ i := hi;omega]
  ·rw [hno] at hi ⊢
   have hk' : Ru.needs l i k = true := hk
   exact (hn k).2 ⟨(Ru.needs_lt hk').2,hN.closed i k ((hn i).1 hi).2 hk'⟩
  ·rw [hst i]
   split
   ·exact .inr rfl
   ·exact .inl rfl
 ·intro i hi
  rw [hdom] at hi
  rw [hins,List.length_map]
  have hil := ((hn i).1 hi).1
  have := (hS _ (List.getElem_mem hil)).many
  simp [ruOf,hil]
  omega
 ·rintro j (rfl | rfl | hj)
  ·have := h.made.base.size
   omega
  ·exact h.lb
  ·rw [hdom] at hj
   exact h.made.low j hj
theorem containsI_new {W : World} {nb : Nat} {v : Value} {ll : List Nat} (hc : W.cell? ⟨nb,0,none⟩ = some v) (hrow : NIRow W v ll) (hl : ll.length ≤ 1000) (x : Nat) : Calls Tryz.prog 104 #[nv x,.pointer (some ⟨nb,0,none⟩)] W fun e w' => e = .returned (.bool (decide (x ∈ ll))) ∧ Below W.heap.size W w' := by
 have HC := hid1 (slContainsI_calls v ll x hrow (by omega))
 obtain ⟨p,c,rfl,-⟩ := hrow
 go_enter Tryz.func104,Tryz.ntmps104
 go_wp2_with fail
 refine HC.out.mono ?_
 rintro e w1 ⟨rfl,rfl⟩
 clear HC
 go_wp2
 go_ret
 exact ⟨rfl,Below.refl _ _⟩
theorem buNew_nil {es : Nat → Addr} {W : World} (hW : BuildW W es) (lv ov cv : Value) : Calls Tryz.prog 56 #[.pointer none,lv,ov,cv] W fun e w' => e = .returned (.tuple #[.pointer none,erOf es 3]) ∧ Below W.heap.size W w' := by
 have c := hW.shape
 clear hW
 go_enter Tryz.func56,Tryz.ntmps56
 go_wp2
 go_region
 go_wp2
 go_ret2
 exact ⟨rfl,(Below.refl _ W).drew⟩
theorem NewTells.below {es : Nat → Addr} {n : Nat} {fs : Tf.Fs} {l : List Ru} {outs : List (List UInt8)} {cv : Value} {w w' : World} {ev : Value} (h : NewTells es (BuAt es) n fs l outs cv w (.pointer none) ev) (hb : Below w.heap.size w w') : NewTells es (BuAt es) n fs l outs cv w' (.pointer none) ev := by
 rcases h with ⟨h0,h1 | ⟨h1,k,hk,h2,h3,h4⟩ | h1⟩ | ⟨_,_,_,_,⟨p,e⟩,_⟩
 ·exact .inl ⟨h0,.inl ⟨h1.1,h1.2.below hb⟩⟩
 ·exact .inl ⟨h0,.inr (.inl ⟨h1,k,hk,h2,h3,h4.below hb⟩)⟩
 ·exact .inl ⟨h0,.inr (.inr h1)⟩
 ·cases e
theorem newOrder_calls {es : Nat → Addr} {V : World} (hG : GraphW V es) (lv : Value) (l : List Ru) (hrow : RRow V lv l) (hl : l.length ≤ 1000) (hS : ∀ x ∈ l,x.Small) (nb : Nat) (v : Value) (ll : List Nat) (hc : V.cell? ⟨nb,0,none⟩ = some v) (hr : NIRow V v ll) (hll : ll.length ≤ 1000) (hcl : ∀ i k,i ∈ ll → Ru.needs l i k = true → k ∈ ll) :
  Calls Tryz.prog 91 #[lv,.func (.func 104) #[] #[.pointer (some ⟨nb,0,none⟩)]] V fun e w' => ∃ u ev,e = .returned (.tuple #[u,ev]) ∧ Below V.heap.size V w' ∧ SomeTells es l (fun k => decide (k ∈ ll)) w' u ev :=
 grOrderOf_calls hG lv l hrow hl hS 104 #[.pointer (some ⟨nb,0,none⟩)] (enters_of Tryz.func104 (by kernel_rfl) rfl) (fun k => decide (k ∈ ll)) (hid1 fun i k hi hk => by
  simp only [decide_eq_true_eq] at hi ⊢
  exact hcl i k hi hk) (hid1 fun x W' _ gW => containsI_new (cell_below' hc gW) (hr.below gW) hll x)
theorem buNew_calls {es : Nat → Addr} {W : World} (hW : BuildW W es) {Bt tb : Nat} {fs : Tf.Fs} {o : Option Nat} (hT : TreeAt Bt W tb fs o) (lv : Value) (l : List Ru) (hrow : RRow W lv l) (hl : l.length ≤ 1000) (hS : ∀ x ∈ l,x.Small) (ov : Value) (outs : List (List UInt8)) (hout : XRow W ov outs) (hol : outs.length ≤ 1000) (cv : Value) (hcv : ∃ q,cv = .pointer q) :
  Calls Tryz.prog 56 #[Ptr tb,lv,ov,cv] W fun e w' => ∃ bv ev,e = .returned (.tuple #[bv,ev]) ∧ Below W.heap.size W w' ∧ NewTells es (BuAt es) W.heap.size fs l outs cv w' bv ev := by
 have HNd := hid1 (gNeeds_calls hW.g.s hW.none lv l hrow hl hS ov outs hout hol)
 have HOf := hid1 fun (V : World) (g : Below W.heap.size W V) => newOrder_calls (hW.g.below g) lv l (hrow.below g) hl hS
 have HSt := hid1 fun (V : World) (g : Below W.heap.size W V) (h40 : l.length ≤ 40) (hA : Ru.Apart l) (uv : Value) (ord : List Nat) (hord : NIRow V uv ord) (ht : Ru.Topo l ord) (hnd : ord.Nodup) (ho : ∀ i ∈ ord,i < l.length) => stepsOf_calls (es := es) (hT.below g) lv l (hrow.below g) h40 hS hA uv ord hord ht hnd ho
 have HS := hid1 hS
 obtain ⟨q,rfl⟩ := hcv
 obtain ⟨pl,cl,rfl,-⟩ := hrow
 obtain ⟨po,co,rfl,-⟩ := hout
 clear hW hT hS
 go_enter Tryz.func56,Tryz.ntmps56
 go_wp2_with fail
 refine HNd.out.mono ?_
 rintro e w1 ⟨u1,ev,rfl,g1,hT1⟩
 clear HNd
 rcases hT1 with ⟨hf,hE,pn,cn,rfl⟩ | ⟨hf,k,hk,h1,h2,hE,pn,cn,rfl⟩ | ⟨hf,h1,rfl,f,hN,hrw⟩
 ·have HP : Hid (NewTells es (BuAt es) W.heap.size fs l outs (.pointer q) w1 (.pointer none) ev) := hid1 (.inl ⟨rfl,.inl ⟨hf,hE⟩⟩)
  obtain ⟨t,x,rfl⟩ := hE.some hf
  have gA : Below w1.heap.size w1 (w1.alloc (.cells #[.slice pn 0 cn] 68)) := (Below.refl _ w1).alloc (Nat.le_refl _) _
  clear hf hE HOf HSt
  go_wp2
  go_ret2
  exact ⟨_,_,rfl,below_then g1 gA,HP.out.below gA⟩
 ·have HP : Hid (NewTells es (BuAt es) W.heap.size fs l outs (.pointer q) w1 (.pointer none) ev) := hid1 (.inl ⟨rfl,.inr (.inl ⟨hf,k,hk,h1,h2,hE⟩)⟩)
  obtain ⟨t,x,rfl⟩ := hE.some (by simp)
  have gA : Below w1.heap.size w1 (w1.alloc (.cells #[.slice pn 0 cn] 68)) := (Below.refl _ w1).alloc (Nat.le_refl _) _
  clear hf hE h1 h2 HOf HSt
  go_wp2
  go_ret2
  exact ⟨_,_,rfl,below_then g1 gA,HP.out.below gA⟩
 ·obtain ⟨h40,hA⟩ := Ru.fault_ok hf
  have HR1 := hid1 hrw
  obtain ⟨pn,cn,rfl,-⟩ := hrw
  have gA : Below w1.heap.size w1 (w1.alloc (.cells #[.slice pn ((List.range l.length).filter f).length cn] 68)) := (Below.refl _ w1).alloc (Nat.le_refl _) _
  have G2 := below_then g1 gA
  have hfl : ((List.range l.length).filter f).length ≤ 40 := Nat.le_trans (by simpa using List.length_filter_le f (List.range l.length)) h40
  have hch : ∀ k,k < l.length → (decide (k ∈ (List.range l.length).filter f)) = Bf.need l outs k := fun k hk => by
   rw [Bf.need_eq hN hk]
   simp [hk]
  have HCh := hid1 (Ru.order_congr2 hch)
  have HO := hid1 (HOf.out _ G2 w1.heap.size _ _ (by simp) (HR1.out.below gA) (by omega) fun i k hi hk => by
   simp only [List.mem_filter,List.mem_range] at hi ⊢
   exact ⟨(Ru.needs_lt hk).2,hN.closed i k hi.2 hk⟩)
  unfold SomeTells at HO
  rw [HCh.out] at HO
  have HFt := hid1 hf
  have H1 := hid1 h1
  have HN := hid1 hN
  have HA := hid1 hA
  have hsh := HR1.out
  clear hf h1 hN hA HOf HCh hch hsh HR1
  go_wp2_with fail
  refine HO.out.mono ?_
  rintro e w3 ⟨u3,ev3,rfl,g3,hT3⟩
  have G3 := below_then G2 g3
  clear HO
  rcases hT3 with ⟨h0,-⟩ | ⟨-,hnone,rfl,pn3,cn3,rfl⟩ | ⟨-,ord,hsome,rfl,hr3⟩
  ·exact absurd HFt.out h0
  ·have HP : Hid (NewTells es (BuAt es) W.heap.size fs l outs (.pointer q) w3 (.pointer none) (erOf es 9)) := hid1 (.inl ⟨rfl,.inr (.inr ⟨HFt.out,H1.out,hnone,rfl⟩)⟩)
   clear hnone HSt
   obtain ⟨t9,x9,e9⟩ : ∃ t x,erOf es 9 = .iface t x := ⟨_,_,rfl⟩
   rw [e9] at HP ⊢
   clear e9
   go_wp2
   go_ret2
   exact ⟨_,_,rfl,G3,HP.out⟩
  ·obtain ⟨ht,hall⟩ := Ru.order_some hsome
   obtain ⟨hnd,hlt⟩ := Ru.order_nodup hsome
   have hch := Ru.order_ch hsome
   have HSo := hid1 (HSt.out w3 G3 h40 HA.out u3 ord hr3 ht hnd hlt)
   have hol2 : ord.length ≤ 40 := Nat.le_trans (len_le hnd hlt) h40
   have HMem : Hid (∀ k,k ∈ ord ↔ k < l.length ∧ f k = true) := hid1 fun k => by
    constructor
    ·intro hk
     have h1 := hlt k hk
     exact ⟨h1,by rw [← Bf.need_eq HN.out h1];exact hch k hk⟩
    ·rintro ⟨h1,h2⟩
     exact hall k h1 (by rw [Bf.need_eq HN.out h1];exact h2)
   have HSome : Hid ((Ru.order l (Bf.need l outs)).isSome = true) := hid1 (by rw [hsome];rfl)
   obtain ⟨p3,c3,rfl,-⟩ := hr3
   clear HSt ht hall hnd hlt hch hsome
   go_wp2_with fail
   refine HSo.out.mono ?_
   rintro e w4 ⟨bm,mb,L,rfl,hO4⟩
   have g4 : Below w3.heap.size w3 w4 := hO4.made.base
   have gB : Below w4.heap.size w4 (w4.alloc (.cells #[.map (some bm),.pointer q] 184)) := (Below.refl _ w4).alloc (Nat.le_refl _) _
   have rr := row_new w4 (.cells #[.map (some bm),.pointer q] 184)
   obtain ⟨hB,hlo⟩ := hO4.build HA.out HS.out HN.out HMem.out hol2 (cv := .pointer q) gB (Nat.le_refl _) (cell_of_row (j := 0) rr rfl) (cell_of_row (j := 1) rr rfl)
   have hz3 := G3.size
   have HP : Hid (NewTells es (BuAt es) W.heap.size fs l outs (.pointer q) (w4.alloc (.cells #[.map (some bm),.pointer q] 184)) (Ptr w4.heap.size) .nilIface) := hid1 (.inr ⟨HFt.out,H1.out,HSome.out,rfl,⟨_,rfl⟩,_,⟨_,_,_,L,rfl,⟨q,rfl⟩,fun _ => Iff.rfl,hB⟩,fun j hj => Nat.le_trans hz3 (hlo j hj)⟩)
   have G5 := below_then (below_then G3 g4) gB
   clear HSo hO4 hB hlo rr g4 gB
   go_wp2
   go_ret2
   exact ⟨_,_,rfl,G5,HP.out⟩
theorem builds (es : Nat → Addr) : Builds es Af.actO CAt (BuAt es) where
 same := fun S W W' v cv d h _ hb => by
  obtain ⟨bb,bm,n,L,e,hc,hS,h⟩ := h
  exact ⟨bb,bm,n,L,e,hc,hS,h.same fun j hj => hb j ((hS j).2 hj)⟩
 lt := fun S W v cv d h k hk => by
  obtain ⟨bb,bm,n,L,e,hc,hS,h⟩ := h
  exact h.lt k ((hS k).1 hk)
 noTree := fun W lv l ov outs cv hW _ _ => buNew_nil hW lv ov cv
 new := fun W B tb fs o lv l ov outs cv hW hT _ _ _ hrow hl hS hout hol _ hcv => buNew_calls hW hT lv l hrow (by omega) hS ov outs hout (by omega) cv hcv
 ready := fun S W p cv d h hl => by
  obtain ⟨bb,bm,n,L,e,hc,hS,h⟩ := h
  cases e
  exact buReady_calls h (by omega)
 state := fun S W p cv d i h _ h0 h1 => by
  obtain ⟨bb,bm,n,L,e,hc,hS,h⟩ := h
  cases e
  exact buState_calls h i h0 h1
 result := fun S W p cv d i h _ h0 h1 => by
  obtain ⟨bb,bm,n,L,e,hc,hS,h⟩ := h
  cases e
  exact buResult_calls h i h0 h1
 why := fun S W p cv d i h _ _ h0 h1 => by
  obtain ⟨bb,bm,n,L,e,hc,hS,h⟩ := h
  cases e
  exact buWhy_calls h i h0 h1
 over := fun S W p cv d h hl => by
  obtain ⟨bb,bm,n,L,e,hc,hS,h⟩ := h
  cases e
  exact buOver_calls h (by omega)
 count := fun S W p cv d h hl => by
  obtain ⟨bb,bm,n,L,e,hc,hS,h⟩ := h
  cases e
  exact buCount_calls h (by omega)
 run := fun B S SC W p cv d c i h hC hap hW hSB hSC hf hS hfit hcf h0 h1 => by
  obtain ⟨bb,bm,n,L,e,hc,hB,h⟩ := h
  cases e
  refine (buRun_calls h hC (fun j hj => hap j ((hB j).2 hj)) hW hSC hS hfit hcf i h0 h1).mono ?_
  rintro e w' ⟨rfl,hM,hO,SC',hC',hSC'⟩
  have hdom : ∀ j,BBlk bb bm (Bf.run Af.actO c d i).d L j ↔ BBlk bb bm d L j := fun j => by
   have : (Bf.run Af.actO c d i).d.dom = d.dom := by
    unfold Bf.run
    split
    ·rfl
    ·unfold Bf.runN
     split
     ·rfl
     ·split
      ·rfl
      ·split
       ·rfl
       ·rename_i h5
        exact dom_go c d (by simpa using h5)
   unfold BBlk
   rw [this]
  have hlt := h.lt
  refine ⟨rfl,⟨hO.os,hO.tape,hO.output,hO.size,fun j hj hn => hO.block j hj fun e => hn (e.imp_left (hB j).2)⟩,S,SC',⟨bb,bm,n,L,rfl,hc,fun j => (hB j).trans (hdom j).symm,hM⟩,hC',fun j hj hx => ?_,fun j hj => .inl hj,hSC'⟩
  rcases hSC' j hx with h2 | h2
  ·exact hap j hj h2
  ·have := hlt j ((hB j).1 hj)
   omega
 all := fun B S SC W p cv d c h hC hap hW hSB hSC hf hS hfit hcf => by
  obtain ⟨bb,bm,n,L,e,hc,hB,h⟩ := h
  cases e
  obtain ⟨h40,_⟩ := Ru.fault_ok hf
  refine (buAll_calls h hC (fun j hj => hap j ((hB j).2 hj)) hW (fun j hj => hSB j ((hB j).2 hj)) hSC hS (by omega) hfit hcf).mono ?_
  rintro e w' ⟨rfl,hM,hO,SC',hC',hSC'⟩
  have hdom : ∀ j,BBlk bb bm (Bf.all Af.actO c d).1 L j ↔ BBlk bb bm d L j := fun j => by
   have key : ∀ (f : Nat) (c : Bf.Ca) (d : Bf.Bd),(Bf.allF Af.actO f c d).1.dom = d.dom := fun f => by
    induction f with
    | zero => exact fun _ _ => rfl
    | succ f ih =>
     intro c d
     unfold Bf.allF
     cases hq : d.ready with
     | nil => rfl
     | cons i q =>
      have hm := Bf.mem_ready.1 (show i ∈ d.ready by rw [hq];simp)
      exact (ih _ _).trans (dom_go c d hm.2)
   unfold BBlk
   rw [show (Bf.all Af.actO c d).1.dom = d.dom from key _ c d]
  have hlt := h.lt
  refine ⟨rfl,⟨hO.os,hO.tape,hO.output,hO.size,fun j hj hn => hO.block j hj fun e => hn (e.imp_left (hB j).2)⟩,S,SC',⟨bb,bm,n,L,rfl,hc,fun j => (hB j).trans (hdom j).symm,hM⟩,hC',fun j hj hx => ?_,fun j hj => .inl hj,hSC'⟩
  rcases hSC' j hx with h2 | h2
  ·exact hap j hj h2
  ·have := hlt j ((hB j).1 hj)
   omega
open Tf (Fs)
structure TErr (w : World) (es : Nat → Value) : Prop where
 bound : w.cell? ⟨6,0,none⟩ = some (es 2)
 shape : w.cell? ⟨1,0,none⟩ = some (es 3)
 name : w.cell? ⟨7,0,none⟩ = some (es 4)
 none6 : w.cell? ⟨2,0,none⟩ = some (es 6)
 exist : w.cell? ⟨9,0,none⟩ = some (es 7)
 full : w.cell? ⟨10,0,none⟩ = some (es 8)
 faces : ∀ k,∃ t u,es (k + 1) = .iface t u
 nil : es 0 = .nilIface
theorem TErr.below {w w' : World} {es : Nat → Value} (h : TErr w es) (hb : Below w.heap.size w w') : TErr w' es :=
 ⟨cell_below' h.bound hb,cell_below' h.shape hb,cell_below' h.name hb,cell_below' h.none6 hb,cell_below' h.exist hb,cell_below' h.full hb,h.faces,h.nil⟩
theorem invK (key : Value) (kl : Lit) (h : keyOf Tryz.prog 9 key = some kl) : ∃ x,key = encStr x := by
 obtain ⟨x,hx,_⟩ := Maps.keyOf_str Tryz.underlying9 h
 exact ⟨x,hx⟩
theorem invV (v : Value) (y : DataW Unit × List MemPlace) (h : fileElem v = some y) : ∃ c : List UInt8,v = fileV c := by
 obtain ⟨l,rfl,_⟩ := fileElem_inv h
 exact ⟨l,rfl⟩
theorem hasP_of_at {fs : Fs} {x : List UInt8} {y : DataW Unit} (h : ∀ zd,(Tf.datum fs).atKey (.string x) zd = y) : Tf.hasP fs x = true := by
 rw [← Tf.datum_has]
 exact Maps.has_true_of_atKey h
def Clear (fs : Fs) (p : List UInt8) (left : Lit → Bool) : Prop := ∀ f ∈ fs,left (.string f.1) = false → (Tf.above f.1 p || Tf.above p f.1) = false
theorem Clear.start (fs : Fs) (p : List UInt8) : Clear fs p (Maps.has (Tf.datum fs)) := by
 intro f hf h
 rw [Tf.datum_has] at h
 have : Tf.hasP fs f.1 = true := List.any_eq_true.2 ⟨f,hf,by simp⟩
 rw [this] at h
 cases h
theorem Clear.step {fs : Fs} {p x : List UInt8} {left : Lit → Bool} (h : Clear fs p left) (hx : (Tf.above x p || Tf.above p x) = false) : Clear fs p (fun z => left z && !z.sameKey (.string x)) := by
 intro f hf hl
 by_cases e : f.1 = x
 ·rw [e];exact hx
 ·refine h f hf ?_
  have : (Lit.string f.1).sameKey (.string x) = false := by simp [Lit.sameKey,e]
  simpa [this] using hl
theorem Clear.done {fs : Fs} {p : List UInt8} {left : Lit → Bool} (h : Clear fs p left) (hl : ∀ kl,left kl = false) : Tf.clash fs p = false := by
 unfold Tf.clash
 rw [List.any_eq_false]
 intro f hf
 have := h f hf (hl _)
 simpa using this
theorem clash_of {fs : Fs} {p x : List UInt8} (hx : Tf.hasP fs x = true) (h : (Tf.above x p || Tf.above p x) = true) : Tf.clash fs p = true := by
 obtain ⟨f,hf,e⟩ := List.any_eq_true.1 hx
 obtain rfl : f.1 = x := by simpa using e
 exact List.any_eq_true.2 ⟨f,hf,h⟩
theorem mayPut_name {B : Nat} {w : World} {tb : Nat} {fs : Fs} {o : Option Nat} {es : Nat → Value} (_h : TreeAt B w tb fs o) (hE : TErr w es) (p b : List UInt8) (hp : p.length ≤ 1000000) (hn : pathB p = false) :
  Calls Tryz.prog 78 #[Ptr tb,.string (ba p),.string (ba b)] w fun e w' => e = .returned (es 4) ∧ Below w.heap.size w w' := by
 obtain ⟨t,u,e4⟩ := hE.faces 3
 have hn4 := hE.name
 rw [e4] at hn4 ⊢
 have HK : Hid (Calls Tryz.prog 130 #[.string (ba p)] w fun e w' => e = .returned (.iface t u) ∧ Below w.heap.size w w') := Check_no p hp hn w t u hn4
 clear hn hE
 go_enter Tryz.func78,Tryz.ntmps78
 go_wp2_with fail
 refine HK.out.mono ?_
 rintro e w1 ⟨rfl,g1⟩
 go_wp2
 go_ret
 exact ⟨rfl,g1⟩
theorem mayPut_bound {B : Nat} {w : World} {tb : Nat} {fs : Fs} {o : Option Nat} {es : Nat → Value} (_h : TreeAt B w tb fs o) (hE : TErr w es) (p b : List UInt8) (hp : p.length ≤ 1000000) (hn : pathB p = true) (hb : 2000 < b.length) :
  Calls Tryz.prog 78 #[Ptr tb,.string (ba p),.string (ba b)] w fun e w' => e = .returned (es 2) ∧ Below w.heap.size w w' := by
 obtain ⟨t,u,e4⟩ := hE.faces 1
 have hn4 := hE.bound
 rw [e4] at hn4 ⊢
 have HK : Hid (Calls Tryz.prog 130 #[.string (ba p)] w fun e w' => e = .returned .nilIface ∧ Below w.heap.size w w') := Check_yes p hp hn w
 have z : (2000 : Int) < (b.length : Int) := by omega
 clear hn hE hb
 go_enter Tryz.func78,Tryz.ntmps78
 go_wp2_with fail
 refine HK.out.mono ?_
 rintro e w1 ⟨rfl,g1⟩
 have hc := cell_below' hn4 g1
 go_wp2
 go_ret
 exact ⟨rfl,g1⟩
theorem mayPut_there {B : Nat} {w : World} {tb : Nat} {fs : Fs} {o : Option Nat} (h : TreeAt B w tb fs o) (p b : List UInt8) (hp : p.length ≤ 1000000) (hn : pathB p = true) (hb : b.length ≤ 2000) (ht : Tf.hasP fs p = true) :
  Calls Tryz.prog 78 #[Ptr tb,.string (ba p),.string (ba b)] w fun e w' => e = .returned .nilIface ∧ Below w.heap.size w w' := by
 have HK : Hid (Calls Tryz.prog 130 #[.string (ba p)] w fun e w' => e = .returned .nilIface ∧ Below w.heap.size w w') := Check_yes p hp hn w
 have z : (b.length : Int) ≤ 2000 := by omega
 have HL : Hid (∀ w',Below w.heap.size w w' → (Instr.lookup 136 (.map o) (.string (ba p)) true).run Tryz.prog w' = .ok (.tuple #[fileV ((Tf.get fs p).getD []),.bool true]) w') := fun w' g => by
  have := look_tree (h.below g) p hp
  rwa [ht] at this
 have hc := h.cell
 generalize (Tf.get fs p).getD [] = x at *
 clear hn hb ht h
 go_enter Tryz.func78,Tryz.ntmps78
 go_wp2_with fail
 refine HK.out.mono ?_
 rintro e w1 ⟨rfl,g1⟩
 have hl := HL.out w1 g1
 have hc1 := cell_below' hc g1
 go_wp2
 go_ret
 exact ⟨rfl,g1.alloc g1.size _⟩
def newCode (fs : Fs) (p : List UInt8) : Nat := if Tf.clash fs p then 7 else if 60 ≤ fs.length then 8 else 0
theorem mayPut_new {B : Nat} {w : World} {tb : Nat} {fs : Fs} {bm : Nat} {es : Nat → Value} (h : TreeAt B w tb fs (some bm)) (hE : TErr w es) (hlen : ∀ f ∈ fs,f.1.length ≤ 1000000) (hfew : fs.length ≤ 1000) (p b : List UInt8) (hp : p.length ≤ 1000000) (hn : pathB p = true) (hb : b.length ≤ 2000) (ht : Tf.hasP fs p = false) :
  Calls Tryz.prog 78 #[Ptr tb,.string (ba p),.string (ba b)] w fun e w' => e = .returned (es (newCode fs p)) ∧ Below w.heap.size w w' := by
 have HK : Hid (Calls Tryz.prog 130 #[.string (ba p)] w fun e w' => e = .returned .nilIface ∧ Below w.heap.size w w') := Check_yes p hp hn w
 have z : (b.length : Int) ≤ 2000 := by omega
 have HL : Hid (∀ w',Below w.heap.size w w' → (Instr.lookup 136 (.map (some bm)) (.string (ba p)) true).run Tryz.prog w' = .ok (.tuple #[fileV ((Tf.get fs p).getD []),.bool false]) w') := fun w' g => by
  have := look_tree (h.below g) p hp
  rwa [ht] at this
 have hc := h.cell
 have hm := h.isMap.2.2
 have HA : Hid (∀ (a c : List UInt8),a.length ≤ 1000000 → ∀ W,Calls Tryz.prog 131 #[.string (ba a),.string (ba c)] W fun e w' => e = .returned (.bool (Tf.above a c)) ∧ w' = W) := fun a c ha W => above_calls a c ha W
 generalize (Tf.get fs p).getD [] = x0 at *
 clear hn hb ht h
 go_enter Tryz.func78,Tryz.ntmps78
 go_wp2_with fail
 refine HK.out.mono ?_
 rintro e w1 ⟨rfl,g1⟩
 have hl := HL.out w1 g1
 have hc1 := cell_below' hc g1
 have hm1 := (ownsMap_below hm g1).alloc (.cells #[.string (ba x0)] 140)
 have g2 := g1.alloc g1.size (.cells #[.string (ba x0)] 140)
 have hc2 := cell_below' hc g2
 clear HK HL
 go_wp2_with (first
  | (at_range;refine wpList_range_own _ rfl _ 136 rfl 9 140 klaw Tryz.underlying136 fileElem bm fs.length (Tf.datum fs) rfl hm1 ?_;intro w0 hrg0 hg0 hs0)
  | go_in)
 go_frame
 have g3 : Below w.heap.size w w0 := g2.grown hg0 (by simp;have := g1.size;omega) (fun _ e => by cases e)
 generalize hr : (w1.alloc (.cells #[.string (ba x0)] 140)).heap.size = r at *
 have hrl : w.heap.size ≤ r := by rw [← hr];simp;have := g1.size;omega
 clear hr hl hm1 g2 hc2 hg0 hs0 hc1
 go_loopw [10] (fun _ wr => ∃ (left : Lit → Bool) (cnt : Nat),wr.ranges Tryz.prog 9 fileElem bm r fs.length (Tf.datum fs) left cnt ∧ Clear fs p left ∧ Below w.heap.size w wr)
  (fun _ wr => wr.rangeLeft bm r)
 case atStart => exact ⟨_,_,hrg0,Clear.start fs p,g3⟩
 case round =>
  obtain ⟨left,cnt,hrg,hcl,hB⟩ := hrel
  have hE' := hE.below hB
  have hc' := cell_below' hc hB
  go_wp2_with (first
   | (at_next;refine wpList_next_ranges _ rfl _ rfl 9 klaw fileElem (fun x : List UInt8 => Value.string (ba x)) (fun c : List UInt8 => fileV c) (fun key kl hk => invK key kl hk) invV bm r fs.length _ _ _ rfl hrg ?_ ?_)
   | go_in)
  ·intro _ hl0
   have hclash := hcl.done hl0
   have hfull := hE'.full
   by_cases h60 : 60 ≤ fs.length
   ·have e8 : newCode fs p = 8 := by simp [newCode,hclash,h60]
    obtain ⟨t,u,e4⟩ := hE.faces 7
    rw [e4] at hfull
    have z60 : (60 : Int) ≤ ((Maps.size (Tf.datum fs) : Nat) : Int) := by rw [Tf.datum_size];omega
    go_wp2_with (first
     | (at_len;refine wpList_len_own _ rfl _ 136 rfl 9 140 Tryz.underlying136 fileElem bm fs.length (Tf.datum fs) rfl hrg.owns ?_)
     | go_in)
    go_ret
    exact ⟨congrArg Ending.returned (show Value.iface t u = es (newCode fs p) by rw [e8,e4]),hB⟩
   ·have e0 : newCode fs p = 0 := by simp [newCode,hclash,h60]
    have z60 : ((Maps.size (Tf.datum fs) : Nat) : Int) < 60 := by rw [Tf.datum_size];omega
    go_wp2_with (first
     | (at_len;refine wpList_len_own _ rfl _ 136 rfl 9 140 Tryz.underlying136 fileElem bm fs.length (Tf.datum fs) rfl hrg.owns ?_)
     | go_in)
    go_ret
    exact ⟨congrArg Ending.returned (show Value.nilIface = es (newCode fs p) by rw [e0,hE.nil]),hB⟩
  ·intro x c kl yd yp w2 cnt2 hkey hlk hv hat hrg2 hlt hg2 hs2 hen
   obtain ⟨x',ex,rfl,_⟩ := Maps.keyOf_str Tryz.underlying9 hkey
   obtain rfl : x = x' := encStr_inj ex
   have hxs := hasP_of_at hat
   have hxl : x.length ≤ 1000000 := by
    obtain ⟨f,hf,e⟩ := List.any_eq_true.1 hxs
    obtain rfl : f.1 = x := by simpa using e
    exact hlen f hf
   have hB2 : Below w.heap.size w w2 := hB.grown hg2 hB.size (fun j e => by cases e;exact hrl)
   have hex := (hE.below hB2).exist
   have A1 : Hid (∀ W,Calls Tryz.prog 131 #[.string (ba x),.string (ba p)] W fun e w' => e = .returned (.bool (Tf.above x p)) ∧ w' = W) := HA.out x p hxl
   have A2 : Hid (∀ W,Calls Tryz.prog 131 #[.string (ba p),.string (ba x)] W fun e w' => e = .returned (.bool (Tf.above p x)) ∧ w' = W) := HA.out p x hp
   clear hs2 hkey hv ex
   obtain ⟨t,u,e7⟩ := hE.faces 6
   cases a1 : Tf.above x p with
   | true =>
    have hcc := clash_of (p := p) hxs (by simp [a1])
    have e8 : newCode fs p = 7 := by simp [newCode,hcc]
    rw [a1] at A1
    rw [e7] at hex
    clear A2
    go_wp2_with fail
    refine (A1.out _).mono ?_
    rintro e w' ⟨rfl,rfl⟩
    go_wp2
    go_ret
    exact ⟨congrArg Ending.returned (show Value.iface t u = es (newCode fs p) by rw [e8,e7]),hB2⟩
   | false =>
    rw [a1] at A1
    cases a2 : Tf.above p x with
    | true =>
     have hcc := clash_of (p := p) hxs (by simp [a2])
     have e8 : newCode fs p = 7 := by simp [newCode,hcc]
     rw [a2] at A2
     rw [e7] at hex
     go_wp2_with fail
     refine (A1.out _).mono ?_
     rintro e w' ⟨rfl,rfl⟩
     go_wp2_with fail
     refine (A2.out _).mono ?_
     rintro e w' ⟨rfl,rfl⟩
     go_wp2
     go_ret
     exact ⟨congrArg Ending.returned (show Value.iface t u = es (newCode fs p) by rw [e8,e7]),hB2⟩
    | false =>
     rw [a2] at A2
     go_wp2_with fail
     refine (A1.out _).mono ?_
     rintro e w' ⟨rfl,rfl⟩
     go_wp2_with fail
     refine (A2.out _).mono ?_
     rintro e w' ⟨rfl,rfl⟩
     go_wp2
     go_roundw
     case rel => exact ⟨_,cnt2,hrg2,hcl.step (by simp [a1,a2]),hB2⟩
     case measure => rw [hrg2.left_eq,hrg.left_eq];exact hlt
theorem Put_no {B : Nat} {w : World} {tb : Nat} {fs : Fs} {o : Option Nat} (_h : TreeAt B w tb fs o) (p b : List UInt8) (t : TypeId) (u : Value)
  (HM : Hid (Calls Tryz.prog 78 #[Ptr tb,.string (ba p),.string (ba b)] w fun e w' => e = .returned (.iface t u) ∧ Below w.heap.size w w')) :
  Calls Tryz.prog 17 #[Ptr tb,.string (ba p),.string (ba b)] w fun e w' => e = .returned (.iface t u) ∧ Below w.heap.size w w' := by
 go_enter Tryz.func17,Tryz.ntmps17
 go_wp2_with fail
 refine HM.out.mono ?_
 rintro e w1 ⟨rfl,g1⟩
 go_wp2
 go_ret
 exact ⟨rfl,g1⟩
theorem eq_someMap (bm : Nat) (w : World) : (binOp BinOp.eql 136 (.map (some bm)) (.map none)).run Tryz.prog w = .ok (.bool false) w := by kernel_rfl
theorem eq_noMap (w : World) : (binOp BinOp.eql 136 (.map none) (.map none)).run Tryz.prog w = .ok (.bool true) w := by kernel_rfl
theorem below_turned {B : Nat} {a w w' : World} {bm : Nat} (h : Below B a w) (hsz : B ≤ w.heap.size) (hB : B ≤ bm) (ht : w.mapTurned w' bm) : Below B a w' :=
 h.grown ht.grown hsz (fun j e => by cases e;exact hB)
theorem mayPut_empty {B : Nat} {w : World} {tb : Nat} {fs : Fs} (h : TreeAt B w tb fs none) (p b : List UInt8) (hp : p.length ≤ 1000000) (hn : pathB p = true) (hb : b.length ≤ 2000) :
  Calls Tryz.prog 78 #[Ptr tb,.string (ba p),.string (ba b)] w fun e w' => e = .returned .nilIface ∧ Below w.heap.size w w' := by
 have HK : Hid (Calls Tryz.prog 130 #[.string (ba p)] w fun e w' => e = .returned .nilIface ∧ Below w.heap.size w w') := Check_yes p hp hn w
 have z : (b.length : Int) ≤ 2000 := by omega
 have hl := fun w' => look_nofile w' p hp
 have hc := h.cell
 clear hn hb h
 go_enter Tryz.func78,Tryz.ntmps78
 go_wp2_with fail
 refine HK.out.mono ?_
 rintro e w1 ⟨rfl,g1⟩
 have hc1 := cell_below' hc g1
 have g2 := g1.alloc g1.size (.cells #[.string (ba [])] 140)
 have hc2 := cell_below' hc g2
 have g3 := g2.alloc g2.size (.mapIter none 0 #[] 0)
 have hc3 := cell_below' hc g3
 have hrg := run_range_nilMap (P := Tryz.prog) (w1.alloc (.cells #[.string (ba [])] 140)) 136 9 140 Tryz.underlying136
 have hnx : ∀ ty,(Instr.next (.pointer (some ⟨(w1.alloc (.cells #[.string (ba [])] 140)).heap.size,0,none⟩)) false ty).run Tryz.prog ((w1.alloc (.cells #[.string (ba [])] 140)).alloc (.mapIter none 0 #[] 0)) = _ := fun ty => run_next_nilMap (w1.alloc (.cells #[.string (ba [])] 140)) ty 0 0 #[]
 have hln : ∀ W ty,(Builtin.len_ #[136] ty #[.map none]).run Tryz.prog W = .ok (.int .i64 0) W := fun W ty => Maps.len_nil (w := W) Tryz.underlying136 ty
 have e1 : (w1.alloc (.cells #[.string (ba [])] 140)).heap.size = w1.heap.size + 1 := by simp
 rw [e1] at hrg hnx
 clear e1 HK
 go_wp2
 refine wp_loop_rounds 1 ?_
 rw [rounds_succ]
 go_wp2
 go_ret
 exact ⟨rfl,g3⟩
theorem putCode_new (fs : Fs) (p b : List UInt8) (hn : pathB p = true) (hb : b.length ≤ 2000) (ht : Tf.hasP fs p = false) : Tf.putCode pathB fs p b = newCode fs p := by
 unfold Tf.putCode newCode
 rw [if_neg (by simp [hn]),if_neg (by omega),if_neg (by simp [ht])]
theorem mayPut_calls {B : Nat} {w : World} {tb : Nat} {fs : Fs} {o : Option Nat} {es : Nat → Value} (h : TreeAt B w tb fs o) (hE : TErr w es) (hlen : ∀ f ∈ fs,f.1.length ≤ 1000000) (hfew : fs.length ≤ 1000) (p b : List UInt8) (hp : p.length ≤ 1000000) :
  Calls Tryz.prog 78 #[Ptr tb,.string (ba p),.string (ba b)] w fun e w' => e = .returned (es (Tf.putCode pathB fs p b)) ∧ Below w.heap.size w w' := by
 cases hn : pathB p with
 | false =>
  rw [show Tf.putCode pathB fs p b = 4 by simp [Tf.putCode,hn]]
  exact mayPut_name h hE p b hp hn
 | true =>
  rcases Nat.lt_or_ge 2000 b.length with hb | hb
  ·rw [show Tf.putCode pathB fs p b = 2 by simp [Tf.putCode,hn,hb]]
   exact mayPut_bound h hE p b hp hn hb
  ·cases ht : Tf.hasP fs p with
   | true =>
    rw [show Tf.putCode pathB fs p b = 0 by unfold Tf.putCode;rw [if_neg (by simp [hn]),if_neg (by omega),if_pos ht],hE.nil]
    exact mayPut_there h p b hp hn hb ht
   | false =>
    cases o with
    | none =>
     obtain rfl : fs = [] := h.isMap
     rw [show Tf.putCode pathB [] p b = 0 by rw [putCode_new _ _ _ hn hb ht];simp [newCode,Tf.clash],hE.nil]
     exact mayPut_empty h p b hp hn hb
    | some bm =>
     rw [putCode_new _ _ _ hn hb ht]
     exact mayPut_new h hE hlen hfew p b hp hn hb ht
theorem ba_extract (t : List UInt8) (a b : Nat) : (ba t).extract a b = ba ((t.drop a).take (b - a)) := ba_eq (by rw [← Lib.toList_data,Lib.extract_toList])
theorem pair_new (w : World) (x y : Value) (t : TypeId) : (w.alloc (.cells #[x,y] t)).heap[w.heap.size]? = some (.cells #[x,y] t (0,0)) := (MapKept.heap_alloc w _).1
def entCells (es : Fs) : List Value := es.flatMap fun e => [.string (ba e.1),.string (ba e.2)]
theorem entCells_len (es : Fs) : (entCells es).length = es.length * 2 := by
 induction es with
 | nil => rfl
 | cons e r ih => simp [entCells] at ih ⊢;omega
theorem entCells_at : ∀ (es : Fs) (j : Nat) (hj : j < es.length),(entCells es)[j * 2]? = some (.string (ba es[j].1)) ∧ (entCells es)[j * 2 + 1]? = some (.string (ba es[j].2))
 | e :: r,0,_ => by simp [entCells]
 | e :: r,j + 1,hj => by
  have := entCells_at r j (by simpa using hj)
  have e1 : entCells (e :: r) = .string (ba e.1) :: .string (ba e.2) :: entCells r := by simp [entCells]
  rw [e1,show (j + 1) * 2 = j * 2 + 1 + 1 by omega]
  simpa using this
theorem row_low {w : World} {base : Nat} {e : TypeId} {size : Nat} {v : Value} {n : Nat} {xs : List Value} (h : w.ownsRow base e size v n xs) : ∀ k,v.ownBlock = some k → base ≤ k := by
 intro k hk
 rcases h.2 with ⟨rfl,_⟩ | ⟨g,cap,cur,rfl,hb,_⟩
 ·cases hk
 ·cases hk;exact hb
theorem ownsRow_below {w w' : World} {base : Nat} {e : TypeId} {size : Nat} {v : Value} {n : Nat} {xs : List Value} (h : w.ownsRow base e size v n xs) (hb : Below w.heap.size w w') : w'.ownsRow base e size v n xs := by
 obtain ⟨h0,h1⟩ := h
 refine ⟨h0,h1.imp id ?_⟩
 rintro ⟨g,cap,cur,e1,e2,e3,e4⟩
 exact ⟨g,cap,cur,e1,e2,(hb.block g (Array.getElem?_eq_some_iff.1 e3).1).trans e3,e4⟩
theorem two_new (W : World) (x y : Value) (t : TypeId) (j : Nat) (u : Value) (h : [x,y][j]? = some u) : (W.alloc (.cells #[x,y] t)).cell? ((⟨W.heap.size,0,none⟩ : Addr).add j) = some u := by
 have hk := pair_new W x y t
 match j,h with
 | 0,h => cases h;exact cell_of_row hk rfl
 | 1,h => cases h;exact cell_of_row hk rfl
end Go.Proofs.YtflbofdpfgkmcaaGreatDoor
