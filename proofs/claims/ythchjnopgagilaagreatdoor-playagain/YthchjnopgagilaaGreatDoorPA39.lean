import Derived.Test.YthchjnopgagilaaGreatDoorPA38
set_option maxRecDepth 100000
set_option maxHeartbeats 16000000
namespace Go.Proofs.YthchjnopgagilaaGreatDoor
open Go.RowKit Go.Shelf Go.Lib Go.Maps
structure WantW (w : World) (es : Nat → Addr) : Prop where
 g : GraphW w es
 shape : w.cell? ⟨1,0,Option.none⟩ = some (erOf es 3)
 none : w.cell? ⟨2,0,Option.none⟩ = some (erOf es 6)
theorem WantW.below {w w' : World} {es : Nat → Addr} (h : WantW w es) (hb : Below w.heap.size w w') : WantW w' es := ⟨h.g.below hb,cell_below' h.shape hb,cell_below' h.none hb⟩
theorem WantW.ask {w : World} {es : Nat → Addr} (h : WantW w es) : AskE w es := ⟨h.g.s.a,h.none⟩
def OfTells (es : Nat → Addr) (fs : Tf.Fs) (l : List Ru) (out : List UInt8) (w : World) (s : List UInt8) (ev : Value) : Prop :=
 ((Ru.fault l).1 ≠ 0 ∧ s = [] ∧ ErrV w es ev (Ru.fault l)) ∨
 ((Ru.fault l).1 = 0 ∧ (∀ x ∈ l,x.out ≠ out) ∧ s = [] ∧ ev = erOf es 6) ∨
 ((Ru.fault l).1 = 0 ∧ (∃ x ∈ l,x.out = out) ∧ Ru.order l (Bf.need l [out]) = none ∧ s = [] ∧ ev = erOf es 9) ∨
 ((Ru.fault l).1 = 0 ∧ (∃ x ∈ l,x.out = out) ∧ (Ru.order l (Bf.need l [out])).isSome = true ∧ s = (Bf.want Af.actO fs l out).1 ∧ ev = erOf es (Bf.want Af.actO fs l out).2)
theorem containsI_of {W : World} {nb : Nat} {v : Value} {ll : List Nat} (hc : W.cell? ⟨nb,0,none⟩ = some v) (hrow : NIRow W v ll) (hl : ll.length ≤ 1000) (x : Nat) : Calls Tryz.prog 140 #[nv x,.pointer (some ⟨nb,0,none⟩)] W fun e w' => e = .returned (.bool (decide (x ∈ ll))) ∧ Below W.heap.size W w' := by
 have HC := hid1 (slContainsI_calls v ll x hrow (by omega))
 obtain ⟨p,c,rfl,-⟩ := hrow
 go_enter Tryz.func140,Tryz.ntmps140
 go_wp2_with fail
 refine HC.out.mono ?_
 rintro e w1 ⟨rfl,rfl⟩
 clear HC
 go_wp2
 go_ret
 exact ⟨rfl,Below.refl _ _⟩
theorem ofOrder_calls {es : Nat → Addr} {V : World} (hG : GraphW V es) (lv : Value) (l : List Ru) (hrow : RRow V lv l) (hl : l.length ≤ 1000) (hS : ∀ x ∈ l,x.Small) (nb : Nat) (v : Value) (ll : List Nat) (hc : V.cell? ⟨nb,0,none⟩ = some v) (hr : NIRow V v ll) (hll : ll.length ≤ 1000) (hcl : ∀ i k,i ∈ ll → Ru.needs l i k = true → k ∈ ll) :
  Calls Tryz.prog 119 #[lv,.func (.func 140) #[] #[.pointer (some ⟨nb,0,none⟩)]] V fun e w' => ∃ u ev,e = .returned (.tuple #[u,ev]) ∧ Below V.heap.size V w' ∧ SomeTells es l (fun k => decide (k ∈ ll)) w' u ev :=
 grOrderOf_calls hG lv l hrow hl hS 140 #[.pointer (some ⟨nb,0,none⟩)] (enters_of Tryz.func140 (by kernel_rfl) rfl) (fun k => decide (k ∈ ll)) (hid1 fun i k hi hk => by
  simp only [decide_eq_true_eq] at hi ⊢
  exact hcl i k hi hk) (hid1 fun x W' _ gW => containsI_of (cell_below' hc gW) (hr.below gW) hll x)
theorem wOf_calls {es : Nat → Addr} {W : World} (hW : WantW W es) {Bt tb : Nat} {fs : Tf.Fs} {o : Option Nat} (hT : TreeAt Bt W tb fs o) (hby : ∀ x b,Tf.get fs x = some b → b.length ≤ 2000) (lv : Value) (l : List Ru) (hrow : RRow W lv l) (hl : l.length ≤ 1000) (hS : ∀ x ∈ l,x.Small) (out : List UInt8) (hout : out.length ≤ 1000) :
  Calls Tryz.prog 63 #[Ptr tb,lv,.string (ba out)] W fun e w' => ∃ s ev,e = .returned (.tuple #[.string (ba s),ev]) ∧ Below W.heap.size W w' ∧ OfTells es fs l out w' s ev := by
 have HSh := hid1 (ruSheet_calls hW.g.s l (by omega) lv hrow hS)
 have HNd := hid1 fun (V : World) (g : Below W.heap.size W V) (ov : Value) (hov : XRow V ov [out]) => gNeeds_calls (hW.g.s.below g) (cell_below' hW.none g) lv l (hrow.below g) hl hS ov [out] hov (by simp)
 have HOf := hid1 fun (V : World) (g : Below W.heap.size W V) => ofOrder_calls (hW.g.below g) lv l (hrow.below g) hl hS
 have HAk := hid1 fun (V : World) (g : Below W.heap.size W V) (h40 : l.length ≤ 40) (hA : ∀ i j (hi : i < l.length) (hj : j < l.length),l[i].out = l[j].out → i = j) => wAsker_calls (es := es) (hW.ask.below g) ⟨_,_,hT.below g⟩ hby lv (hrow.below g) h40 hS hA
 have hN := hW.none
 obtain ⟨pl,cl,rfl,-⟩ := hrow
 clear hW hT hS hby
 go_enter Tryz.func63,Tryz.ntmps63
 go_wp2_with fail
 refine HSh.out.mono ?_
 rintro e w1 ⟨u1,rfl,g1,hE⟩
 clear HSh
 by_cases hf : (Ru.fault l).1 = 0
 ·obtain ⟨h40,hA⟩ := Ru.fault_ok hf
  have hu1 : u1 = .nilIface := by
   rcases hE with ⟨_,h,_⟩ | ⟨pb,m,_,_,h,_⟩
   ·rw [h,hf];rfl
   ·rw [hf] at h;cases h
  subst hu1
  have HFt := hid1 hf
  have HAp : Hid (∀ i j (hi : i < l.length) (hj : j < l.length),l[i].out = l[j].out → i = j) := hid1 hA
  have gA : Below w1.heap.size w1 (w1.alloc (.cells #[.string (ba out)] 9)) := (Below.refl _ w1).alloc (Nat.le_refl _) _
  have G2 := below_then g1 gA
  have HX : Hid (XRow (w1.alloc (.cells #[.string (ba out)] 9)) (.slice (some ⟨w1.heap.size,0,none⟩) 1 1) [out]) := hid1 ⟨_,1,rfl,by simp,(fun h => by cases h),fun _ => ⟨_,0,rfl,by simp,fun j hj => by
   obtain rfl : j = 0 := by simpa using hj
   exact cell_of_row (j := 0) (row_newW w1 _) rfl⟩⟩
  have HN1 := hid1 (HNd.out _ G2 _ HX.out)
  clear hE hf hA HNd HX
  go_wp2_with fail
  refine HN1.out.mono ?_
  rintro e w2 ⟨u2,ev,rfl,g2,hT1⟩
  have G3 := below_then G2 g2
  clear HN1
  rcases hT1 with ⟨hf,_⟩ | ⟨hf,k,hk,h1,h2,hE,pn,cn,rfl⟩ | ⟨hf,h1,rfl,f,hN0,hrw⟩
  ·exact absurd HFt.out hf
  ·obtain rfl : k = 0 := by simpa using hk
   have HP : Hid ((Ru.fault l).1 = 0 ∧ (∀ x ∈ l,x.out ≠ out)) := hid1 ⟨HFt.out,fun x hx => h1 x hx⟩
   obtain ⟨t,x,rfl⟩ := hE.some (by simp)
   have gB : Below w2.heap.size w2 (w2.alloc (.cells #[.slice pn 0 cn] 68)) := (Below.refl _ w2).alloc (Nat.le_refl _) _
   have G4 := below_then G3 gB
   have n4 := cell_below' hN G4
   clear hf hE h1 h2 HOf HAk
   go_wp2
   go_region
   go_wp2
   go_ret2
   exact ⟨_,_,rfl,below_draws G4 1,.inr (.inl ⟨HP.out.1,HP.out.2,rfl,rfl⟩)⟩
  ·have HR1 := hid1 hrw
   obtain ⟨pn,cn,rfl,-⟩ := hrw
   have gB : Below w2.heap.size w2 (w2.alloc (.cells #[.slice pn ((List.range l.length).filter f).length cn] 68)) := (Below.refl _ w2).alloc (Nat.le_refl _) _
   have G4 := below_then G3 gB
   have hfl : ((List.range l.length).filter f).length ≤ 40 := Nat.le_trans (by simpa using List.length_filter_le f (List.range l.length)) h40
   have hch : ∀ k,k < l.length → (decide (k ∈ (List.range l.length).filter f)) = Bf.need l [out] k := fun k hk => by
    rw [Bf.need_eq hN0 hk]
    simp [hk]
   have HCh := hid1 (Ru.order_congr2 hch)
   have HO := hid1 (HOf.out _ G4 w2.heap.size _ _ (by simp) (HR1.out.below gB) (by omega) fun i k hi hk => by
    simp only [List.mem_filter,List.mem_range] at hi ⊢
    exact ⟨(Ru.needs_lt hk).2,hN0.closed i k hi.2 hk⟩)
   unfold SomeTells at HO
   rw [HCh.out] at HO
   have HEx : Hid (∃ x ∈ l,x.out = out) := hid1 (h1 0 (by simp))
   have HN := hid1 hN0
   clear hf h1 hN0 HOf HCh hch HR1
   go_wp2_with fail
   refine HO.out.mono ?_
   rintro e w3 ⟨u3,ev3,rfl,g3,hT3⟩
   have G5 := below_then G4 g3
   clear HO
   rcases hT3 with ⟨h0,-⟩ | ⟨-,hnone,rfl,pn3,cn3,rfl⟩ | ⟨-,ord,hsome,rfl,hr3⟩
   ·exact absurd HFt.out h0
   ·have HP : Hid (OfTells es fs l out w3 [] (erOf es 9)) := hid1 (.inr (.inr (.inl ⟨HFt.out,HEx.out,hnone,rfl,rfl⟩)))
    clear hnone HAk
    obtain ⟨t9,x9,e9⟩ : ∃ t x,erOf es 9 = .iface t x := ⟨_,_,rfl⟩
    rw [e9] at HP ⊢
    clear e9
    go_wp2
    go_ret2
    exact ⟨_,_,rfl,G5,HP.out⟩
   ·obtain ⟨ht,hall⟩ := Ru.order_some hsome
    obtain ⟨hnd,hlt⟩ := Ru.order_nodup hsome
    have HSome : Hid ((Ru.order l (Bf.need l [out])).isSome = true) := hid1 (by rw [hsome];rfl)
    have HIn : Hid (∀ i,Bf.mkr l out = some i → i ∈ ord) := hid1 fun i hi => by
     obtain ⟨hk,ek⟩ := Bf.mkr_of hi
     refine hall i hk ?_
     rw [Bf.need_eq HN.out hk]
     exact HN.out.start i (by unfold Ru.base;rw [List.getElem?_eq_getElem hk];simp [ek])
    have HA3 := hid1 (HAk.out w3 G5 h40 HAp.out)
    have HAsk : Hid (∀ uv L W',AskB es tb fs l uv w3 → Asks es tb fs l uv w3 L W' → Calls Tryz.prog 211 (#[.string (ba out)] ++ L.caps) W' fun e w' => e = .returned (.tuple #[.string (ba (Bf.want Af.actO fs l out).1),erOf es (Bf.want Af.actO fs l out).2]) ∧ Asks es tb fs l uv w3 L w' ∧ Only (fun j => j = L.dm) W' w') := hid1 fun uv L W' hB hAs => ask_tells hB ht hnd hlt out hout HIn.out W' hAs
    obtain ⟨p3,c3,rfl,-⟩ := hr3
    clear HAk ht hall hnd hlt hsome HIn HN
    go_wp2_with fail
    refine HA3.out.mono ?_
    rintro e w4 ⟨uv,L,hB4,rfl,hA4⟩
    have HT := hid1 (HAsk.out uv L w4 hB4 hA4)
    have G6 := below_then G5 hA4.base
    have hnew := hA4.new
    have eg := wAsk1_enters
    have HEr : Hid (OfTells es fs l out w4 (Bf.want Af.actO fs l out).1 (erOf es (Bf.want Af.actO fs l out).2)) := hid1 (.inr (.inr (.inr ⟨HFt.out,HEx.out,HSome.out,rfl,rfl⟩)))
    have hz5 := G5.size
    clear HA3 HAsk hB4 hA4
    generalize Bf.want Af.actO fs l out = r at *
    go_wp2_with fail
    refine HT.out.mono ?_
    rintro e w5 ⟨rfl,hA5,hO5⟩
    have G7 : Below W.heap.size W w5 := G6.trans (hO5.below (fun j hj => by rw [hj];omega) G6.size)
    clear HT hA5 hO5
    go_wp2
    go_ret2
    refine ⟨_,_,rfl,G7,?_⟩
    rcases HEr.out with h | h | h | h
    ·exact absurd HFt.out h.1
    ·exact .inr (.inl h)
    ·exact .inr (.inr (.inl h))
    ·exact .inr (.inr (.inr h))
 ·have HP : Hid (OfTells es fs l out w1 [] u1) := hid1 (.inl ⟨hf,rfl,hE⟩)
  obtain ⟨t,x,rfl⟩ := hE.some hf
  clear hf hE HOf HAk HNd
  go_wp2
  go_ret2
  exact ⟨_,_,rfl,g1,HP.out⟩
open Tf (Fs)
structure Kept (S : Nat → Prop) (w w' : World) : Prop where
 size : w.heap.size ≤ w'.heap.size
 block : ∀ j,j < w.heap.size → ¬ S j → w'.heap[j]? = w.heap[j]?
theorem Kept.of {S : Nat → Prop} {w w' : World} (h : Below w.heap.size w w') : Kept S w w' := ⟨h.size,fun j hj _ => h.block j hj⟩
theorem Kept.refl (S : Nat → Prop) (w : World) : Kept S w w := ⟨Nat.le_refl _,fun _ _ _ => rfl⟩
theorem Kept.trans {S : Nat → Prop} {a b c : World} (h : Kept S a b) (g : Kept S b c) : Kept S a c :=
 ⟨Nat.le_trans h.size g.size,fun j hj hs => (g.block j (Nat.lt_of_lt_of_le hj h.size) hs).trans (h.block j hj hs)⟩
theorem Kept.alloc {S : Nat → Prop} {a b : World} (h : Kept S a b) (o : Obj) : Kept S a (b.alloc o) := h.trans (.of ((Below.refl _ b).alloc (Nat.le_refl _) o))
theorem Kept.setCell {S : Nat → Prop} {a b : World} (h : Kept S a b) {p : Addr} (hp : S p.block) (v : Value) : Kept S a (b.setCell p v) := by
 refine h.trans ⟨by simp,fun j _ hs => Below.heap_setCell b p v j fun e => hs (e ▸ hp)⟩
theorem Kept.grown {S : Nat → Prop} {a b c : World} {o : Option Nat} (h : Kept S a b) (hg : b.grownBy c o) (ho : ∀ j,o = some j → S j) : Kept S a c :=
 h.trans ⟨hg.size,fun j hj hs => hg.block j hj fun e => hs (ho j e.symm)⟩
theorem Kept.cell {S : Nat → Prop} {w w' : World} (h : Kept S w w') {a : Addr} {u : Value} (hc : w.cell? a = some u) (hs : ¬ S a.block) : w'.cell? a = some u :=
 (World.cell?_of_block (h.block a.block (lt_of_cell hc) hs)).trans hc
def tS (tb : Nat) (o : Option Nat) : Nat → Prop := fun j => j = tb ∨ o = some j
theorem TreeAt.kept {B : Nat} {w w' : World} {tb : Nat} {fs : Fs} {o : Option Nat} {S : Nat → Prop} (h : TreeAt B w tb fs o) (hk : Kept S w w') (h1 : ¬ S tb) (h2 : ∀ j,o = some j → ¬ S j) : TreeAt B w' tb fs o := by
 have hbk := hk.block tb h.lt h1
 refine ⟨h.low,(World.cell?_of_block (a := ⟨tb,0,none⟩) hbk).trans h.cell,(World.frozen?_of_block (a := ⟨tb,0,none⟩) hbk).trans h.free,?_⟩
 cases o with
 | none => exact h.isMap
 | some bm =>
  refine ⟨h.isMap.1,h.isMap.2.1,?_⟩
  have hm := h.isMap.2.2
  have hlt := hm.lt
  obtain ⟨es,clock,e1,F,hs,hD⟩ := hm
  exact ⟨es,clock,(hk.block bm hlt (h2 bm rfl)).trans e1,F,hs,hD⟩
def OldNew (w : World) (o o' : Option Nat) : Prop := o' = o ∨ ∃ j,o' = some j ∧ w.heap.size ≤ j
theorem PutK_some {B : Nat} {w : World} {tb : Nat} {fs : Fs} {bm : Nat} (h : TreeAt B w tb fs (some bm)) (p b : List UInt8) (hp : p.length ≤ 1000000) (hfew : fs.length ≤ 1000)
  (HM : Hid (Calls Tryz.prog 106 #[Ptr tb,.string (ba p),.string (ba b)] w fun e w' => e = .returned .nilIface ∧ Below w.heap.size w w')) :
  Calls Tryz.prog 22 #[Ptr tb,.string (ba p),.string (ba b)] w fun e w' => e = .returned .nilIface ∧ (TreeAt B w' tb (Tf.put fs p b) (some bm)) ∧ Below B w w' ∧ Kept (tS tb (some bm)) w w' := by
 have hlt := h.lt
 go_enter Tryz.func22,Tryz.ntmps22
 go_wp2_with fail
 refine HM.out.mono ?_
 rintro e w1 ⟨rfl,g1⟩
 have h1 := h.below g1
 have hc := h1.cell
 have hm := h1.isMap.2.2
 have hq := eq_someMap bm
 go_wp2_with (first
  | (at_mapUpdate;refine wpList_mapUpdate_in _ rfl _ _ _ 167 rfl 9 171 klaw Tryz.underlying167 fileElem bm fs.length (Tf.datum fs) rfl hm (by unfold maxLen;omega) _ _ _ rfl rfl (kkey p hp) _ [] (fileElem_mk b) ?_;intro w2 hown2 hturn2;go_frame)
  | go_in)
 go_wp2
 go_ret
 rw [Tf.datum_put] at hown2
 have hne : some tb ≠ some bm := fun e => h.isMap.2.1 (Option.some.inj e).symm
 have hbk := hturn2.grown.block tb h1.lt hne
 refine ⟨rfl,⟨h.low,(World.cell?_of_block (a := ⟨tb,0,none⟩) hbk).trans hc,(World.frozen?_of_block (a := ⟨tb,0,none⟩) hbk).trans h1.free,h.isMap.1,h.isMap.2.1,ownsMap_tight hown2⟩,?_⟩
 exact ⟨below_turned (g1.mono (by have := h.low;omega)) (by have := h.low;have := g1.size;omega) h.isMap.1 hturn2,(Kept.of g1).grown hturn2.grown fun j e => .inr (by rw [e])⟩
theorem PutK_none {B : Nat} {w : World} {tb : Nat} {fs : Fs} (h : TreeAt B w tb fs none) (p b : List UInt8) (hp : p.length ≤ 1000000)
  (HM : Hid (Calls Tryz.prog 106 #[Ptr tb,.string (ba p),.string (ba b)] w fun e w' => e = .returned .nilIface ∧ Below w.heap.size w w')) :
  Calls Tryz.prog 22 #[Ptr tb,.string (ba p),.string (ba b)] w fun e w' => e = .returned .nilIface ∧ (∃ bm,w.heap.size ≤ bm ∧ TreeAt B w' tb (Tf.put fs p b) (some bm)) ∧ Below B w w' ∧ Kept (tS tb none) w w' := by
 have hlt := h.lt
 obtain rfl : fs = [] := h.isMap
 have hmm := @run_makeMap Tryz.prog
 go_enter Tryz.func22,Tryz.ntmps22
 go_wp2_with fail
 refine HM.out.mono ?_
 rintro e w1 ⟨rfl,g1⟩
 have h1 := h.below g1
 have hc := h1.cell
 have hf := h1.free
 have hq := eq_noMap
 have htb := h1.lt
 have eS : (w1.setCell ⟨tb,0,none⟩ (.map (some w1.heap.size))).heap.size = w1.heap.size := by simp
 have gA : Below w1.heap.size (w1.setCell ⟨tb,0,none⟩ (.map (some w1.heap.size))) ((w1.setCell ⟨tb,0,none⟩ (.map (some w1.heap.size))).alloc (.map #[] 0)) := (Below.refl _ _).alloc (by simp) _
 have hcS : ((w1.setCell ⟨tb,0,none⟩ (.map (some w1.heap.size))).alloc (.map #[] 0)).cell? ⟨tb,0,none⟩ = some (.map (some w1.heap.size)) :=
  (gA.cell (p := ⟨tb,0,none⟩) htb).trans (World.cell?_setCell_same' _ _ _ (by rw [hc];rfl))
 have hfS : Hid (((w1.setCell ⟨tb,0,none⟩ (.map (some w1.heap.size))).alloc (.map #[] 0)).frozen? ⟨tb,0,none⟩ = false) :=
  (gA.frozen (p := ⟨tb,0,none⟩) htb).trans (by rw [World.frozen?_setCell];exact hf)
 have Hm0 : Hid (((w1.setCell ⟨tb,0,none⟩ (.map (some w1.heap.size))).alloc (.map #[] 0)).ownsMap Tryz.prog 9 fileElem w1.heap.size 0 (Tf.datum [])) := by
  have := World.ownsMap_made (w1.setCell ⟨tb,0,none⟩ (.map (some w1.heap.size))) Tryz.prog 9 fileElem
  rw [eS] at this
  exact this
 have gS : Hid (Below B w ((w1.setCell ⟨tb,0,none⟩ (.map (some w1.heap.size))).alloc (.map #[] 0))) := ((g1.mono (by have := h.low;omega)).setCell (p := ⟨tb,0,none⟩) h.low _).alloc (by rw [eS];have := h.low;have := g1.size;omega) _
 have gK : Hid (Kept (tS tb none) w ((w1.setCell ⟨tb,0,none⟩ (.map (some w1.heap.size))).alloc (.map #[] 0))) := ((Kept.of g1).setCell (p := ⟨tb,0,none⟩) (.inl rfl) _).alloc _
 have hw1 : Hid (w.heap.size ≤ w1.heap.size) := g1.size
 clear eS gA
 go_wp2_with (first
  | (at_mapUpdate;refine wpList_mapUpdate_in _ rfl _ _ _ 167 rfl 9 171 klaw Tryz.underlying167 fileElem w1.heap.size 0 (Tf.datum []) rfl Hm0.out (by unfold maxLen;omega) _ _ _ rfl rfl (kkey p hp) _ [] (fileElem_mk b) ?_;intro w2 hown2 hturn2;go_frame)
  | go_in)
 go_wp2
 go_ret
 rw [Tf.datum_put] at hown2
 have hne : some tb ≠ some w1.heap.size := fun e => by have := Option.some.inj e;omega
 have hbk := hturn2.grown.block tb (by simp;omega) hne
 refine ⟨rfl,⟨w1.heap.size,hw1.out,h.low,(World.cell?_of_block (a := ⟨tb,0,none⟩) hbk).trans hcS,(World.frozen?_of_block (a := ⟨tb,0,none⟩) hbk).trans hfS.out,by have := h.low;omega,by omega,ownsMap_tight hown2⟩,?_⟩
 refine ⟨below_turned gS.out (by have := h.low;simp;omega) (by have := h.low;omega) hturn2,⟨Nat.le_trans gK.out.size hturn2.grown.size,fun j hj hs => ?_⟩⟩
 exact (hturn2.grown.block j (Nat.lt_of_lt_of_le hj gK.out.size) fun e => by have := Option.some.inj e;have := hw1.out;omega).trans (gK.out.block j hj hs)
theorem PutK_calls {B : Nat} {w : World} {tb : Nat} {fs : Fs} {o : Option Nat} {es : Nat → Value} (h : TreeAt B w tb fs o) (hE : TErr w es) (hlen : ∀ f ∈ fs,f.1.length ≤ 1000000) (hfew : fs.length ≤ 1000) (p b : List UInt8) (hp : p.length ≤ 1000000) :
  Calls Tryz.prog 22 #[Ptr tb,.string (ba p),.string (ba b)] w fun e w' => e = .returned (es (Tf.putCode pathB fs p b)) ∧ (∃ o',OldNew w o o' ∧ TreeAt B w' tb (Tf.putF pathB fs p b) o') ∧ Below B w w' ∧ Kept (tS tb o) w w' := by
 have HM := mayPut_calls h hE hlen hfew p b hp
 have hBw : B ≤ w.heap.size := by have := h.low;have := h.lt;omega
 cases hc : Tf.putCode pathB fs p b with
 | zero =>
  rw [hc,hE.nil] at HM
  rw [hE.nil,show Tf.putF pathB fs p b = Tf.put fs p b by simp [Tf.putF,hc]]
  cases o with
  | none => exact (PutK_none h p b hp HM).mono fun e w' ⟨h1,⟨bm,hb,h2⟩,h3⟩ => ⟨h1,⟨_,.inr ⟨bm,rfl,hb⟩,h2⟩,h3⟩
  | some bm => exact (PutK_some h p b hp hfew HM).mono fun e w' ⟨h1,h2,h3⟩ => ⟨h1,⟨_,.inl rfl,h2⟩,h3⟩
 | succ k =>
  obtain ⟨t,u,e⟩ := hE.faces k
  rw [hc,e] at HM
  rw [e,show Tf.putF pathB fs p b = fs by simp [Tf.putF,hc]]
  exact (Put_no h p b t u HM).mono fun e w' ⟨h1,h2⟩ => ⟨h1,⟨_,.inl rfl,h.below h2⟩,h2.mono hBw,.of h2⟩
theorem RemoveK_yes {B : Nat} {w : World} {tb : Nat} {fs : Fs} {bm : Nat} (h : TreeAt B w tb fs (some bm)) (p : List UInt8) (hp : p.length ≤ 1000000) (ht : Tf.hasP fs p = true) :
  Calls Tryz.prog 24 #[Ptr tb,.string (ba p)] w fun e w' => e = .returned .nilIface ∧ TreeAt B w' tb (Tf.del fs p) (some bm) ∧ Below B w w' ∧ Kept (tS tb (some bm)) w w' := by
 have hl := look_tree h p hp
 rw [ht] at hl
 have HA : Hid (Calls Tryz.prog 109 #[Ptr tb] w fun e w' => e = .returned (.map (some bm)) ∧ w' = w) := all_calls tb (some bm) w h.cell
 generalize (Tf.get fs p).getD [] = x at *
 have hc := h.cell
 have g1 : Below w.heap.size w (w.alloc (.cells #[.string (ba x)] 171)) := (Below.refl _ w).alloc (Nat.le_refl _) _
 have h1 := h.below g1
 have hc1 := h1.cell
 have hm := h1.isMap.2.2
 have hBw : B ≤ w.heap.size := by have := h.low;have := h.lt;omega
 clear ht
 go_enter Tryz.func24,Tryz.ntmps24
 go_wp2_with fail
 refine HA.out.mono ?_
 rintro e w' ⟨rfl,rfl⟩
 go_wp2_with (first
  | (at_delete;refine wpList_delete_own _ rfl _ _ 167 9 rfl 171 klaw Tryz.underlying167 fileElem bm fs.length (Tf.datum fs) rfl hm _ _ rfl (kkey p hp) ?_;intro w2 hown2 hturn2;go_frame)
  | go_in)
 go_wp2
 go_ret
 rw [Tf.datum_del] at hown2
 have hne : some tb ≠ some bm := fun e => h.isMap.2.1 (Option.some.inj e).symm
 have hbk := hturn2.grown.block tb h1.lt hne
 refine ⟨rfl,⟨h.low,(World.cell?_of_block (a := ⟨tb,0,none⟩) hbk).trans hc1,(World.frozen?_of_block (a := ⟨tb,0,none⟩) hbk).trans h1.free,h.isMap.1,h.isMap.2.1,ownsMap_tight hown2⟩,?_⟩
 exact ⟨below_turned (g1.mono hBw) (by have := g1.size;omega) h.isMap.1 hturn2,(Kept.of g1).grown hturn2.grown fun j e => .inr (by rw [e])⟩
theorem RemoveK_calls {B : Nat} {w : World} {tb : Nat} {fs : Fs} {o : Option Nat} {es : Nat → Value} (h : TreeAt B w tb fs o) (hE : TErr w es) (p : List UInt8) (hp : p.length ≤ 1000000) :
  Calls Tryz.prog 24 #[Ptr tb,.string (ba p)] w fun e w' => e = .returned (es (if Tf.hasP fs p then 0 else 6)) ∧ (∃ o',OldNew w o o' ∧ TreeAt B w' tb (Tf.del fs p) o') ∧ Below B w w' ∧ Kept (tS tb o) w w' := by
 have hBw : B ≤ w.heap.size := by have := h.low;have := h.lt;omega
 cases ht : Tf.hasP fs p with
 | true =>
  cases o with
  | none =>
   obtain rfl : fs = [] := h.isMap
   simp [Tf.hasP] at ht
  | some bm =>
   simp only [if_true,hE.nil]
   exact (RemoveK_yes h p hp ht).mono fun e w' ⟨h1,h2,h3⟩ => ⟨h1,⟨_,.inl rfl,h2⟩,h3⟩
 | false =>
  simp only [Bool.false_eq_true,if_false]
  rw [Tf.del_none ht]
  exact (Remove_no h hE p hp ht).mono fun e w' ⟨h1,h2⟩ => ⟨h1,⟨_,.inl rfl,h.below h2⟩,h2.mono hBw,.of h2⟩
end Go.Proofs.YthchjnopgagilaaGreatDoor
namespace Go.Proofs.YthchjnopgagilaaGreatDoor
open Go.RowKit Go.Shelf Go.Lib
open Tf (Fs)
def FIRow (w : World) (v : Value) (l : Fs) : Prop :=
 ∃ p cap,v = .slice p l.length cap ∧ (l ≠ [] → ∃ g o,p = some ⟨g,o,none⟩ ∧ g < w.heap.size ∧ ∀ j (hj : j < l.length),w.cell? ⟨g,o + j * 2,none⟩ = some (.string (ba l[j].1)) ∧ w.cell? ⟨g,o + j * 2 + 1,none⟩ = some (.string (ba l[j].2)))
theorem Tf.putF_mem {fs : Fs} {p b : List UInt8} {f : List UInt8 × List UInt8} (h : f ∈ Tf.putF pathB fs p b) : f ∈ fs ∨ f = (p,b) := by
 unfold Tf.putF at h
 split at h
 ·rcases Tf.mem_put.1 h with h1 | h1
  ·exact .inr h1
  ·exact .inl h1.1
 ·exact .inl h
end Go.Proofs.YthchjnopgagilaaGreatDoor
namespace Go.Proofs.YthchjnopgagilaaGreatDoor
open Go.RowKit Go.Shelf Go.Lib Go.Maps
theorem want_err {fs : Tf.Fs} {l : List Ru} {x : List UInt8} (h : (Bf.want Af.actO fs l x).2 ≠ 0) : (Bf.want Af.actO fs l x).1 = [] := by
 unfold Bf.want Bf.wantF at h ⊢
 split
 ·rename_i i hm
  simp only [hm] at h
  unfold Bf.wrule at h ⊢
  split
  ·rename_i h0
   rw [if_pos h0] at h
   unfold Af.actO at h ⊢
   split
   ·rename_i h1
    rw [if_pos h1] at h
    split
    ·rename_i k hk
     simp only [hk] at h
     split
     ·rfl
     ·rename_i h2
      rw [if_neg h2] at h
      exact absurd rfl h
    ·rfl
   ·rfl
  ·rfl
 ·rename_i hm
  simp only [hm] at h
  split
  ·rename_i b hb
   simp only [hb] at h
   exact absurd rfl h
  ·rfl
end Go.Proofs.YthchjnopgagilaaGreatDoor
namespace Go.Proofs.YthchjnopgagilaaGreatDoor
namespace Bf
structure Sheet (fs : Tf.Fs) (l : List Ru) (o : List Nat) : Prop where
 fine : (Ru.fault l).1 = 0
 order : Ru.order l (need l (l.map Ru.out)) = some o
theorem Sheet.topo {fs : Tf.Fs} {l : List Ru} {o : List Nat} (h : Sheet fs l o) : Ru.Topo l o ∧ o.Nodup ∧ (∀ i ∈ o,i < l.length) ∧ ∀ i,i < l.length → i ∈ o := by
 obtain ⟨h1,h2⟩ := Ru.order_some h.order
 obtain ⟨h3,h4⟩ := Ru.order_nodup h.order
 exact ⟨h1,h3,h4,fun i hi => h2 i hi (need_all hi)⟩
theorem Sheet.wanted {fs : Tf.Fs} {l : List Ru} {o : List Nat} (h : Sheet fs l o) : Wanted Af.actO fs l (inO o) (want Af.actO fs l) := want_is h.topo.1 h.topo.2.1 h.topo.2.2.1
theorem Sheet.at {fs : Tf.Fs} {l : List Ru} {o : List Nat} (h : Sheet fs l o) : ∀ k (hk : k < l.length),mkr l l[k].out = some k := fun k hk => by
 obtain ⟨-,hA⟩ := Ru.fault_ok h.fine
 unfold mkr
 rw [List.findIdx?_eq_some_iff_getElem]
 refine ⟨hk,by simp,fun j hj => ?_⟩
 have : l[j].out ≠ l[k].out := fun e => by
  have := hA j k (by omega) hk e
  omega
 simpa using this
theorem Sheet.rule {fs : Tf.Fs} {l : List Ru} {o : List Nat} (h : Sheet fs l o) {i : Nat} (hi : i < l.length) : want Af.actO fs l l[i].out = wrule Af.actO (want Af.actO fs l) (l.getD i ⟨[],[],[],[]⟩) := h.wanted.rule _ i (h.at i hi) (h.topo.2.2.2 i hi)
structure Going (fs : Tf.Fs) (l : List Ru) (o : List Nat) (d : Bd) (c : Ca) : Prop where
 good : Good d
 fit : Fit d
 cfit : CFit c
 hl : d.l = l
 hfs : d.fs = fs
 makes : Makes Af.actO (inO o) (want Af.actO fs l) d
 sound : CSound Af.actO c
theorem Going.wanted {fs : Tf.Fs} {l : List Ru} {o : List Nat} (hs : Sheet fs l o) {d : Bd} {c : Ca} (h : Going fs l o d c) : Wanted Af.actO d.fs d.l (inO o) (want Af.actO fs l) := by rw [h.hfs,h.hl];exact hs.wanted
theorem Going.at {fs : Tf.Fs} {l : List Ru} {o : List Nat} (hs : Sheet fs l o) {d : Bd} {c : Ca} (h : Going fs l o d c) : ∀ k (hk : k < d.l.length),mkr d.l d.l[k].out = some k := by rw [h.hl];exact hs.at
theorem Going.init {fs : Tf.Fs} {l : List Ru} {o : List Nat} (hs : Sheet fs l o) (hf : ∀ f ∈ fs,f.2.length ≤ 2000) {c : Ca} (hc : CFit c) (hd : CSound Af.actO c) : Going fs l o (Bf.init fs l (l.map Ru.out)) c := by
 refine ⟨Good.init fun k => init_all k,init_fit hf,hc,rfl,rfl,Makes.init (fun k hk => ?_) (fun k => ?_),hd⟩
 ·rw [init_all] at hk
  by_cases h : k < l.length
  ·exact hs.topo.2.2.2 k h
  ·rw [if_neg h] at hk;cases hk
 ·rw [init_all]
  by_cases h : k < l.length
  ·rw [if_pos h];exact .inl rfl
  ·rw [if_neg h];exact .inr rfl
theorem allF_good (act : Act) : ∀ (n : Nat) (c : Ca) (d : Bd),Good d → Good (allF act n c d).1
 | 0,_,_,h => h
 | n + 1,c,d,h => by
  unfold allF
  cases hr : d.ready with
  | nil => exact h
  | cons i r =>
   have hm := mem_ready.1 (show i ∈ d.ready by rw [hr];simp)
   exact allF_good act n _ _ (h.go act c hm.2)
theorem allF_end (act : Act) : ∀ (n : Nat) (c : Ca) (d : Bd),d.waits < n → (allF act n c d).1.ready = []
 | 0,_,_,h => by omega
 | n + 1,c,d,h => by
  unfold allF
  cases hr : d.ready with
  | nil => exact hr
  | cons i r =>
   have hm := mem_ready.1 (show i ∈ d.ready by rw [hr];simp)
   have := (go_less act c d i hm.1 hm.2).1
   exact allF_end act n _ _ (by omega)
theorem Going.all {fs : Tf.Fs} {l : List Ru} {o : List Nat} (hs : Sheet fs l o) {d : Bd} {c : Ca} (h : Going fs l o d c) : Going fs l o (Bf.all Af.actO c d).1 (Bf.all Af.actO c d).2 ∧ (Bf.all Af.actO c d).1.waits = 0 := by
 have hm := all_makes (h.wanted hs) (h.at hs) h.sound h.makes
 have hk := allF_keeps actFit (d.waits + 1) c d h.fit h.cfit
 have hg := allF_good Af.actO (d.waits + 1) c d h.good
 refine ⟨⟨hg,hk.2.2.1,hk.2.2.2,hm.2.2.1.trans h.hl,hm.2.2.2.trans h.hfs,hm.1,hm.2.1⟩,?_⟩
 have he := allF_end Af.actO (d.waits + 1) c d (by omega)
 have hl : (Bf.all Af.actO c d).1.l = l := hm.2.2.1.trans h.hl
 refine many_none fun k hk => ?_
 rw [Bool.eq_false_iff]
 intro hw
 refine Good.ready hg (rank := fun i => o.idxOf i) (fun i k hn => ?_) hk hw he
 rw [show (allF Af.actO (d.waits + 1) c d).1.l = l from hl] at hn
 exact rank_order hs.order i k hn
theorem Going.result {fs : Tf.Fs} {l : List Ru} {o : List Nat} (hs : Sheet fs l o) {d : Bd} {c : Ca} (h : Going fs l o d c) (hw : d.waits = 0) {i : Nat} (hi : i < l.length) : (d.st i).out = (want Af.actO fs l l[i].out).1 ∧ (d.st i).isDone = decide ((want Af.actO fs l l[i].out).2 = 0) := by
 have he := (h.good.ends hw (k := i) (by rw [h.hl];exact hi)).1
 have hr := hs.rule hi
 have hrule : d.rule i = l.getD i ⟨[],[],[],[]⟩ := by unfold Bd.rule;rw [h.hl]
 cases hst : d.st i with
 | no => rw [hst] at he;simp [St.isDone,St.isFailed,St.isLeft] at he
 | waits => rw [hst] at he;simp [St.isDone,St.isFailed,St.isLeft] at he
 | done s b =>
  have := h.makes.done i s b hst
  rw [hrule,← hr] at this
  rw [this]
  exact ⟨rfl,rfl⟩
 | failed e =>
  have := h.makes.bad i (by rw [hst];rfl)
  rw [hrule,← hr] at this
  refine ⟨(want_err this).symm,?_⟩
  rw [decide_eq_false this];rfl
 | left =>
  have := h.makes.bad i (by rw [hst];rfl)
  rw [hrule,← hr] at this
  refine ⟨(want_err this).symm,?_⟩
  rw [decide_eq_false this];rfl
theorem go_room (act : Act) (m : Nat) (es : Cf.Ens) (d : Bd) (i : Nat) : ∃ es',(go act (some (m,es)) d i).c = some (m,es') := by
 unfold go
 split
 ·exact ⟨_,rfl⟩
 ·split
  ·exact ⟨_,rfl⟩
  ·split
   ·exact ⟨_,rfl⟩
   ·exact ⟨_,rfl⟩
theorem allF_room (act : Act) : ∀ (n m : Nat) (es : Cf.Ens) (d : Bd),∃ es',(allF act n (some (m,es)) d).2 = some (m,es')
 | 0,m,es,d => ⟨es,rfl⟩
 | n + 1,m,es,d => by
  unfold allF
  cases hr : d.ready with
  | nil => exact ⟨es,rfl⟩
  | cons i r =>
   obtain ⟨es',e⟩ := go_room act m es d i
   simp only
   rw [e]
   exact allF_room act n m es' _
end Bf
end Go.Proofs.YthchjnopgagilaaGreatDoor
namespace Go.Proofs.YthchjnopgagilaaGreatDoor
namespace Bf
end Bf
namespace Tf
theorem rises_ext : ∀ {a b : Fs},Rises a → Rises b → (∀ p,get a p = get b p) → a = b
 | [],[],_,_,_ => rfl
 | [],y :: b,_,_,h => by
  have := h y.1
  simp [get] at this
 | x :: a,[],_,_,h => by
  have := h x.1
  simp [get] at this
 | x :: a,y :: b,ha,hb,h => by
  have ha' := List.pairwise_cons.1 ha
  have hb' := List.pairwise_cons.1 hb
  have hne : ∀ {u v : List UInt8},bytesBefore u v = true → u ≠ v := fun hu e => by
   rw [e,WideAt.bytes_irrefl] at hu;cases hu
  have hx : ∀ (z : List UInt8 × List UInt8) (t : Fs),(∀ w ∈ t,bytesBefore z.1 w.1 = true) → get (z :: t) z.1 = some z.2 ∧ ∀ p,p ≠ z.1 → get (z :: t) p = get t p := fun z t _ => by
   refine ⟨by simp [get],fun p hp => ?_⟩
   unfold get
   rw [List.find?_cons_of_neg (by simpa using fun e : z.1 = p => hp e.symm)]
  have hlow : ∀ (t : Fs) (q : List UInt8),(∀ w ∈ t,bytesBefore q w.1 = true) → get t q = none := fun t q hq => by
   unfold get
   rw [List.find?_eq_none.2 fun w hw => by
    have := hne (hq w hw)
    simpa using fun e : w.1 = q => this e.symm]
   rfl
  have hxy : x.1 = y.1 := by
   refine Classical.byContradiction fun hn => ?_
   rcases WideAt.bytes_total x.1 y.1 hn with h1 | h1
   ·have e1 := h x.1
    rw [(hx x a ha'.1).1,(hx y b hb'.1).2 _ (hne h1),hlow b x.1 fun w hw => WideShapes.bytes_trans _ _ _ h1 (hb'.1 w hw)] at e1
    cases e1
   ·have e1 := h y.1
    rw [(hx y b hb'.1).1,(hx x a ha'.1).2 _ (hne h1),hlow a y.1 fun w hw => WideShapes.bytes_trans _ _ _ h1 (ha'.1 w hw)] at e1
    cases e1
  have e2 := h x.1
  rw [(hx x a ha'.1).1,hxy,(hx y b hb'.1).1] at e2
  have exy : x = y := Prod.ext hxy (by simpa using e2)
  subst exy
  have := rises_ext ha'.2 hb'.2 fun p => by
   by_cases hp : p = x.1
   ·subst hp
    rw [hlow a x.1 ha'.1,hlow b x.1 hb'.1]
   ·have := h p
    rwa [(hx x a ha'.1).2 p hp,(hx x b hb'.1).2 p hp] at this
  rw [this]
end Tf
end Go.Proofs.YthchjnopgagilaaGreatDoor
