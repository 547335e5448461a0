import Derived.Test.YthchjnopgagilaaGreatDoorPA13
import Derived.Test.YthchjnopgagilaaGreatDoorPA15
set_option maxRecDepth 100000
set_option maxHeartbeats 8000000
namespace Go.Proofs.YthchjnopgagilaaGreatDoor
open Go.RowKit Go.Shelf Go.Lib
theorem YC.row_new (W : World) (o : Obj) : (W.alloc o).heap[W.heap.size]? = some o := by
 show (W.heap.push _)[W.heap.size]? = _
 simp
def XIn (P : Nat → Prop) (w : World) (v : Value) (l : List (List UInt8)) : Prop := XRow w v l ∧ ∀ a n cap,v = .slice (some a) n cap → l ≠ [] → P a.block
theorem XIn.same {P : Nat → Prop} {w V : World} {v : Value} {l : List (List UInt8)} (h : XIn P w v l) (hz : w.heap.size ≤ V.heap.size) (hb : ∀ j,P j → j < w.heap.size → V.heap[j]? = w.heap[j]?) : XIn P V v l := by
 obtain ⟨⟨p,cap,rfl,h0,hn,h1⟩,h2⟩ := h
 refine ⟨⟨p,cap,rfl,h0,hn,fun hl => ?_⟩,h2⟩
 obtain ⟨g,o,rfl,hg,hc⟩ := h1 hl
 have hP := h2 _ _ _ rfl hl
 exact ⟨g,o,rfl,Nat.lt_of_lt_of_le hg hz,fun j hj => (World.cell?_of_block (a := ⟨g,o + j,none⟩) (hb g hP hg)).trans (hc j hj)⟩
theorem XIn.imp {P Q : Nat → Prop} {w : World} {v : Value} {l : List (List UInt8)} (h : XIn P w v l) (hPQ : ∀ j,P j → Q j) : XIn Q w v l := ⟨h.1,fun a n cap e hl => hPQ _ (h.2 a n cap e hl)⟩
def RuIn (P : Nat → Prop) (w : World) (g o : Nat) (r : Ru) : Prop :=
 w.cell? ⟨g,o,none⟩ = some (.string (ba r.out)) ∧ w.cell? ⟨g,o + 1,none⟩ = some (.string (ba r.kind)) ∧ w.cell? ⟨g,o + 2,none⟩ = some (.string (ba r.word)) ∧ ∃ v,w.cell? ⟨g,o + 3,none⟩ = some v ∧ XIn P w v r.ins
theorem RuIn.same {P : Nat → Prop} {w V : World} {g o : Nat} {r : Ru} (h : RuIn P w g o r) (hg : V.heap[g]? = w.heap[g]?) (hz : w.heap.size ≤ V.heap.size) (hb : ∀ j,P j → j < w.heap.size → V.heap[j]? = w.heap[j]?) : RuIn P V g o r := by
 obtain ⟨h0,h1,h2,v,h3,h4⟩ := h
 exact ⟨(World.cell?_of_block (a := ⟨g,o,none⟩) hg).trans h0,(World.cell?_of_block (a := ⟨g,o + 1,none⟩) hg).trans h1,(World.cell?_of_block (a := ⟨g,o + 2,none⟩) hg).trans h2,v,(World.cell?_of_block (a := ⟨g,o + 3,none⟩) hg).trans h3,h4.same hz hb⟩
theorem RuIn.imp {P Q : Nat → Prop} {w : World} {g o : Nat} {r : Ru} (h : RuIn P w g o r) (hPQ : ∀ j,P j → Q j) : RuIn Q w g o r := by
 obtain ⟨h0,h1,h2,v,h3,h4⟩ := h
 exact ⟨h0,h1,h2,v,h3,h4.imp hPQ⟩
theorem RuIn.at {P : Nat → Prop} {w : World} {g o : Nat} {r : Ru} (h : RuIn P w g o r) : RuAt w g o r := by
 obtain ⟨h0,h1,h2,v,h3,h4⟩ := h
 exact ⟨h0,h1,h2,v,h3,h4.1⟩
def RNew (n : Nat) (w : World) (v : Value) (l : List Ru) : Prop := ∀ V : World,w.heap.size ≤ V.heap.size → (∀ j,n ≤ j → j < w.heap.size → V.heap[j]? = w.heap[j]?) → RRow V v l
theorem cloneS_calls {w : World} (v : Value) (l : List (List UInt8)) (hrow : XRow w v l) (hl : l.length ≤ 1000) :
  Calls Tryz.prog 218 #[v] w fun e w' => ∃ v',e = .returned v' ∧ XIn (fun j => w.heap.size ≤ j) w' v' l ∧ Below w.heap.size w w' := by
 have key : ∀ {w' : World} {v' : Value},w'.ownsRow w.heap.size 9 1 v' l.length (l.map sv) → XIn (fun j => w.heap.size ≤ j) w' v' l := fun {w' v'} h => by
  refine ⟨XRow.of_owns h,fun a n cap e _ => ?_⟩
  subst e
  exact row_low4 h _ (by simp [Value.ownBlock])
 obtain ⟨p,cap,rfl,hcap,hn,h1⟩ := hrow
 cases p with
 | none =>
  have hc := hn rfl
  subst hc
  obtain rfl : l = [] := List.length_eq_zero_iff.1 (by omega)
  refine (Tryz.slices_Clone_string_nil 0 0 w).mono ?_
  rintro e w' ⟨rfl,rfl⟩
  exact ⟨_,rfl,⟨XRow.nil _,fun a n cap e => by cases e⟩,Below.refl _ _⟩
 | some a =>
  by_cases he : l = []
  ·subst he
   refine (Tryz.slices_Clone_string_zero a cap w).mono ?_
   rintro e w' ⟨v',rfl,ho,_,hb⟩
   exact ⟨v',rfl,key ho,hb⟩
  ·obtain ⟨g,o,e,hg,hc⟩ := h1 he
   obtain rfl : a = ⟨g,o,none⟩ := Option.some.inj e
   refine (Tryz.slices_Clone_string g o l.length cap (l.map ba) w (by simp) (by omega) (fun j hj => by
    have hj' : j < l.length := by simpa using hj
    rw [hc j hj']
    simp [hj'])).mono ?_
   rintro e w' ⟨v',rfl,ho,_,hb⟩
   rw [List.take_of_length_le (by simp),List.map_map] at ho
   exact ⟨v',rfl,key ho,hb⟩
theorem ruAt_cells {w : World} {g o : Nat} : ∀ {l : List Ru},(∀ j (hj : j < l.length),RuAt w g (o + j * 4) l[j]) → ∃ dn : List (Ru × Value),dn.map Prod.fst = l ∧ (∀ j (hj : j < dn.length),w.cell? ⟨g,o + j * 4,none⟩ = some (.string (ba dn[j].1.out)) ∧ w.cell? ⟨g,o + j * 4 + 1,none⟩ = some (.string (ba dn[j].1.kind)) ∧ w.cell? ⟨g,o + j * 4 + 2,none⟩ = some (.string (ba dn[j].1.word)) ∧ w.cell? ⟨g,o + j * 4 + 3,none⟩ = some dn[j].2 ∧ XRow w dn[j].2 dn[j].1.ins) := by
 intro l h
 have h' : ∀ j (hj : j < l.length),∃ v,w.cell? ⟨g,o + j * 4 + 3,none⟩ = some v ∧ XRow w v l[j].ins := fun j hj => (h j hj).2.2.2
 refine ⟨(List.range l.length).attach.map fun x => (l[x.1]'(List.mem_range.1 x.2),(h' x.1 (List.mem_range.1 x.2)).choose),?_,fun j hj => ?_⟩
 ·apply List.ext_getElem
  ·simp
  ·intro n h1 h2
   simp
 ·have hj' : j < l.length := by simpa using hj
  obtain ⟨a0,a1,a2,-⟩ := h j hj'
  have := (h' j hj').choose_spec
  simp only [List.getElem_map,List.getElem_attach,List.getElem_range]
  exact ⟨a0,a1,a2,this.1,this.2⟩
theorem ruCells_len (l : List (Ru × Value)) : (ruCells l).length = l.length * 4 := by
 induction l with
 | nil => rfl
 | cons x r ih =>
  have e : ruCells (x :: r) = .string (ba x.1.out) :: .string (ba x.1.kind) :: .string (ba x.1.word) :: x.2 :: ruCells r := by simp [ruCells]
  rw [e]
  simp only [List.length_cons,ih]
  omega
theorem ruCells_get {l : List (Ru × Value)} {w : World} {g o : Nat} (h : ∀ j (hj : j < l.length),w.cell? ⟨g,o + j * 4,none⟩ = some (.string (ba l[j].1.out)) ∧ w.cell? ⟨g,o + j * 4 + 1,none⟩ = some (.string (ba l[j].1.kind)) ∧ w.cell? ⟨g,o + j * 4 + 2,none⟩ = some (.string (ba l[j].1.word)) ∧ w.cell? ⟨g,o + j * 4 + 3,none⟩ = some l[j].2) (i : Nat) (u : Value) (hu : (ruCells l)[i]? = some u) : w.cell? ⟨g,o + i,none⟩ = some u := by
 have hi : i < l.length * 4 := by
  have := (List.getElem?_eq_some_iff.1 hu).1
  rwa [ruCells_len] at this
 have hj : i / 4 < l.length := by omega
 obtain ⟨a0,a1,a2,a3⟩ := ruCells_at l (i / 4) hj
 obtain ⟨b0,b1,b2,b3⟩ := h (i / 4) hj
 have hc : i = i / 4 * 4 ∨ i = i / 4 * 4 + 1 ∨ i = i / 4 * 4 + 2 ∨ i = i / 4 * 4 + 3 := by omega
 generalize i / 4 = q at *
 rcases hc with rfl | rfl | rfl | rfl
 ·rw [a0] at hu;rw [b0,Option.some.inj hu]
 ·rw [a1] at hu;rw [show o + (q * 4 + 1) = o + q * 4 + 1 by omega,b1,Option.some.inj hu]
 ·rw [a2] at hu;rw [show o + (q * 4 + 2) = o + q * 4 + 2 by omega,b2,Option.some.inj hu]
 ·rw [a3] at hu;rw [show o + (q * 4 + 3) = o + q * 4 + 3 by omega,b3,Option.some.inj hu]
theorem ruCells_one {l : List (Ru × Value)} {w : World} (h : ∀ x ∈ l,XRow w x.2 x.1.ins) : ∀ u ∈ ruCells l,u.oneCell' = true := by
 intro u hu
 obtain ⟨x,hx,hm⟩ := List.mem_flatMap.1 hu
 obtain ⟨p,cap,e,-⟩ := h x hx
 simp only [List.mem_cons,List.not_mem_nil,or_false] at hm
 rcases hm with rfl | rfl | rfl | rfl
 ·rfl
 ·rfl
 ·rfl
 ·rw [e];rfl
theorem cloneR_calls {w : World} (v : Value) (l : List Ru) (hrow : RRow w v l) (hl : l.length ≤ 1000) :
  Calls Tryz.prog 217 #[v] w fun e w' => ∃ v',e = .returned v' ∧ Below w.heap.size w w' ∧ ((l = [] ∧ ∃ p c,v' = .slice p 0 c ∧ (p = none → c = 0)) ∨ ∃ g cap,l ≠ [] ∧ v' = .slice (some ⟨g,0,none⟩) l.length cap ∧ w.heap.size ≤ g ∧ g < w'.heap.size ∧ l.length ≤ cap ∧ (∀ i,w'.frozen? ⟨g,i,none⟩ = false) ∧ ∀ j (hj : j < l.length),RuIn (fun b => b < w.heap.size) w' g (j * 4) l[j]) := by
 obtain ⟨i0,hi,hz0,hz1,hz2⟩ := info_parts Tryz.infoRule
 have q22 : ∀ (w : World) (a : Option Addr) (n c n' c' : Nat),(binOp .eql 66 (.slice a n c) (.slice none n' c')).run Tryz.prog w = .ok (.bool a.isNone) w := fun w a n c n' c' => Lib.run_eql_slice_nil w _ _ a n c n' c' Tryz.underlying66
 obtain ⟨p,cap,rfl,hcap,hn,hin⟩ := hrow
 cases p with
 | none =>
  have hc := hn rfl
  subst hc
  obtain rfl : l = [] := List.length_eq_zero_iff.1 (by omega)
  clear hin hn
  go_enter Tryz.func217,Tryz.ntmps217
  go_wp2
  go_ret
  exact ⟨_,rfl,Below.refl _ _,.inl ⟨by trivial,none,0,rfl,fun _ => rfl⟩⟩
 | some a =>
  have key : ∃ dn : List (Ru × Value),dn.map Prod.fst = l ∧ (∀ x ∈ dn,XRow w x.2 x.1.ins) ∧ ∀ j u,(ruCells dn)[j]? = some u → w.cell? (a.add j) = some u := by
   by_cases he : l = []
   ·exact ⟨[],by rw [he];rfl,fun x hx => by simp at hx,fun j u h => by simp [ruCells] at h⟩
   ·obtain ⟨g,o,e,hg,hc⟩ := hin he
    obtain rfl : a = ⟨g,o,none⟩ := Option.some.inj e
    obtain ⟨dn,e1,h2⟩ := ruAt_cells hc
    refine ⟨dn,e1,fun x hx => ?_,fun j u hu => ?_⟩
    ·obtain ⟨k,hk,rfl⟩ := List.getElem_of_mem hx
     exact (h2 k hk).2.2.2.2
    ·rw [add_at2]
     exact ruCells_get (fun j hj => ⟨(h2 j hj).1,(h2 j hj).2.1,(h2 j hj).2.2.1,(h2 j hj).2.2.2.1⟩) j u hu
  obtain ⟨dn,e1,hx,hc⟩ := key
  have hlen : dn.length = l.length := by rw [← e1];simp
  have HC : Hid (∀ j u,(ruCells dn)[j]? = some u → w.cell? (a.add j) = some u) := hid1 hc
  have HX := hid1 hx
  have h1 := ruCells_one hx
  have hrl := ruCells_len dn
  rw [hlen] at hrl
  clear hc hx hin hn
  go_enter Tryz.func217,Tryz.ntmps217
  go_wp2_with (at_builtin;refine wpList_append_own _ rfl _ _ 66 rfl w.heap.size 96 i0 (.agg #[.string ⟨#[]⟩,.string ⟨#[]⟩,.string ⟨#[]⟩,.slice none 0 0]) 4 72 Tryz.underlying66 hi hz0 hz1 hz2 rfl (by decide) _ _ _ rfl (World.ownsRow_made w #[] 0 (Nat.le_refl _) (Nat.zero_le _) (by simp)) a l.length cap (ruCells dn) rfl hrl (fun j u hj => Lib.cell?_alloc_some _ (HC.out j u hj)) h1 (by unfold maxLen;omega) (by omega) (by simp) ?_;intro v' w1 hown hgrow hnil)
  go_wp2
  go_ret
  have hgrow' : (w.alloc (.cells #[] 96)).grownBy w1 (some w.heap.size) := hgrow
  have hB : Below w.heap.size w w1 := ((Below.refl _ w).alloc (Nat.le_refl _) _).grown hgrow' (by simp) (by intro k hk;cases hk;exact Nat.le_refl _)
  refine ⟨v',rfl,hB,?_⟩
  have hown' : w1.ownsRow w.heap.size 96 4 v' l.length (ruCells dn) := by simpa using hown
  rcases hown'.2 with ⟨rfl,_⟩ | ⟨g,cap',cur,rfl,hbg,hgc,hc1,-,-,-⟩
  ·have hn := (hnil.1 rfl).1
   cases hn
  ·by_cases he : l = []
   ·exact .inl ⟨he,some ⟨g,0,none⟩,cap',by rw [he];rfl,fun h => by cases h⟩
   ·refine .inr ⟨g,cap',he,rfl,hbg,(Array.getElem?_eq_some_iff.1 hgc).1,hc1,fun i => World.ownsRow.frozenAt hown' i,fun j hj => ?_⟩
    have hj' : j < dn.length := by omega
    obtain ⟨a0,a1,a2,a3⟩ := ruCells_at dn j hj'
    have ej : dn[j].1 = l[j] := by subst e1;simp
    have hat : ∀ i u,(ruCells dn)[i]? = some u → w1.cell? ⟨g,i,none⟩ = some u := fun i u hu => by
     rw [World.ownsRow.cellAt hown' i (by have := (List.getElem?_eq_some_iff.1 hu).1;omega)]
     exact hu
    have hxr := HX.out dn[j] (List.getElem_mem hj')
    rw [ej] at a0 a1 a2 hxr
    refine ⟨hat _ _ a0,hat _ _ a1,hat _ _ a2,_,hat _ _ a3,hxr.below hB,fun b n c eb hne => ?_⟩
    obtain ⟨p3,c3,e3,-,-,h3⟩ := hxr
    obtain ⟨g3,o3,e4,hg3,-⟩ := h3 hne
    rw [e3,e4] at eb
    cases eb
    exact hg3
theorem ycopy_calls {w : World} (v : Value) (l : List Ru) (hrow : RRow w v l) (hl : l.length ≤ 1000) (h12 : ∀ x ∈ l,x.ins.length ≤ 1000) :
  Calls Tryz.prog 154 #[v] w fun e w' => ∃ v',e = .returned v' ∧ Below w.heap.size w w' ∧ RNew w.heap.size w' v' l := by
 have HC := hid1 (cloneR_calls v l hrow hl)
 have H12 := hid1 h12
 have zl : (l.length : Int) ≤ 1000 := by omega
 obtain ⟨pv,cv,rfl,-⟩ := hrow
 clear h12
 go_enter Tryz.func154,Tryz.ntmps154
 go_wp2_with fail
 refine HC.out.mono ?_
 rintro e w1 ⟨v',rfl,g1,hcase⟩
 clear HC
 rcases hcase with ⟨rfl,p,c,rfl,hpc⟩ | ⟨g,cap,hne,rfl,hg,hg1,hcap,hfz,hru⟩
 ·have HP := hid1 hpc
  clear hpc H12
  go_wp2
  go_loopw [10] (fun iv wr => iv = .int .i64 0 ∧ wr = w1) (fun _ _ => 0)
  case atStart => exact ⟨rfl,rfl⟩
  case round =>
   obtain ⟨rfl,rfl⟩ := hrel
   go_wp2
   go_ret
   exact ⟨_,rfl,g1,fun V _ _ => ⟨p,c,rfl,Nat.zero_le _,HP.out,fun h => absurd rfl h⟩⟩
 ·have HRu : Hid (∀ j (hj : j < l.length),RuIn (fun b => b ≠ g ∧ (j < 0 → g < b)) w1 g (j * 4) l[j]) := hid1 fun j hj => (hru j hj).imp fun b hb => ⟨by omega,fun h => by omega⟩
  have HFz := hid1 hfz
  clear hru hfz
  go_wp2
  go_loopw [10] (fun iv wr => ∃ k : Nat,k ≤ l.length ∧ iv = .int .i64 k ∧ Below w.heap.size w wr ∧ w1.heap.size ≤ wr.heap.size ∧ (∀ i,wr.frozen? ⟨g,i,none⟩ = false) ∧ ∀ j (hj : j < l.length),RuIn (fun b => b ≠ g ∧ (j < k → g < b)) wr g (j * 4) l[j]) (fun iv _ => l.length - (intOf iv).toNat)
  case atStart => exact ⟨0,Nat.zero_le _,rfl,g1,Nat.le_refl _,HFz.out,HRu.out⟩
  case round =>
   obtain ⟨k,hk,rfl,B,hz1,hfz,hru⟩ := hrel
   have HF := hid1 hfz
   have HR : Hid (∀ j (hj : j < l.length),RuIn (fun b => b ≠ g ∧ (j < k → g < b)) wr g (j * 4) l[j]) := hid1 hru
   clear HRu HFz hfz hru
   have k0 : (0 : Int) ≤ (k : Int) := by omega
   have hcapi : (l.length : Int) ≤ (cap : Int) := by omega
   by_cases hlt : k < l.length
   ·have k1 : (k : Int) < (l.length : Int) := by omega
    obtain ⟨d0,d1,d2,v3,d3,hx3⟩ := HR.out k hlt
    have hxr := hx3.1
    have hml := H12.out _ (List.getElem_mem hlt)
    obtain ⟨p3,cap3,rfl,-⟩ := hx3.1
    have hst : ∀ (a : Addr) (m : Mode) (W : World),Sem.run Tryz.prog (store a (.slice p3 l[k].ins.length cap3) m) W = stored Tryz.prog W a (.slice p3 l[k].ins.length cap3) m := fun a m W => run_store _ W a _ m rfl
    have gA : Below wr.heap.size wr (wr.alloc (.cells #[.string (ba l[k].out),.string (ba l[k].kind),.string (ba l[k].word),.slice p3 l[k].ins.length cap3] 96)) := (Below.refl _ wr).alloc (Nat.le_refl _) _
    have cA3 := cell_of_row (j := 3) (YC.row_new wr (.cells #[.string (ba l[k].out),.string (ba l[k].kind),.string (ba l[k].word),.slice p3 l[k].ins.length cap3] 96)) rfl
    have HS := hid1 (cloneS_calls (.slice p3 l[k].ins.length cap3) l[k].ins (hxr.below gA) hml)
    have HLk := hid1 (show ∀ r : Ru,r = l[k] → r.out = l[k].out ∧ r.kind = l[k].kind ∧ r.word = l[k].word from fun r e => by rw [e];exact ⟨rfl,rfl,rfl⟩)
    clear hx3 hxr HLk
    have hgw : g < wr.heap.size := by omega
    generalize hwa : wr.alloc (.cells #[.string (ba l[k].out),.string (ba l[k].kind),.string (ba l[k].word),.slice p3 l[k].ins.length cap3] 96) = wa at *
    go_wp2_with fail
    refine HS.out.mono ?_
    rintro e w4 ⟨v4,rfl,hx4,g4⟩
    have gB := below_then gA g4
    have c3 := cell_below' d3 gB
    have f3 : w4.frozen? ⟨g,k * 4 + 3,none⟩ = false := (gB.frozen (p := ⟨g,k * 4 + 3,none⟩) hgw).trans (HF.out _)
    have HX4 := hid1 hx4
    obtain ⟨p4,cap4,rfl,-⟩ := hx4.1
    have hst4 : ∀ (a : Addr) (m : Mode) (W : World),Sem.run Tryz.prog (store a (.slice p4 l[k].ins.length cap4) m) W = stored Tryz.prog W a (.slice p4 l[k].ins.length cap4) m := fun a m W => run_store _ W a _ m rfl
    have HAW := hid1 gA.size
    have HGB := hid1 gB
    clear hx4 HS d0 d1 d2 d3 hst gA g4 cA3
    go_wp2
    have eS : (w4.setCell ⟨g,k * 4 + 3,none⟩ (.slice p4 l[k].ins.length cap4)).heap.size = w4.heap.size := by simp
    have hbo : ∀ j,j ≠ g → (w4.setCell ⟨g,k * 4 + 3,none⟩ (.slice p4 l[k].ins.length cap4)).heap[j]? = w4.heap[j]? := fun j hj => Below.heap_setCell _ _ _ _ hj
    refine ⟨⟨k + 1,by omega,by go_num,?_,by rw [eS];have := HGB.out.size;omega,fun i => ?_,fun j hj => ?_⟩,by simp [intOf];omega⟩
    ·exact (below_then B HGB.out).setCell (p := ⟨g,k * 4 + 3,none⟩) hg _
    ·rw [World.frozen?_setCell]
     exact (HGB.out.frozen (p := ⟨g,i,none⟩) hgw).trans (HF.out i)
    ·have hold := HR.out j hj
     by_cases e : j = k
     ·subst e
      obtain ⟨a0,a1,a2,-⟩ := hold
      have oc : ∀ i u,i ≠ j * 4 + 3 → wr.cell? ⟨g,i,none⟩ = some u → (w4.setCell ⟨g,j * 4 + 3,none⟩ (.slice p4 l[j].ins.length cap4)).cell? ⟨g,i,none⟩ = some u := fun i u hi hu => by
       rw [World.cell?_setCell_other _ _ _ _ (fun e => hi (by cases e;rfl))]
       exact cell_below' hu HGB.out
      refine ⟨oc _ _ (by omega) a0,oc _ _ (by omega) a1,oc _ _ (by omega) a2,_,World.cell?_setCell_same _ _ _ c3,?_⟩
      refine (HX4.out.imp (Q := fun b => b ≠ g ∧ (j < j + 1 → g < b)) fun b hb => ?_).same (by rw [eS];exact Nat.le_refl _) fun b hb _ => hbo b hb.1
      have := HAW.out
      exact ⟨by omega,fun _ => by omega⟩
     ·obtain ⟨a0,a1,a2,u,a3,ax⟩ := hold
      have oc : ∀ i u,i ≠ k * 4 + 3 → wr.cell? ⟨g,i,none⟩ = some u → (w4.setCell ⟨g,k * 4 + 3,none⟩ (.slice p4 l[k].ins.length cap4)).cell? ⟨g,i,none⟩ = some u := fun i u hi hu => by
       rw [World.cell?_setCell_other _ _ _ _ (fun e => hi (by cases e;rfl))]
       exact cell_below' hu HGB.out
      refine ⟨oc _ _ (by omega) a0,oc _ _ (by omega) a1,oc _ _ (by omega) a2,_,oc _ _ (by omega) a3,?_⟩
      have h1 : XIn (fun b => b ≠ g ∧ (j < k → g < b)) w4 u l[j].ins := ax.same HGB.out.size fun b _ hb => HGB.out.block b hb
      exact (h1.same (V := w4.setCell ⟨g,k * 4 + 3,none⟩ (.slice p4 l[k].ins.length cap4)) (by rw [eS];exact Nat.le_refl _) fun b hb _ => hbo b hb.1).imp fun b hb => ⟨hb.1,fun h => hb.2 (by omega)⟩
   ·have k1 : (l.length : Int) ≤ (k : Int) := by omega
    obtain rfl : k = l.length := by omega
    have hgw : g < wr.heap.size := by omega
    clear HF
    go_wp2
    go_ret
    refine ⟨_,rfl,B,fun V hz hV => ⟨some ⟨g,0,none⟩,cap,rfl,hcap,fun h => (by cases h),fun _ => ⟨g,0,rfl,by omega,fun j hj => ?_⟩⟩⟩
    rw [Nat.zero_add]
    exact ((HR.out j hj).same (hV g hg hgw) hz fun b hb hlt => hV b (by have := hb.2 hj;omega) hlt).at
end Go.Proofs.YthchjnopgagilaaGreatDoor
