import Derived.Test.YtdljhggillgpfaaGreatDoorSR17
import Derived.Test.YtdljhggillgpfaaGreatDoorSR18
set_option maxRecDepth 100000
set_option maxHeartbeats 8000000
namespace Go.Proofs.YtdljhggillgpfaaGreatDoor
open Go.RowKit Go.Shelf Go.Lib
theorem YC.row_new (W : World) (o : Obj) : (W.alloc o).heap[W.heap.size]? = some o := by
 show (W.heap.push _)[W.heap.size]? = _
 simp
def XIn (P : Nat → Prop) (w : World) (v : Value) (l : List (List UInt8)) : Prop := XRow w v l ∧ ∀ a n cap,v = .slice (some a) n cap → l ≠ [] → P a.block
theorem XIn.same {P : Nat → Prop} {w V : World} {v : Value} {l : List (List UInt8)} (h : XIn P w v l) (hz : w.heap.size ≤ V.heap.size) (hb : ∀ j,P j → j < w.heap.size → V.heap[j]? = w.heap[j]?) : XIn P V v l := by
 obtain ⟨⟨p,cap,rfl,h0,hn,h1⟩,h2⟩ := h
 refine ⟨⟨p,cap,rfl,h0,hn,fun hl => ?_⟩,h2⟩
 obtain ⟨g,o,rfl,hg,hc⟩ := h1 hl
 have hP := h2 _ _ _ rfl hl
 exact ⟨g,o,rfl,Nat.lt_of_lt_of_le hg hz,fun j hj => (World.cell?_of_block (a := ⟨g,o + j,none⟩) (hb g hP hg)).trans (hc j hj)⟩
theorem XIn.imp {P Q : Nat → Prop} {w : World} {v : Value} {l : List (List UInt8)} (h : XIn P w v l) (hPQ : ∀ j,P j → Q j) : XIn Q w v l := ⟨h.1,fun a n cap e hl => hPQ _ (h.2 a n cap e hl)⟩
def RuIn (P : Nat → Prop) (w : World) (g o : Nat) (r : Ru) : Prop :=
 w.cell? ⟨g,o,none⟩ = some (.string (ba r.out)) ∧ w.cell? ⟨g,o + 1,none⟩ = some (.string (ba r.kind)) ∧ w.cell? ⟨g,o + 2,none⟩ = some (.string (ba r.word)) ∧ ∃ v,w.cell? ⟨g,o + 3,none⟩ = some v ∧ XIn P w v r.ins
theorem RuIn.same {P : Nat → Prop} {w V : World} {g o : Nat} {r : Ru} (h : RuIn P w g o r) (hg : V.heap[g]? = w.heap[g]?) (hz : w.heap.size ≤ V.heap.size) (hb : ∀ j,P j → j < w.heap.size → V.heap[j]? = w.heap[j]?) : RuIn P V g o r := by
 obtain ⟨h0,h1,h2,v,h3,h4⟩ := h
 exact ⟨(World.cell?_of_block (a := ⟨g,o,none⟩) hg).trans h0,(World.cell?_of_block (a := ⟨g,o + 1,none⟩) hg).trans h1,(World.cell?_of_block (a := ⟨g,o + 2,none⟩) hg).trans h2,v,(World.cell?_of_block (a := ⟨g,o + 3,none⟩) hg).trans h3,h4.same hz hb⟩
theorem RuIn.imp {P Q : Nat → Prop} {w : World} {g o : Nat} {r : Ru} (h : RuIn P w g o r) (hPQ : ∀ j,P j → Q j) : RuIn Q w g o r := by
 obtain ⟨h0,h1,h2,v,h3,h4⟩ := h
 exact ⟨h0,h1,h2,v,h3,h4.imp hPQ⟩
theorem RuIn.at {P : Nat → Prop} {w : World} {g o : Nat} {r : Ru} (h : RuIn P w g o r) : RuAt w g o r := by
 obtain ⟨h0,h1,h2,v,h3,h4⟩ := h
 exact ⟨h0,h1,h2,v,h3,h4.1⟩
def RNew (n : Nat) (w : World) (v : Value) (l : List Ru) : Prop := ∀ V : World,w.heap.size ≤ V.heap.size → (∀ j,n ≤ j → j < w.heap.size → V.heap[j]? = w.heap[j]?) → RRow V v l
theorem cloneS_calls {w : World} (v : Value) (l : List (List UInt8)) (hrow : XRow w v l) (hl : l.length ≤ 1000) :
  Calls Tryz.prog 191 #[v] w fun e w' => ∃ v',e = .returned v' ∧ XIn (fun j => w.heap.size ≤ j) w' v' l ∧ Below w.heap.size w w' := by
 have key : ∀ {w' : World} {v' : Value},w'.ownsRow w.heap.size 9 1 v' l.length (l.map sv) → XIn (fun j => w.heap.size ≤ j) w' v' l := fun {w' v'} h => by
  refine ⟨XRow.of_owns h,fun a n cap e _ => ?_⟩
  subst e
  exact row_low4 h _ (by simp [Value.ownBlock])
 obtain ⟨p,cap,rfl,hcap,hn,h1⟩ := hrow
 cases p with
 | none =>
  have hc := hn rfl
  subst hc
  obtain rfl : l = [] := List.length_eq_zero_iff.1 (by omega)
  refine (Tryz.slices_Clone_string_nil 0 0 w).mono ?_
  rintro e w' ⟨rfl,rfl⟩
  exact ⟨_,rfl,⟨XRow.nil _,fun a n cap e => by cases e⟩,Below.refl _ _⟩
 | some a =>
  by_cases he : l = []
  ·subst he
   refine (Tryz.slices_Clone_string_zero a cap w).mono ?_
   rintro e w' ⟨v',rfl,ho,_,hb⟩
   exact ⟨v',rfl,key ho,hb⟩
  ·obtain ⟨g,o,e,hg,hc⟩ := h1 he
   obtain rfl : a = ⟨g,o,none⟩ := Option.some.inj e
   refine (Tryz.slices_Clone_string g o l.length cap (l.map ba) w (by simp) (by omega) (fun j hj => by
    have hj' : j < l.length := by simpa using hj
    rw [hc j hj']
    simp [hj'])).mono ?_
   rintro e w' ⟨v',rfl,ho,_,hb⟩
   rw [List.take_of_length_le (by simp),List.map_map] at ho
   exact ⟨v',rfl,key ho,hb⟩
theorem ruAt_cells {w : World} {g o : Nat} : ∀ {l : List Ru},(∀ j (hj : j < l.length),RuAt w g (o + j * 4) l[j]) → ∃ dn : List (Ru × Value),dn.map Prod.fst = l ∧ (∀ j (hj : j < dn.length),w.cell? ⟨g,o + j * 4,none⟩ = some (.string (ba dn[j].1.out)) ∧ w.cell? ⟨g,o + j * 4 + 1,none⟩ = some (.string (ba dn[j].1.kind)) ∧ w.cell? ⟨g,o + j * 4 + 2,none⟩ = some (.string (ba dn[j].1.word)) ∧ w.cell? ⟨g,o + j * 4 + 3,none⟩ = some dn[j].2 ∧ XRow w dn[j].2 dn[j].1.ins) := by
 intro l h
 have h' : ∀ j (hj : j < l.length),∃ v,w.cell? ⟨g,o + j * 4 + 3,none⟩ = some v ∧ XRow w v l[j].ins := fun j hj => (h j hj).2.2.2
 refine ⟨(List.range l.length).attach.map fun x => (l[x.1]'(List.mem_range.1 x.2),(h' x.1 (List.mem_range.1 x.2)).choose),?_,fun j hj => ?_⟩
 ·apply List.ext_getElem
  ·simp
  ·intro n h1 h2
   simp
 ·have hj' : j < l.length := by simpa using hj
  obtain ⟨a0,a1,a2,-⟩ := h j hj'
  have := (h' j hj').choose_spec
  simp only [List.getElem_map,List.getElem_attach,List.getElem_range]
  exact ⟨a0,a1,a2,this.1,this.2⟩
theorem ruCells_len (l : List (Ru × Value)) : (ruCells l).length = l.length * 4 := by
 induction l with
 | nil => rfl
 | cons x r ih =>
  have e : ruCells (x :: r) = .string (ba x.1.out) :: .string (ba x.1.kind) :: .string (ba x.1.word) :: x.2 :: ruCells r := by simp [ruCells]
  rw [e]
  simp only [List.length_cons,ih]
  omega
theorem ruCells_get {l : List (Ru × Value)} {w : World} {g o : Nat} (h : ∀ j (hj : j < l.length),w.cell? ⟨g,o + j * 4,none⟩ = some (.string (ba l[j].1.out)) ∧ w.cell? ⟨g,o + j * 4 + 1,none⟩ = some (.string (ba l[j].1.kind)) ∧ w.cell? ⟨g,o + j * 4 + 2,none⟩ = some (.string (ba l[j].1.word)) ∧ w.cell? ⟨g,o + j * 4 + 3,none⟩ = some l[j].2) (i : Nat) (u : Value) (hu : (ruCells l)[i]? = some u) : w.cell? ⟨g,o + i,none⟩ = some u := by
 have hi : i < l.length * 4 := by
  have := (List.getElem?_eq_some_iff.1 hu).1
  rwa [ruCells_len] at this
 have hj : i / 4 < l.length := by omega
 obtain ⟨a0,a1,a2,a3⟩ := ruCells_at l (i / 4) hj
 obtain ⟨b0,b1,b2,b3⟩ := h (i / 4) hj
 have hc : i = i / 4 * 4 ∨ i = i / 4 * 4 + 1 ∨ i = i / 4 * 4 + 2 ∨ i = i / 4 * 4 + 3 := by omega
 generalize i / 4 = q at *
 rcases hc with rfl | rfl | rfl | rfl
 ·rw [a0] at hu;rw [b0,Option.some.inj hu]
 ·rw [a1] at hu;rw [show o + (q * 4 + 1) = o + q * 4 + 1 by omega,b1,Option.some.inj hu]
 ·rw [a2] at hu;rw [show o + (q * 4 + 2) = o + q * 4 + 2 by omega,b2,Option.some.inj hu]
 ·rw [a3] at hu;rw [show o + (q * 4 + 3) = o + q * 4 + 3 by omega,b3,Option.some.inj hu]
theorem ruCells_one {l : List (Ru × Value)} {w : World} (h : ∀ x ∈ l,XRow w x.2 x.1.ins) : ∀ u ∈ ruCells l,u.oneCell' = true := by
 intro u hu
 obtain ⟨x,hx,hm⟩ := List.mem_flatMap.1 hu
 obtain ⟨p,cap,e,-⟩ := h x hx
 simp only [List.mem_cons,List.not_mem_nil,or_false] at hm
 rcases hm with rfl | rfl | rfl | rfl
 ·rfl
 ·rfl
 ·rfl
 ·rw [e];rfl
theorem cloneR_calls {w : World} (v : Value) (l : List Ru) (hrow : RRow w v l) (hl : l.length ≤ 1000) :
  Calls Tryz.prog 190 #[v] w fun e w' => ∃ v',e = .returned v' ∧ Below w.heap.size w w' ∧ ((l = [] ∧ ∃ p c,v' = .slice p 0 c ∧ (p = none → c = 0)) ∨ ∃ g cap,l ≠ [] ∧ v' = .slice (some ⟨g,0,none⟩) l.length cap ∧ w.heap.size ≤ g ∧ g < w'.heap.size ∧ l.length ≤ cap ∧ (∀ i,w'.frozen? ⟨g,i,none⟩ = false) ∧ ∀ j (hj : j < l.length),RuIn (fun b => b < w.heap.size) w' g (j * 4) l[j]) := by
 obtain ⟨i0,hi,hz0,hz1,hz2⟩ := info_parts Tryz.infoRule
 have q22 : ∀ (w : World) (a : Option Addr) (n c n' c' : Nat),(binOp .eql 49 (.slice a n c) (.slice none n' c')).run Tryz.prog w = .ok (.bool a.isNone) w := fun w a n c n' c' => Lib.run_eql_slice_nil w _ _ a n c n' c' Tryz.underlying49
 obtain ⟨p,cap,rfl,hcap,hn,hin⟩ := hrow
 cases p with
 | none =>
  have hc := hn rfl
  subst hc
  obtain rfl : l = [] := List.length_eq_zero_iff.1 (by omega)
  clear hin hn
  go_enter Tryz.func190,Tryz.ntmps190
  go_wp2
  go_ret
  exact ⟨_,rfl,Below.refl _ _,.inl ⟨by trivial,none,0,rfl,fun _ => rfl⟩⟩
 | some a =>
  have key : ∃ dn : List (Ru × Value),dn.map Prod.fst = l ∧ (∀ x ∈ dn,XRow w x.2 x.1.ins) ∧ ∀ j u,(ruCells dn)[j]? = some u → w.cell? (a.add j) = some u := by
   by_cases he : l = []
   ·exact ⟨[],by rw [he];rfl,fun x hx => by simp at hx,fun j u h => by simp [ruCells] at h⟩
   ·obtain ⟨g,o,e,hg,hc⟩ := hin he
    obtain rfl : a = ⟨g,o,none⟩ := Option.some.inj e
    obtain ⟨dn,e1,h2⟩ := ruAt_cells hc
    refine ⟨dn,e1,fun x hx => ?_,fun j u hu => ?_⟩
    ·obtain ⟨k,hk,rfl⟩ := List.getElem_of_mem hx
     exact (h2 k hk).2.2.2.2
    ·rw [add_at2]
     exact ruCells_get (fun j hj => ⟨(h2 j hj).1,(h2 j hj).2.1,(h2 j hj).2.2.1,(h2 j hj).2.2.2.1⟩) j u hu
  obtain ⟨dn,e1,hx,hc⟩ := key
  have hlen : dn.length = l.length := by rw [← e1];simp
  have HC : Hid (∀ j u,(ruCells dn)[j]? = some u → w.cell? (a.add j) = some u) := hid1 hc
  have HX := hid1 hx
  have h1 := ruCells_one hx
  have hrl := ruCells_len dn
  rw [hlen] at hrl
  clear hc hx hin hn
  go_enter Tryz.func190,Tryz.ntmps190
  go_wp2_with (at_builtin;refine wpList_append_own _ rfl _ _ 49 rfl w.heap.size 36 i0 (.agg #[.string ⟨#[]⟩,.string ⟨#[]⟩,.string ⟨#[]⟩,.slice none 0 0]) 4 72 Tryz.underlying49 hi hz0 hz1 hz2 rfl (by decide) _ _ _ rfl (World.ownsRow_made w #[] 0 (Nat.le_refl _) (Nat.zero_le _) (by simp)) a l.length cap (ruCells dn) rfl hrl (fun j u hj => Lib.cell?_alloc_some _ (HC.out j u hj)) h1 (by unfold maxLen;omega) (by omega) (by simp) ?_;intro v' w1 hown hgrow hnil)
  go_wp2
  go_ret
  have hgrow' : (w.alloc (.cells #[] 36)).grownBy w1 (some w.heap.size) := hgrow
  have hB : Below w.heap.size w w1 := ((Below.refl _ w).alloc (Nat.le_refl _) _).grown hgrow' (by simp) (by intro k hk;cases hk;exact Nat.le_refl _)
  refine ⟨v',rfl,hB,?_⟩
  have hown' : w1.ownsRow w.heap.size 36 4 v' l.length (ruCells dn) := by simpa using hown
  rcases hown'.2 with ⟨rfl,_⟩ | ⟨g,cap',cur,rfl,hbg,hgc,hc1,-,-,-⟩
  ·have hn := (hnil.1 rfl).1
   cases hn
  ·by_cases he : l = []
   ·exact .inl ⟨he,some ⟨g,0,none⟩,cap',by rw [he];rfl,fun h => by cases h⟩
   ·refine .inr ⟨g,cap',he,rfl,hbg,(Array.getElem?_eq_some_iff.1 hgc).1,hc1,fun i => World.ownsRow.frozenAt hown' i,fun j hj => ?_⟩
    have hj' : j < dn.length := by omega
    obtain ⟨a0,a1,a2,a3⟩ := ruCells_at dn j hj'
    have ej : dn[j].1 = l[j] := by subst e1;simp
    have hat : ∀ i u,(ruCells dn)[i]? = some u → w1.cell? ⟨g,i,none⟩ = some u := fun i u hu => by
     rw [World.ownsRow.cellAt hown' i (by have := (List.getElem?_eq_some_iff.1 hu).1;omega)]
     exact hu
    have hxr := HX.out dn[j] (List.getElem_mem hj')
    rw [ej] at a0 a1 a2 hxr
    refine ⟨hat _ _ a0,hat _ _ a1,hat _ _ a2,_,hat _ _ a3,hxr.below hB,fun b n c eb hne => ?_⟩
    obtain ⟨p3,c3,e3,-,-,h3⟩ := hxr
    obtain ⟨g3,o3,e4,hg3,-⟩ := h3 hne
    rw [e3,e4] at eb
    cases eb
    exact hg3
theorem ycopy_calls {w : World} (v : Value) (l : List Ru) (hrow : RRow w v l) (hl : l.length ≤ 1000) (h12 : ∀ x ∈ l,x.ins.length ≤ 1000) :
  Calls Tryz.prog 143 #[v] w fun e w' => ∃ v',e = .returned v' ∧ Below w.heap.size w w' ∧ RNew w.heap.size w' v' l := by
 have HC := hid1 (cloneR_calls v l hrow hl)
 have H12 := hid1 h12
 have zl : (l.length : Int) ≤ 1000 := by omega
 obtain ⟨pv,cv,rfl,-⟩ := hrow
 go_enter Tryz.func143,Tryz.ntmps143
 go_wp2_with fail
 refine HC.out.mono ?_
 rintro e w1 ⟨v',rfl,g1,hcase⟩
 rcases hcase with ⟨rfl,p,c,rfl,hpc⟩ | ⟨g,cap,hne,rfl,hg,hg1,hcap,hfz,hru⟩
 ·have HP := hid1 hpc
  go_wp2
  go_loopw [10] (fun iv wr => iv = .int .i64 0 ∧ wr = w1) (fun _ _ => 0)
  case atStart => exact ⟨rfl,rfl⟩
  case round =>
   obtain ⟨rfl,rfl⟩ := hrel
   go_wp2
   go_ret
   exact ⟨_,rfl,g1,fun V _ _ => ⟨p,c,rfl,Nat.zero_le _,HP.out,fun h => absurd rfl h⟩⟩
 ·have HRu : Hid (∀ j (hj : j < l.length),RuIn (fun b => b ≠ g ∧ (j < 0 → g < b)) w1 g (j * 4) l[j]) := hid1 fun j hj => (hru j hj).imp fun b hb => ⟨by omega,fun h => by omega⟩
  have HFz := hid1 hfz
  go_wp2
  go_loopw [10] (fun iv wr => ∃ k : Nat,k ≤ l.length ∧ iv = .int .i64 k ∧ Below w.heap.size w wr ∧ w1.heap.size ≤ wr.heap.size ∧ (∀ i,wr.frozen? ⟨g,i,none⟩ = false) ∧ ∀ j (hj : j < l.length),RuIn (fun b => b ≠ g ∧ (j < k → g < b)) wr g (j * 4) l[j]) (fun iv _ => l.length - (intOf iv).toNat)
  case atStart => exact ⟨0,Nat.zero_le _,rfl,g1,Nat.le_refl _,HFz.out,HRu.out⟩
  case round =>
   obtain ⟨k,hk,rfl,B,hz1,hfz,hru⟩ := hrel
   have HF := hid1 hfz
   have HR : Hid (∀ j (hj : j < l.length),RuIn (fun b => b ≠ g ∧ (j < k → g < b)) wr g (j * 4) l[j]) := hid1 hru
   have k0 : (0 : Int) ≤ (k : Int) := by omega
   by_cases hlt : k < l.length
   ·have k1 : (k : Int) < (l.length : Int) := by omega
    obtain ⟨d0,d1,d2,v3,d3,hx3⟩ := HR.out k hlt
    have hxr := hx3.1
    have hml := H12.out _ (List.getElem_mem hlt)
    obtain ⟨p3,cap3,rfl,-⟩ := hx3.1
    have hst : ∀ (a : Addr) (m : Mode) (W : World),Sem.run Tryz.prog (store a (.slice p3 l[k].ins.length cap3) m) W = stored Tryz.prog W a (.slice p3 l[k].ins.length cap3) m := fun a m W => run_store _ W a _ m rfl
    have gA : Below wr.heap.size wr (wr.alloc (.cells #[.string (ba l[k].out),.string (ba l[k].kind),.string (ba l[k].word),.slice p3 l[k].ins.length cap3] 36)) := (Below.refl _ wr).alloc (Nat.le_refl _) _
    have cA3 := cell_of_row (j := 3) (YC.row_new wr (.cells #[.string (ba l[k].out),.string (ba l[k].kind),.string (ba l[k].word),.slice p3 l[k].ins.length cap3] 36)) rfl
    have HS := hid1 (cloneS_calls (.slice p3 l[k].ins.length cap3) l[k].ins (hxr.below gA) hml)
    have hgw : g < wr.heap.size := by omega
    generalize hwa : wr.alloc (.cells #[.string (ba l[k].out),.string (ba l[k].kind),.string (ba l[k].word),.slice p3 l[k].ins.length cap3] 36) = wa at *
    go_wp2_with fail
    refine HS.out.mono ?_
    rintro e w4 ⟨v4,rfl,hx4,g4⟩
    have gB := below_then gA g4
    have c3 := cell_below' d3 gB
    have f3 : w4.frozen? ⟨g,k * 4 + 3,none⟩ = false := (gB.frozen (p := ⟨g,k * 4 + 3,none⟩) hgw).trans (HF.out _)
    have HX4 := hid1 hx4
    obtain ⟨p4,cap4,rfl,-⟩ := hx4.1
    have hst4 : ∀ (a : Addr) (m : Mode) (W : World),Sem.run Tryz.prog (store a (.slice p4 l[k].ins.length cap4) m) W = stored Tryz.prog W a (.slice p4 l[k].ins.length cap4) m := fun a m W => run_store _ W a _ m rfl
    have HAW := hid1 gA.size
    have HGB := hid1 gB
    go_wp2
    have eS : (w4.setCell ⟨g,k * 4 + 3,none⟩ (.slice p4 l[k].ins.length cap4)).heap.size = w4.heap.size := by simp
    have hbo : ∀ j,j ≠ g → (w4.setCell ⟨g,k * 4 + 3,none⟩ (.slice p4 l[k].ins.length cap4)).heap[j]? = w4.heap[j]? := fun j hj => Below.heap_setCell _ _ _ _ hj
    refine ⟨⟨k + 1,by omega,by go_num,?_,by rw [eS];have := HGB.out.size;omega,fun i => ?_,fun j hj => ?_⟩,by simp [intOf];omega⟩
    ·exact (below_then B HGB.out).setCell (p := ⟨g,k * 4 + 3,none⟩) hg _
    ·rw [World.frozen?_setCell]
     exact (HGB.out.frozen (p := ⟨g,i,none⟩) hgw).trans (HF.out i)
    ·have hold := HR.out j hj
     by_cases e : j = k
     ·subst e
      obtain ⟨a0,a1,a2,-⟩ := hold
      have oc : ∀ i u,i ≠ j * 4 + 3 → wr.cell? ⟨g,i,none⟩ = some u → (w4.setCell ⟨g,j * 4 + 3,none⟩ (.slice p4 l[j].ins.length cap4)).cell? ⟨g,i,none⟩ = some u := fun i u hi hu => by
       rw [World.cell?_setCell_other _ _ _ _ (fun e => hi (by cases e;rfl))]
       exact cell_below' hu HGB.out
      refine ⟨oc _ _ (by omega) a0,oc _ _ (by omega) a1,oc _ _ (by omega) a2,_,World.cell?_setCell_same _ _ _ c3,?_⟩
      refine (HX4.out.imp (Q := fun b => b ≠ g ∧ (j < j + 1 → g < b)) fun b hb => ?_).same (by rw [eS];exact Nat.le_refl _) fun b hb _ => hbo b hb.1
      have := HAW.out
      exact ⟨by omega,fun _ => by omega⟩
     ·obtain ⟨a0,a1,a2,u,a3,ax⟩ := hold
      have oc : ∀ i u,i ≠ k * 4 + 3 → wr.cell? ⟨g,i,none⟩ = some u → (w4.setCell ⟨g,k * 4 + 3,none⟩ (.slice p4 l[k].ins.length cap4)).cell? ⟨g,i,none⟩ = some u := fun i u hi hu => by
       rw [World.cell?_setCell_other _ _ _ _ (fun e => hi (by cases e;rfl))]
       exact cell_below' hu HGB.out
      refine ⟨oc _ _ (by omega) a0,oc _ _ (by omega) a1,oc _ _ (by omega) a2,_,oc _ _ (by omega) a3,?_⟩
      have h1 : XIn (fun b => b ≠ g ∧ (j < k → g < b)) w4 u l[j].ins := ax.same HGB.out.size fun b _ hb => HGB.out.block b hb
      exact (h1.same (V := w4.setCell ⟨g,k * 4 + 3,none⟩ (.slice p4 l[k].ins.length cap4)) (by rw [eS];exact Nat.le_refl _) fun b hb _ => hbo b hb.1).imp fun b hb => ⟨hb.1,fun h => hb.2 (by omega)⟩
   ·have k1 : (l.length : Int) ≤ (k : Int) := by omega
    obtain rfl : k = l.length := by omega
    have hgw : g < wr.heap.size := by omega
    go_wp2
    go_ret
    refine ⟨_,rfl,B,fun V hz hV => ⟨some ⟨g,0,none⟩,cap,rfl,hcap,fun h => (by cases h),fun _ => ⟨g,0,rfl,by omega,fun j hj => ?_⟩⟩⟩
    rw [Nat.zero_add]
    exact ((HR.out j hj).same (hV g hg hgw) hz fun b hb hlt => hV b (by have := hb.2 hj;omega) hlt).at
theorem row_newR (w : World) (o : Obj) : (w.alloc o).heap[w.heap.size]? = some o := by
 show (w.heap.push o)[w.heap.size]? = _
 simp
theorem own_sliceR {W : World} {B : Nat} {e : TypeId} {s n : Nat} {v : Value} {xs : List Value} (h : W.ownsRow B e s v n xs) : ∃ p c,v = .slice p n c := by
 rcases h.2 with ⟨rfl,rfl⟩ | ⟨g,cap,cur,rfl,_⟩
 ·exact ⟨_,_,rfl⟩
 ·exact ⟨_,_,rfl⟩
abbrev mid (s : List UInt8) (i j : Nat) : List UInt8 := (s.take j).drop i
structure RuLine (s : List UInt8) (a b d : Nat) (wd : List UInt8) : Prop where
 few : s.length ≤ 10000
 eq : Lib.occAt s [32,61,32] a = true
 no : ∀ j,j < a → Lib.occAt s [32,61,32] j = false
 a3 : a + 3 ≤ b
 bd : b ≤ d
 dlt : d + 1 < s.length
 kind : ∀ j (hj : j < s.length),a + 3 ≤ j → j < b → s[j] ≠ 32
 stop : ∀ hb : b < s.length,s[b] = 32
 sep : ∀ hd : d < s.length,s[d] = 32
 word : (wd = [] ∧ d = b ∧ ∀ h : b + 1 < s.length,s[b + 1] ≠ 34) ∨ (wd ≠ [] ∧ d = b + 3 + wd.length ∧ (∀ h : b + 1 < s.length,s[b + 1] = 34) ∧ mid s (b + 2) (d - 1) = wd ∧ (∀ j (hj : j < s.length),b + 2 ≤ j → j < d - 1 → s[j] ≠ 34 ∧ s[j] ≠ 92) ∧ ∀ h : d - 1 < s.length,s[d - 1] = 34)
 full : [] ∉ cutB 32 (s.drop (d + 1))
theorem Ru.err_tail {r : Ru} (h1 : pathB r.out = true) (h2 : Af.actE r.kind r.word r.ins.length = 0) : r.err = if r.ins.all pathB = false then 4 else if r.twice = true then 7 else 0 := by
 unfold Ru.err
 rw [if_neg (by rw [h1];simp),if_neg (by rw [h2];simp)]
theorem first_paths (l : List (List UInt8)) : Ru.firstC (fun k => if pathB (l.getD k []) = false then 4 else 0) l.length = if l.all pathB = false then 4 else 0 := by
 cases h : l.all pathB with
 | true =>
  rw [Ru.firstC_none fun j hj => ?_]
  ·rfl
  ·have := List.all_eq_true.1 h l[j] (List.getElem_mem hj)
   rw [List.getD_eq_getElem?_getD,List.getElem?_eq_getElem hj,Option.getD_some,if_neg (by rw [this];simp)]
 | false =>
  rcases Ru.firstC_const (c := fun k => if pathB (l.getD k []) = false then 4 else 0) (n := l.length) (d := 4) (fun j => by split;exact .inr rfl;exact .inl rfl) with h0 | h0
  ·exfalso
   rw [List.all_eq_false] at h
   obtain ⟨x,hx,hp⟩ := h
   obtain ⟨j,hj,rfl⟩ := List.getElem_of_mem hx
   have := Ru.firstC_zero h0 j hj
   rw [List.getD_eq_getElem?_getD,List.getElem?_eq_getElem hj,Option.getD_some] at this
   simp [hp] at this
  ·rw [h0];rfl
theorem first_twice (r : Ru) : Ru.firstC (fun k => if r.twiceAt k = true then 7 else 0) r.ins.length = if r.twice = true then 7 else 0 := by
 cases h : r.twice with
 | true =>
  rcases Ru.firstC_const (c := fun k => if r.twiceAt k = true then 7 else 0) (n := r.ins.length) (d := 7) (fun j => by split;exact .inr rfl;exact .inl rfl) with h0 | h0
  ·exfalso
   obtain ⟨j,hj,hp⟩ := Ru.twice_iff.1 h
   have := Ru.firstC_zero h0 j hj
   simp [hp] at this
  ·rw [h0];rfl
 | false =>
  rw [Ru.firstC_none fun j hj => ?_]
  ·rfl
  ·rw [if_neg]
   intro hp
   rw [Ru.twice_iff.2 ⟨j,hj,hp⟩] at h
   cases h
structure Ru.Wide (r : Ru) : Prop where
 out : r.out.length ≤ 100000
 word : r.word.length ≤ 100000
 many : r.ins.length ≤ 100000
 ins : ∀ x ∈ r.ins,x.length ≤ 100000
theorem Ru.Small.wide {r : Ru} (h : r.Small) : r.Wide := ⟨Nat.le_trans h.out (by decide),Nat.le_trans h.word (by decide),Nat.le_trans h.many (by decide),fun x hx => Nat.le_trans (h.ins x hx) (by decide)⟩
theorem ruCheck_calls {w : World} {es : Nat → Addr} (hE : ES w es) (hA : AE w (erOf es)) (r : Ru) (hS : r.Wide) (v : Value) (hrow : XRow w v r.ins) :
  Calls Tryz.prog 140 #[ruV r v] w fun e w' => e = .returned (erOf es r.err) ∧ Below w.heap.size w w' := by
 have hB0 : Below w.heap.size w (w.alloc (.cells #[.string (ba r.out),.string (ba r.kind),.string (ba r.word),v] 36)) := (Below.refl _ w).alloc (Nat.le_refl _) _
 have hR0 : RuAt (w.alloc (.cells #[.string (ba r.out),.string (ba r.kind),.string (ba r.word),v] 36)) w.heap.size 0 r := ⟨by simp,by simp,by simp,v,by simp,hrow.below hB0⟩
 have s1 := hS.out
 have s2 := hS.word
 have s3 := hS.many
 have HP := hid1 fun W (hW : Below w.heap.size w W) => pCheck_any (hE.below hW) r.out (by omega)
 have HK := hid1 fun W (hW : Below w.heap.size w W) => Check_any (hA.stays hW) r.kind r.word r.ins.length (by omega)
 have H1 := hid1 fun W (hW : Below w.heap.size w W) => searchS_calls (es := es) v r.ins (hrow.below hW) (by omega) 186 #[] (enters_of Tryz.func186 (by kernel_rfl) rfl) (fun k => if pathB (r.ins.getD k []) = false then 4 else 0)
  (hid1 fun k hk W' hW' => by
   have := ruCheck1_calls (hE.below (below_then hW hW')) k r.ins[k] (Nat.le_trans (hS.ins _ (List.getElem_mem hk)) (by omega))
   rw [List.getD_eq_getElem?_getD,List.getElem?_eq_getElem hk,Option.getD_some]
   exact this)
 have H2 := hid1 fun W (hW : Below w.heap.size w W) (b : Nat) (hR : RuAt W b 0 r) => searchS_calls (es := es) v r.ins (hrow.below hW) (by omega) 188 #[.pointer (some ⟨b,0,none⟩)] (enters_of Tryz.func188 (by kernel_rfl) rfl) (fun k => if r.twiceAt k = true then 7 else 0)
  (hid1 fun k hk W' hW' => ruCheck2_calls (hE.below (below_then hW hW')) r b k hk (by omega) (hR.below hW'))
 have HB := hid1 fun W (hW : Below w.heap.size w W) n c u (hT : Told W es n c u) => bare_told (hE.below hW) hT
 have HR := hid1 hR0
 have HEq : Hid (r.err = if pathB r.out = false then 4 else if Af.actE r.kind r.word r.ins.length ≠ 0 then Af.actE r.kind r.word r.ins.length else if r.ins.all pathB = false then 4 else if r.twice = true then 7 else 0) := hid1 rfl
 obtain ⟨p,cap,rfl,hcap,hnn,hin⟩ := hrow
 clear hE hA hS hin hnn hR0
 cases hp : pathB r.out with
 | false =>
  have HF : Hid (r.err = 4) := hid1 (by rw [HEq.out,hp];rfl)
  rw [HF.out]
  rw [hp] at HP
  simp only [erOf,if_true] at HP ⊢
  go_enter Tryz.func140,Tryz.ntmps140
  go_wp2_with fail
  refine (HP.out _ hB0).mono ?_
  rintro e w1 ⟨rfl,hb⟩
  have g1 := below_then hB0 hb
  go_wp2
  go_ret
  exact ⟨rfl,g1⟩
 | true =>
  rw [hp] at HP
  simp only [erOf,Bool.true_eq_false,if_false] at HP
  cases ha : Af.actE r.kind r.word r.ins.length with
  | succ m =>
   have HF : Hid (r.err = m + 1) := hid1 (by rw [HEq.out,hp,ha];rfl)
   rw [HF.out]
   rw [ha] at HK
   simp only [erOf] at HK ⊢
   generalize r.ins.length = n at *
   go_enter Tryz.func140,Tryz.ntmps140
   go_wp2_with fail
   refine (HP.out _ hB0).mono ?_
   rintro e w1 ⟨rfl,hb⟩
   have g1 := below_then hB0 hb
   have k1 := (hb.cell (p := ⟨w.heap.size,1,none⟩) (by simp)).trans (by simp;rfl)
   have k2 := (hb.cell (p := ⟨w.heap.size,2,none⟩) (by simp)).trans (by simp;rfl)
   have k3 := (hb.cell (p := ⟨w.heap.size,3,none⟩) (by simp)).trans (by simp;rfl)
   clear hb
   go_wp2_with fail
   refine (HK.out _ g1).mono ?_
   rintro e w2 ⟨rfl,hb⟩
   have g2 := below_then g1 hb
   go_wp2
   go_ret
   exact ⟨rfl,g2⟩
  | zero =>
   have HF := hid1 (Ru.err_tail hp ha)
   rw [ha] at HK
   simp only [erOf] at HK
   have HFP := hid1 (first_paths r.ins)
   have HFT := hid1 (first_twice r)
   generalize (fun k => if pathB (r.ins.getD k []) = false then 4 else 0) = cP at *
   generalize (fun k => if r.twiceAt k = true then 7 else 0) = cT at *
   generalize r.ins.length = n at *
   go_enter Tryz.func140,Tryz.ntmps140
   go_wp2_with fail
   refine (HP.out _ hB0).mono ?_
   rintro e w1 ⟨rfl,hb⟩
   have g1 := below_then hB0 hb
   have R1 := hid1 (HR.out.below hb)
   have k1 := (hb.cell (p := ⟨w.heap.size,1,none⟩) (by simp)).trans (by simp;rfl)
   have k2 := (hb.cell (p := ⟨w.heap.size,2,none⟩) (by simp)).trans (by simp;rfl)
   have k3 := (hb.cell (p := ⟨w.heap.size,3,none⟩) (by simp)).trans (by simp;rfl)
   clear hb
   go_wp2_with fail
   refine (HK.out _ g1).mono ?_
   rintro e w2 ⟨rfl,hb⟩
   have g2 := below_then g1 hb
   have R2 := hid1 (R1.out.below hb)
   have q3 := cell_below' k3 hb
   clear hb k1 k2 k3 R1
   go_wp2_with fail
   refine (H1.out _ g2).mono ?_
   rintro e w3 ⟨u,rfl,hb,ht⟩
   have g3 := below_then g2 hb
   have R3 := hid1 (R2.out.below hb)
   have T := hid1 ht
   have s3 := cell_below' q3 hb
   clear hb R2 q3
   rcases ht with ⟨hz,rfl⟩ | ⟨k,pb,hk,hc,h0,rfl,hx,hy⟩
   ·have HZ := hid1 hz
    clear hz
    go_wp2_with fail
    refine (H2.out _ g3 w.heap.size R3.out).mono ?_
    rintro e w4 ⟨u,rfl,hb,ht⟩
    have g4 := below_then g3 hb
    have T4 := hid1 ht
    clear ht hb
    go_wp2_with fail
    refine (HB.out _ g4 _ _ _ T4.out).mono ?_
    rintro e w5 ⟨rfl,hb⟩
    have g5 := below_then g4 hb
    go_wp2
    go_ret
    refine ⟨?_,g5⟩
    have hP0 := HFP.out
    rw [Ru.firstC_none HZ.out] at hP0
    rw [HF.out,HFT.out]
    split at hP0
    ·cases hP0
    ·rename_i hne
     rw [if_neg hne]
     rfl
   ·have HK2 := hid1 (Ru.firstC_some hk hc h0)
    have HC2 := hid1 hc
    clear hk hc h0 hx hy
    go_wp2_with fail
    refine (HB.out _ g3 _ _ _ T.out).mono ?_
    rintro e w5 ⟨rfl,hb⟩
    have g5 := below_then g3 hb
    go_wp2
    go_ret
    refine ⟨?_,g5⟩
    have hP0 := HFP.out
    rw [HK2.out] at hP0 ⊢
    rw [HF.out]
    split at hP0
    ·rename_i hne
     rw [if_pos hne,hP0]
     rfl
    ·exact absurd hP0 HC2.out
end Go.Proofs.YtdljhggillgpfaaGreatDoor
namespace Go.Proofs.YtdljhggillgpfaaGreatDoor.Tf
open Go.Lib
def pos (c : UInt8) (s : List UInt8) : Nat := s.findIdx (· == c)
def stop (ok : List UInt8 → Bool) : Fs → Fs → Nat
 | _,[] => 0
 | t,e :: r => if putCode ok t e.1 e.2 = 0 then stop ok (put t e.1 e.2) r else putCode ok t e.1 e.2
theorem putCode_le (ok : List UInt8 → Bool) (fs : Fs) (p b : List UInt8) : putCode ok fs p b = 0 ∨ putCode ok fs p b = 4 ∨ putCode ok fs p b = 2 ∨ putCode ok fs p b = 7 ∨ putCode ok fs p b = 8 := by
 unfold putCode
 repeat' split
 all_goals simp
end Go.Proofs.YtdljhggillgpfaaGreatDoor.Tf
namespace Go.Proofs.YtdljhggillgpfaaGreatDoor
open Go.RowKit Go.Shelf Go.Lib
structure ShS (n : Nat) (dn : List (Ru × Value)) (out : Value) (w : World) : Prop where
 own : w.ownsRow n 36 4 out dn.length (ruCells dn)
 ins : ∀ x ∈ dn,XIn (fun b => n ≤ b ∧ out.ownBlock ≠ some b) w x.2 x.1.ins
theorem ShS.below {n : Nat} {dn : List (Ru × Value)} {out : Value} {w V : World} (h : ShS n dn out w) (hb : Below w.heap.size w V) : ShS n dn out V :=
 ⟨h.own.kept (row := none) ⟨hb.os,hb.tape,hb.output,hb.size,fun k hk _ => hb.block k hk⟩ (by cases out.ownBlock <;> simp),fun x hx => (h.ins x hx).same hb.size fun j _ hj => hb.block j hj⟩
theorem ShS.next {n : Nat} {dn : List (Ru × Value)} {out : Value} {w w' : World} (h : ShS n dn out w) {x : Ru × Value} (hx : XIn (fun b => n ≤ b ∧ out.ownBlock ≠ some b) w x.2 x.1.ins) {g cap : Nat} (hown : w'.ownsRow n 36 4 (.slice (some ⟨g,0,none⟩) (dn.length + 1) cap) (dn.length + 1) (ruCells dn ++ [.string (ba x.1.out),.string (ba x.1.kind),.string (ba x.1.word),x.2])) (hgrow : w.grownBy w' out.ownBlock) (hlies : out.ownBlock = some g ∨ g = w.heap.size) : ShS n (dn ++ [x]) (.slice (some ⟨g,0,none⟩) (dn.length + 1) cap) w' := by
 refine ⟨?_,fun y hy => ?_⟩
 ·rw [ruCells_snoc,List.length_append]
  exact hown
 ·have key : ∀ y : Ru × Value,XIn (fun b => n ≤ b ∧ out.ownBlock ≠ some b) w y.2 y.1.ins → XIn (fun b => n ≤ b ∧ (Value.slice (some ⟨g,0,none⟩) (dn.length + 1) cap).ownBlock ≠ some b) w' y.2 y.1.ins := fun y h => by
   have h1 := h.same (V := w') hgrow.size fun j hj hl => hgrow.block j hl (fun e => hj.2 e.symm)
   refine ⟨h1.1,fun a m c e hl => ?_⟩
   have h2 := h.2 a m c e hl
   refine ⟨h2.1,fun e2 => ?_⟩
   obtain ⟨p3,c3,e3,-,-,h3⟩ := h.1
   obtain ⟨g3,o3,e4,hg3,-⟩ := h3 hl
   rw [e3,e4] at e
   cases e
   have e5 : g = g3 := Option.some.inj e2
   rcases hlies with h4 | h4
   ·exact h2.2 (by rw [h4,e5])
   ·have : g3 < w.heap.size := hg3
    omega
  rcases List.mem_append.1 hy with h' | h'
  ·exact key y (h.ins y h')
  ·obtain rfl := List.mem_singleton.1 h'
   exact key _ hx
theorem ShS.new {n : Nat} {dn : List (Ru × Value)} {out : Value} {w : World} (h : ShS n dn out w) : RNew n w out (dn.map Prod.fst) := fun V hz hV => by
 have hlt : ∀ k,out.ownBlock = some k → n ≤ k ∧ k < w.heap.size := fun k hk => by
  refine ⟨row_low4 h.own k hk,?_⟩
  rcases h.own.2 with ⟨e,_⟩ | ⟨g,c,cu,e,_,hb,_⟩
  ·rw [e] at hk;cases hk
  ·rw [e] at hk;cases hk
   exact (Array.getElem?_eq_some_iff.1 hb).1
 have h1 : V.ownsRow n 36 4 out dn.length (ruCells dn) := by
  refine ⟨h.own.1,?_⟩
  rcases h.own.2 with h2 | ⟨g,c,cu,e,hbg,hb,h3⟩
  ·exact .inl h2
  ·have := hlt g (by rw [e];rfl)
   exact .inr ⟨g,c,cu,e,hbg,(hV g this.1 this.2).trans hb,h3⟩
 exact RRow.of_owns h1 rfl fun x hx => ((h.ins x hx).same hz fun j hj hl => hV j hj.1 hl).1
def LineOf (s : List UInt8) (r : Ru) : Prop := ∃ a b d wd,RuLine s a b d wd ∧ r = ⟨s.take a,mid s (a + 3) b,wd,cutB 32 (s.drop (d + 1))⟩
end Go.Proofs.YtdljhggillgpfaaGreatDoor
