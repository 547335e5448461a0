import Derived.Test.YtdljhggillgpfaaGreatDoorSA40
import Derived.Test.YtdljhggillgpfaaGreatDoorSA39
set_option maxRecDepth 100000
set_option maxHeartbeats 8000000
namespace Go.Proofs.YtdljhggillgpfaaGreatDoor
open Go.RowKit Go.Shelf Go.Lib
theorem YC.row_new (W : World) (o : Obj) : (W.alloc o).heap[W.heap.size]? = some o := by
 show (W.heap.push _)[W.heap.size]? = _
 simp
def XIn (P : Nat → Prop) (w : World) (v : Value) (l : List (List UInt8)) : Prop := XRow w v l ∧ ∀ a n cap,v = .slice (some a) n cap → l ≠ [] → P a.block
theorem XIn.same {P : Nat → Prop} {w V : World} {v : Value} {l : List (List UInt8)} (h : XIn P w v l) (hz : w.heap.size ≤ V.heap.size) (hb : ∀ j,P j → j < w.heap.size → V.heap[j]? = w.heap[j]?) : XIn P V v l := by
 obtain ⟨⟨p,cap,rfl,h0,hn,h1⟩,h2⟩ := h
 refine ⟨⟨p,cap,rfl,h0,hn,fun hl => ?_⟩,h2⟩
 obtain ⟨g,o,rfl,hg,hc⟩ := h1 hl
 have hP := h2 _ _ _ rfl hl
 exact ⟨g,o,rfl,Nat.lt_of_lt_of_le hg hz,fun j hj => (World.cell?_of_block (a := ⟨g,o + j,none⟩) (hb g hP hg)).trans (hc j hj)⟩
theorem XIn.imp {P Q : Nat → Prop} {w : World} {v : Value} {l : List (List UInt8)} (h : XIn P w v l) (hPQ : ∀ j,P j → Q j) : XIn Q w v l := ⟨h.1,fun a n cap e hl => hPQ _ (h.2 a n cap e hl)⟩
def RuIn (P : Nat → Prop) (w : World) (g o : Nat) (r : Ru) : Prop :=
 w.cell? ⟨g,o,none⟩ = some (.string (ba r.out)) ∧ w.cell? ⟨g,o + 1,none⟩ = some (.string (ba r.kind)) ∧ w.cell? ⟨g,o + 2,none⟩ = some (.string (ba r.word)) ∧ ∃ v,w.cell? ⟨g,o + 3,none⟩ = some v ∧ XIn P w v r.ins
theorem RuIn.same {P : Nat → Prop} {w V : World} {g o : Nat} {r : Ru} (h : RuIn P w g o r) (hg : V.heap[g]? = w.heap[g]?) (hz : w.heap.size ≤ V.heap.size) (hb : ∀ j,P j → j < w.heap.size → V.heap[j]? = w.heap[j]?) : RuIn P V g o r := by
 obtain ⟨h0,h1,h2,v,h3,h4⟩ := h
 exact ⟨(World.cell?_of_block (a := ⟨g,o,none⟩) hg).trans h0,(World.cell?_of_block (a := ⟨g,o + 1,none⟩) hg).trans h1,(World.cell?_of_block (a := ⟨g,o + 2,none⟩) hg).trans h2,v,(World.cell?_of_block (a := ⟨g,o + 3,none⟩) hg).trans h3,h4.same hz hb⟩
theorem RuIn.imp {P Q : Nat → Prop} {w : World} {g o : Nat} {r : Ru} (h : RuIn P w g o r) (hPQ : ∀ j,P j → Q j) : RuIn Q w g o r := by
 obtain ⟨h0,h1,h2,v,h3,h4⟩ := h
 exact ⟨h0,h1,h2,v,h3,h4.imp hPQ⟩
theorem RuIn.at {P : Nat → Prop} {w : World} {g o : Nat} {r : Ru} (h : RuIn P w g o r) : RuAt w g o r := by
 obtain ⟨h0,h1,h2,v,h3,h4⟩ := h
 exact ⟨h0,h1,h2,v,h3,h4.1⟩
def RNew (n : Nat) (w : World) (v : Value) (l : List Ru) : Prop := ∀ V : World,w.heap.size ≤ V.heap.size → (∀ j,n ≤ j → j < w.heap.size → V.heap[j]? = w.heap[j]?) → RRow V v l
theorem cloneS_calls {w : World} (v : Value) (l : List (List UInt8)) (hrow : XRow w v l) (hl : l.length ≤ 1000) :
  Calls Tryz.prog 191 #[v] w fun e w' => ∃ v',e = .returned v' ∧ XIn (fun j => w.heap.size ≤ j) w' v' l ∧ Below w.heap.size w w' := by
 have key : ∀ {w' : World} {v' : Value},w'.ownsRow w.heap.size 9 1 v' l.length (l.map sv) → XIn (fun j => w.heap.size ≤ j) w' v' l := fun {w' v'} h => by
  refine ⟨XRow.of_owns h,fun a n cap e _ => ?_⟩
  subst e
  exact row_low4 h _ (by simp [Value.ownBlock])
 obtain ⟨p,cap,rfl,hcap,hn,h1⟩ := hrow
 cases p with
 | none =>
  have hc := hn rfl
  subst hc
  obtain rfl : l = [] := List.length_eq_zero_iff.1 (by omega)
  refine (Tryz.slices_Clone_string_nil 0 0 w).mono ?_
  rintro e w' ⟨rfl,rfl⟩
  exact ⟨_,rfl,⟨XRow.nil _,fun a n cap e => by cases e⟩,Below.refl _ _⟩
 | some a =>
  by_cases he : l = []
  ·subst he
   refine (Tryz.slices_Clone_string_zero a cap w).mono ?_
   rintro e w' ⟨v',rfl,ho,_,hb⟩
   exact ⟨v',rfl,key ho,hb⟩
  ·obtain ⟨g,o,e,hg,hc⟩ := h1 he
   obtain rfl : a = ⟨g,o,none⟩ := Option.some.inj e
   refine (Tryz.slices_Clone_string g o l.length cap (l.map ba) w (by simp) (by omega) (fun j hj => by
    have hj' : j < l.length := by simpa using hj
    rw [hc j hj']
    simp [hj'])).mono ?_
   rintro e w' ⟨v',rfl,ho,_,hb⟩
   rw [List.take_of_length_le (by simp),List.map_map] at ho
   exact ⟨v',rfl,key ho,hb⟩
theorem ruAt_cells {w : World} {g o : Nat} : ∀ {l : List Ru},(∀ j (hj : j < l.length),RuAt w g (o + j * 4) l[j]) → ∃ dn : List (Ru × Value),dn.map Prod.fst = l ∧ (∀ j (hj : j < dn.length),w.cell? ⟨g,o + j * 4,none⟩ = some (.string (ba dn[j].1.out)) ∧ w.cell? ⟨g,o + j * 4 + 1,none⟩ = some (.string (ba dn[j].1.kind)) ∧ w.cell? ⟨g,o + j * 4 + 2,none⟩ = some (.string (ba dn[j].1.word)) ∧ w.cell? ⟨g,o + j * 4 + 3,none⟩ = some dn[j].2 ∧ XRow w dn[j].2 dn[j].1.ins) := by
 intro l h
 have h' : ∀ j (hj : j < l.length),∃ v,w.cell? ⟨g,o + j * 4 + 3,none⟩ = some v ∧ XRow w v l[j].ins := fun j hj => (h j hj).2.2.2
 refine ⟨(List.range l.length).attach.map fun x => (l[x.1]'(List.mem_range.1 x.2),(h' x.1 (List.mem_range.1 x.2)).choose),?_,fun j hj => ?_⟩
 ·apply List.ext_getElem
  ·simp
  ·intro n h1 h2
   simp
 ·have hj' : j < l.length := by simpa using hj
  obtain ⟨a0,a1,a2,-⟩ := h j hj'
  have := (h' j hj').choose_spec
  simp only [List.getElem_map,List.getElem_attach,List.getElem_range]
  exact ⟨a0,a1,a2,this.1,this.2⟩
theorem ruCells_len (l : List (Ru × Value)) : (ruCells l).length = l.length * 4 := by
 induction l with
 | nil => rfl
 | cons x r ih =>
  have e : ruCells (x :: r) = .string (ba x.1.out) :: .string (ba x.1.kind) :: .string (ba x.1.word) :: x.2 :: ruCells r := by simp [ruCells]
  rw [e]
  simp only [List.length_cons,ih]
  omega
theorem ruCells_get {l : List (Ru × Value)} {w : World} {g o : Nat} (h : ∀ j (hj : j < l.length),w.cell? ⟨g,o + j * 4,none⟩ = some (.string (ba l[j].1.out)) ∧ w.cell? ⟨g,o + j * 4 + 1,none⟩ = some (.string (ba l[j].1.kind)) ∧ w.cell? ⟨g,o + j * 4 + 2,none⟩ = some (.string (ba l[j].1.word)) ∧ w.cell? ⟨g,o + j * 4 + 3,none⟩ = some l[j].2) (i : Nat) (u : Value) (hu : (ruCells l)[i]? = some u) : w.cell? ⟨g,o + i,none⟩ = some u := by
 have hi : i < l.length * 4 := by
  have := (List.getElem?_eq_some_iff.1 hu).1
  rwa [ruCells_len] at this
 have hj : i / 4 < l.length := by omega
 obtain ⟨a0,a1,a2,a3⟩ := ruCells_at l (i / 4) hj
 obtain ⟨b0,b1,b2,b3⟩ := h (i / 4) hj
 have hc : i = i / 4 * 4 ∨ i = i / 4 * 4 + 1 ∨ i = i / 4 * 4 + 2 ∨ i = i / 4 * 4 + 3 := by omega
 generalize i / 4 = q at *
 rcases hc with rfl | rfl | rfl | rfl
 ·rw [a0] at hu;rw [b0,Option.some.inj hu]
 ·rw [a1] at hu;rw [show o + (q * 4 + 1) = o + q * 4 + 1 by omega,b1,Option.some.inj hu]
 ·rw [a2] at hu;rw [show o + (q * 4 + 2) = o + q * 4 + 2 by omega,b2,Option.some.inj hu]
 ·rw [a3] at hu;rw [show o + (q * 4 + 3) = o + q * 4 + 3 by omega,b3,Option.some.inj hu]
theorem ruCells_one {l : List (Ru × Value)} {w : World} (h : ∀ x ∈ l,XRow w x.2 x.1.ins) : ∀ u ∈ ruCells l,u.oneCell' = true := by
 intro u hu
 obtain ⟨x,hx,hm⟩ := List.mem_flatMap.1 hu
 obtain ⟨p,cap,e,-⟩ := h x hx
 simp only [List.mem_cons,List.not_mem_nil,or_false] at hm
 rcases hm with rfl | rfl | rfl | rfl
 ·rfl
 ·rfl
 ·rfl
 ·rw [e];rfl
theorem cloneR_calls {w : World} (v : Value) (l : List Ru) (hrow : RRow w v l) (hl : l.length ≤ 1000) :
  Calls Tryz.prog 190 #[v] w fun e w' => ∃ v',e = .returned v' ∧ Below w.heap.size w w' ∧ ((l = [] ∧ ∃ p c,v' = .slice p 0 c ∧ (p = none → c = 0)) ∨ ∃ g cap,l ≠ [] ∧ v' = .slice (some ⟨g,0,none⟩) l.length cap ∧ w.heap.size ≤ g ∧ g < w'.heap.size ∧ l.length ≤ cap ∧ (∀ i,w'.frozen? ⟨g,i,none⟩ = false) ∧ ∀ j (hj : j < l.length),RuIn (fun b => b < w.heap.size) w' g (j * 4) l[j]) := by
 obtain ⟨i0,hi,hz0,hz1,hz2⟩ := info_parts Tryz.infoRule
 have q22 : ∀ (w : World) (a : Option Addr) (n c n' c' : Nat),(binOp .eql 49 (.slice a n c) (.slice none n' c')).run Tryz.prog w = .ok (.bool a.isNone) w := fun w a n c n' c' => Lib.run_eql_slice_nil w _ _ a n c n' c' Tryz.underlying49
 obtain ⟨p,cap,rfl,hcap,hn,hin⟩ := hrow
 cases p with
 | none =>
  have hc := hn rfl
  subst hc
  obtain rfl : l = [] := List.length_eq_zero_iff.1 (by omega)
  clear hin hn
  go_enter Tryz.func190,Tryz.ntmps190
  go_wp2
  go_ret
  exact ⟨_,rfl,Below.refl _ _,.inl ⟨by trivial,none,0,rfl,fun _ => rfl⟩⟩
 | some a =>
  have key : ∃ dn : List (Ru × Value),dn.map Prod.fst = l ∧ (∀ x ∈ dn,XRow w x.2 x.1.ins) ∧ ∀ j u,(ruCells dn)[j]? = some u → w.cell? (a.add j) = some u := by
   by_cases he : l = []
   ·exact ⟨[],by rw [he];rfl,fun x hx => by simp at hx,fun j u h => by simp [ruCells] at h⟩
   ·obtain ⟨g,o,e,hg,hc⟩ := hin he
    obtain rfl : a = ⟨g,o,none⟩ := Option.some.inj e
    obtain ⟨dn,e1,h2⟩ := ruAt_cells hc
    refine ⟨dn,e1,fun x hx => ?_,fun j u hu => ?_⟩
    ·obtain ⟨k,hk,rfl⟩ := List.getElem_of_mem hx
     exact (h2 k hk).2.2.2.2
    ·rw [add_at2]
     exact ruCells_get (fun j hj => ⟨(h2 j hj).1,(h2 j hj).2.1,(h2 j hj).2.2.1,(h2 j hj).2.2.2.1⟩) j u hu
  obtain ⟨dn,e1,hx,hc⟩ := key
  have hlen : dn.length = l.length := by rw [← e1];simp
  have HC : Hid (∀ j u,(ruCells dn)[j]? = some u → w.cell? (a.add j) = some u) := hid1 hc
  have HX := hid1 hx
  have h1 := ruCells_one hx
  have hrl := ruCells_len dn
  rw [hlen] at hrl
  clear hc hx hin hn
  go_enter Tryz.func190,Tryz.ntmps190
  go_wp2_with (at_builtin;refine wpList_append_own _ rfl _ _ 49 rfl w.heap.size 36 i0 (.agg #[.string ⟨#[]⟩,.string ⟨#[]⟩,.string ⟨#[]⟩,.slice none 0 0]) 4 72 Tryz.underlying49 hi hz0 hz1 hz2 rfl (by decide) _ _ _ rfl (World.ownsRow_made w #[] 0 (Nat.le_refl _) (Nat.zero_le _) (by simp)) a l.length cap (ruCells dn) rfl hrl (fun j u hj => Lib.cell?_alloc_some _ (HC.out j u hj)) h1 (by unfold maxLen;omega) (by omega) (by simp) ?_;intro v' w1 hown hgrow hnil)
  go_wp2
  go_ret
  have hgrow' : (w.alloc (.cells #[] 36)).grownBy w1 (some w.heap.size) := hgrow
  have hB : Below w.heap.size w w1 := ((Below.refl _ w).alloc (Nat.le_refl _) _).grown hgrow' (by simp) (by intro k hk;cases hk;exact Nat.le_refl _)
  refine ⟨v',rfl,hB,?_⟩
  have hown' : w1.ownsRow w.heap.size 36 4 v' l.length (ruCells dn) := by simpa using hown
  rcases hown'.2 with ⟨rfl,_⟩ | ⟨g,cap',cur,rfl,hbg,hgc,hc1,-,-,-⟩
  ·have hn := (hnil.1 rfl).1
   cases hn
  ·by_cases he : l = []
   ·exact .inl ⟨he,some ⟨g,0,none⟩,cap',by rw [he];rfl,fun h => by cases h⟩
   ·refine .inr ⟨g,cap',he,rfl,hbg,(Array.getElem?_eq_some_iff.1 hgc).1,hc1,fun i => World.ownsRow.frozenAt hown' i,fun j hj => ?_⟩
    have hj' : j < dn.length := by omega
    obtain ⟨a0,a1,a2,a3⟩ := ruCells_at dn j hj'
    have ej : dn[j].1 = l[j] := by subst e1;simp
    have hat : ∀ i u,(ruCells dn)[i]? = some u → w1.cell? ⟨g,i,none⟩ = some u := fun i u hu => by
     rw [World.ownsRow.cellAt hown' i (by have := (List.getElem?_eq_some_iff.1 hu).1;omega)]
     exact hu
    have hxr := HX.out dn[j] (List.getElem_mem hj')
    rw [ej] at a0 a1 a2 hxr
    refine ⟨hat _ _ a0,hat _ _ a1,hat _ _ a2,_,hat _ _ a3,hxr.below hB,fun b n c eb hne => ?_⟩
    obtain ⟨p3,c3,e3,-,-,h3⟩ := hxr
    obtain ⟨g3,o3,e4,hg3,-⟩ := h3 hne
    rw [e3,e4] at eb
    cases eb
    exact hg3
theorem ycopy_calls {w : World} (v : Value) (l : List Ru) (hrow : RRow w v l) (hl : l.length ≤ 1000) (h12 : ∀ x ∈ l,x.ins.length ≤ 1000) :
  Calls Tryz.prog 143 #[v] w fun e w' => ∃ v',e = .returned v' ∧ Below w.heap.size w w' ∧ RNew w.heap.size w' v' l := by
 have HC := hid1 (cloneR_calls v l hrow hl)
 have H12 := hid1 h12
 have zl : (l.length : Int) ≤ 1000 := by omega
 obtain ⟨pv,cv,rfl,-⟩ := hrow
 go_enter Tryz.func143,Tryz.ntmps143
 go_wp2_with fail
 refine HC.out.mono ?_
 rintro e w1 ⟨v',rfl,g1,hcase⟩
 rcases hcase with ⟨rfl,p,c,rfl,hpc⟩ | ⟨g,cap,hne,rfl,hg,hg1,hcap,hfz,hru⟩
 ·have HP := hid1 hpc
  go_wp2
  go_loopw [10] (fun iv wr => iv = .int .i64 0 ∧ wr = w1) (fun _ _ => 0)
  case atStart => exact ⟨rfl,rfl⟩
  case round =>
   obtain ⟨rfl,rfl⟩ := hrel
   go_wp2
   go_ret
   exact ⟨_,rfl,g1,fun V _ _ => ⟨p,c,rfl,Nat.zero_le _,HP.out,fun h => absurd rfl h⟩⟩
 ·have HRu : Hid (∀ j (hj : j < l.length),RuIn (fun b => b ≠ g ∧ (j < 0 → g < b)) w1 g (j * 4) l[j]) := hid1 fun j hj => (hru j hj).imp fun b hb => ⟨by omega,fun h => by omega⟩
  have HFz := hid1 hfz
  go_wp2
  go_loopw [10] (fun iv wr => ∃ k : Nat,k ≤ l.length ∧ iv = .int .i64 k ∧ Below w.heap.size w wr ∧ w1.heap.size ≤ wr.heap.size ∧ (∀ i,wr.frozen? ⟨g,i,none⟩ = false) ∧ ∀ j (hj : j < l.length),RuIn (fun b => b ≠ g ∧ (j < k → g < b)) wr g (j * 4) l[j]) (fun iv _ => l.length - (intOf iv).toNat)
  case atStart => exact ⟨0,Nat.zero_le _,rfl,g1,Nat.le_refl _,HFz.out,HRu.out⟩
  case round =>
   obtain ⟨k,hk,rfl,B,hz1,hfz,hru⟩ := hrel
   have HF := hid1 hfz
   have HR : Hid (∀ j (hj : j < l.length),RuIn (fun b => b ≠ g ∧ (j < k → g < b)) wr g (j * 4) l[j]) := hid1 hru
   have k0 : (0 : Int) ≤ (k : Int) := by omega
   by_cases hlt : k < l.length
   ·have k1 : (k : Int) < (l.length : Int) := by omega
    obtain ⟨d0,d1,d2,v3,d3,hx3⟩ := HR.out k hlt
    have hxr := hx3.1
    have hml := H12.out _ (List.getElem_mem hlt)
    obtain ⟨p3,cap3,rfl,-⟩ := hx3.1
    have hst : ∀ (a : Addr) (m : Mode) (W : World),Sem.run Tryz.prog (store a (.slice p3 l[k].ins.length cap3) m) W = stored Tryz.prog W a (.slice p3 l[k].ins.length cap3) m := fun a m W => run_store _ W a _ m rfl
    have gA : Below wr.heap.size wr (wr.alloc (.cells #[.string (ba l[k].out),.string (ba l[k].kind),.string (ba l[k].word),.slice p3 l[k].ins.length cap3] 36)) := (Below.refl _ wr).alloc (Nat.le_refl _) _
    have cA3 := cell_of_row (j := 3) (YC.row_new wr (.cells #[.string (ba l[k].out),.string (ba l[k].kind),.string (ba l[k].word),.slice p3 l[k].ins.length cap3] 36)) rfl
    have HS := hid1 (cloneS_calls (.slice p3 l[k].ins.length cap3) l[k].ins (hxr.below gA) hml)
    have hgw : g < wr.heap.size := by omega
    generalize hwa : wr.alloc (.cells #[.string (ba l[k].out),.string (ba l[k].kind),.string (ba l[k].word),.slice p3 l[k].ins.length cap3] 36) = wa at *
    go_wp2_with fail
    refine HS.out.mono ?_
    rintro e w4 ⟨v4,rfl,hx4,g4⟩
    have gB := below_then gA g4
    have c3 := cell_below' d3 gB
    have f3 : w4.frozen? ⟨g,k * 4 + 3,none⟩ = false := (gB.frozen (p := ⟨g,k * 4 + 3,none⟩) hgw).trans (HF.out _)
    have HX4 := hid1 hx4
    obtain ⟨p4,cap4,rfl,-⟩ := hx4.1
    have hst4 : ∀ (a : Addr) (m : Mode) (W : World),Sem.run Tryz.prog (store a (.slice p4 l[k].ins.length cap4) m) W = stored Tryz.prog W a (.slice p4 l[k].ins.length cap4) m := fun a m W => run_store _ W a _ m rfl
    have HAW := hid1 gA.size
    have HGB := hid1 gB
    go_wp2
    have eS : (w4.setCell ⟨g,k * 4 + 3,none⟩ (.slice p4 l[k].ins.length cap4)).heap.size = w4.heap.size := by simp
    have hbo : ∀ j,j ≠ g → (w4.setCell ⟨g,k * 4 + 3,none⟩ (.slice p4 l[k].ins.length cap4)).heap[j]? = w4.heap[j]? := fun j hj => Below.heap_setCell _ _ _ _ hj
    refine ⟨⟨k + 1,by omega,by go_num,?_,by rw [eS];have := HGB.out.size;omega,fun i => ?_,fun j hj => ?_⟩,by simp [intOf];omega⟩
    ·exact (below_then B HGB.out).setCell (p := ⟨g,k * 4 + 3,none⟩) hg _
    ·rw [World.frozen?_setCell]
     exact (HGB.out.frozen (p := ⟨g,i,none⟩) hgw).trans (HF.out i)
    ·have hold := HR.out j hj
     by_cases e : j = k
     ·subst e
      obtain ⟨a0,a1,a2,-⟩ := hold
      have oc : ∀ i u,i ≠ j * 4 + 3 → wr.cell? ⟨g,i,none⟩ = some u → (w4.setCell ⟨g,j * 4 + 3,none⟩ (.slice p4 l[j].ins.length cap4)).cell? ⟨g,i,none⟩ = some u := fun i u hi hu => by
       rw [World.cell?_setCell_other _ _ _ _ (fun e => hi (by cases e;rfl))]
       exact cell_below' hu HGB.out
      refine ⟨oc _ _ (by omega) a0,oc _ _ (by omega) a1,oc _ _ (by omega) a2,_,World.cell?_setCell_same _ _ _ c3,?_⟩
      refine (HX4.out.imp (Q := fun b => b ≠ g ∧ (j < j + 1 → g < b)) fun b hb => ?_).same (by rw [eS];exact Nat.le_refl _) fun b hb _ => hbo b hb.1
      have := HAW.out
      exact ⟨by omega,fun _ => by omega⟩
     ·obtain ⟨a0,a1,a2,u,a3,ax⟩ := hold
      have oc : ∀ i u,i ≠ k * 4 + 3 → wr.cell? ⟨g,i,none⟩ = some u → (w4.setCell ⟨g,k * 4 + 3,none⟩ (.slice p4 l[k].ins.length cap4)).cell? ⟨g,i,none⟩ = some u := fun i u hi hu => by
       rw [World.cell?_setCell_other _ _ _ _ (fun e => hi (by cases e;rfl))]
       exact cell_below' hu HGB.out
      refine ⟨oc _ _ (by omega) a0,oc _ _ (by omega) a1,oc _ _ (by omega) a2,_,oc _ _ (by omega) a3,?_⟩
      have h1 : XIn (fun b => b ≠ g ∧ (j < k → g < b)) w4 u l[j].ins := ax.same HGB.out.size fun b _ hb => HGB.out.block b hb
      exact (h1.same (V := w4.setCell ⟨g,k * 4 + 3,none⟩ (.slice p4 l[k].ins.length cap4)) (by rw [eS];exact Nat.le_refl _) fun b hb _ => hbo b hb.1).imp fun b hb => ⟨hb.1,fun h => hb.2 (by omega)⟩
   ·have k1 : (l.length : Int) ≤ (k : Int) := by omega
    obtain rfl : k = l.length := by omega
    have hgw : g < wr.heap.size := by omega
    go_wp2
    go_ret
    refine ⟨_,rfl,B,fun V hz hV => ⟨some ⟨g,0,none⟩,cap,rfl,hcap,fun h => (by cases h),fun _ => ⟨g,0,rfl,by omega,fun j hj => ?_⟩⟩⟩
    rw [Nat.zero_add]
    exact ((HR.out j hj).same (hV g hg hgw) hz fun b hb hlt => hV b (by have := hb.2 hj;omega) hlt).at
theorem ba_cat (a b : List UInt8) : ba a ++ ba b = ba (a ++ b) := ba_eq (by simp)
theorem row_newR (w : World) (o : Obj) : (w.alloc o).heap[w.heap.size]? = some o := by
 show (w.heap.push o)[w.heap.size]? = _
 simp
theorem own_sliceR {W : World} {B : Nat} {e : TypeId} {s n : Nat} {v : Value} {xs : List Value} (h : W.ownsRow B e s v n xs) : ∃ p c,v = .slice p n c := by
 rcases h.2 with ⟨rfl,rfl⟩ | ⟨g,cap,cur,rfl,_⟩
 ·exact ⟨_,_,rfl⟩
 ·exact ⟨_,_,rfl⟩
abbrev mid (s : List UInt8) (i j : Nat) : List UInt8 := (s.take j).drop i
structure RuLine (s : List UInt8) (a b d : Nat) (wd : List UInt8) : Prop where
 few : s.length ≤ 10000
 eq : Lib.occAt s [32,61,32] a = true
 no : ∀ j,j < a → Lib.occAt s [32,61,32] j = false
 a3 : a + 3 ≤ b
 bd : b ≤ d
 dlt : d + 1 < s.length
 kind : ∀ j (hj : j < s.length),a + 3 ≤ j → j < b → s[j] ≠ 32
 stop : ∀ hb : b < s.length,s[b] = 32
 sep : ∀ hd : d < s.length,s[d] = 32
 word : (wd = [] ∧ d = b ∧ ∀ h : b + 1 < s.length,s[b + 1] ≠ 34) ∨ (wd ≠ [] ∧ d = b + 3 + wd.length ∧ (∀ h : b + 1 < s.length,s[b + 1] = 34) ∧ mid s (b + 2) (d - 1) = wd ∧ (∀ j (hj : j < s.length),b + 2 ≤ j → j < d - 1 → s[j] ≠ 34 ∧ s[j] ≠ 92) ∧ ∀ h : d - 1 < s.length,s[d - 1] = 34)
 full : [] ∉ cutB 32 (s.drop (d + 1))
end Go.Proofs.YtdljhggillgpfaaGreatDoor
namespace Go.Proofs.YtdljhggillgpfaaGreatDoor.Tf
open Go.Lib
def pos (c : UInt8) (s : List UInt8) : Nat := s.findIdx (· == c)
def stop (ok : List UInt8 → Bool) : Fs → Fs → Nat
 | _,[] => 0
 | t,e :: r => if putCode ok t e.1 e.2 = 0 then stop ok (put t e.1 e.2) r else putCode ok t e.1 e.2
theorem putCode_le (ok : List UInt8 → Bool) (fs : Fs) (p b : List UInt8) : putCode ok fs p b = 0 ∨ putCode ok fs p b = 4 ∨ putCode ok fs p b = 2 ∨ putCode ok fs p b = 7 ∨ putCode ok fs p b = 8 := by
 unfold putCode
 repeat' split
 all_goals simp
end Go.Proofs.YtdljhggillgpfaaGreatDoor.Tf
namespace Go.Proofs.YtdljhggillgpfaaGreatDoor
open Go.RowKit Go.Shelf Go.Lib
structure ShS (n : Nat) (dn : List (Ru × Value)) (out : Value) (w : World) : Prop where
 own : w.ownsRow n 36 4 out dn.length (ruCells dn)
 ins : ∀ x ∈ dn,XIn (fun b => n ≤ b ∧ out.ownBlock ≠ some b) w x.2 x.1.ins
theorem ShS.below {n : Nat} {dn : List (Ru × Value)} {out : Value} {w V : World} (h : ShS n dn out w) (hb : Below w.heap.size w V) : ShS n dn out V :=
 ⟨h.own.kept (row := none) ⟨hb.os,hb.tape,hb.output,hb.size,fun k hk _ => hb.block k hk⟩ (by cases out.ownBlock <;> simp),fun x hx => (h.ins x hx).same hb.size fun j _ hj => hb.block j hj⟩
theorem ShS.next {n : Nat} {dn : List (Ru × Value)} {out : Value} {w w' : World} (h : ShS n dn out w) {x : Ru × Value} (hx : XIn (fun b => n ≤ b ∧ out.ownBlock ≠ some b) w x.2 x.1.ins) {g cap : Nat} (hown : w'.ownsRow n 36 4 (.slice (some ⟨g,0,none⟩) (dn.length + 1) cap) (dn.length + 1) (ruCells dn ++ [.string (ba x.1.out),.string (ba x.1.kind),.string (ba x.1.word),x.2])) (hgrow : w.grownBy w' out.ownBlock) (hlies : out.ownBlock = some g ∨ g = w.heap.size) : ShS n (dn ++ [x]) (.slice (some ⟨g,0,none⟩) (dn.length + 1) cap) w' := by
 refine ⟨?_,fun y hy => ?_⟩
 ·rw [ruCells_snoc,List.length_append]
  exact hown
 ·have key : ∀ y : Ru × Value,XIn (fun b => n ≤ b ∧ out.ownBlock ≠ some b) w y.2 y.1.ins → XIn (fun b => n ≤ b ∧ (Value.slice (some ⟨g,0,none⟩) (dn.length + 1) cap).ownBlock ≠ some b) w' y.2 y.1.ins := fun y h => by
   have h1 := h.same (V := w') hgrow.size fun j hj hl => hgrow.block j hl (fun e => hj.2 e.symm)
   refine ⟨h1.1,fun a m c e hl => ?_⟩
   have h2 := h.2 a m c e hl
   refine ⟨h2.1,fun e2 => ?_⟩
   obtain ⟨p3,c3,e3,-,-,h3⟩ := h.1
   obtain ⟨g3,o3,e4,hg3,-⟩ := h3 hl
   rw [e3,e4] at e
   cases e
   have e5 : g = g3 := Option.some.inj e2
   rcases hlies with h4 | h4
   ·exact h2.2 (by rw [h4,e5])
   ·have : g3 < w.heap.size := hg3
    omega
  rcases List.mem_append.1 hy with h' | h'
  ·exact key y (h.ins y h')
  ·obtain rfl := List.mem_singleton.1 h'
   exact key _ hx
theorem ShS.new {n : Nat} {dn : List (Ru × Value)} {out : Value} {w : World} (h : ShS n dn out w) : RNew n w out (dn.map Prod.fst) := fun V hz hV => by
 have hlt : ∀ k,out.ownBlock = some k → n ≤ k ∧ k < w.heap.size := fun k hk => by
  refine ⟨row_low4 h.own k hk,?_⟩
  rcases h.own.2 with ⟨e,_⟩ | ⟨g,c,cu,e,_,hb,_⟩
  ·rw [e] at hk;cases hk
  ·rw [e] at hk;cases hk
   exact (Array.getElem?_eq_some_iff.1 hb).1
 have h1 : V.ownsRow n 36 4 out dn.length (ruCells dn) := by
  refine ⟨h.own.1,?_⟩
  rcases h.own.2 with h2 | ⟨g,c,cu,e,hbg,hb,h3⟩
  ·exact .inl h2
  ·have := hlt g (by rw [e];rfl)
   exact .inr ⟨g,c,cu,e,hbg,(hV g this.1 this.2).trans hb,h3⟩
 exact RRow.of_owns h1 rfl fun x hx => ((h.ins x hx).same hz fun j hj hl => hV j hj.1 hl).1
def LineOf (s : List UInt8) (r : Ru) : Prop := ∃ a b d wd,RuLine s a b d wd ∧ r = ⟨s.take a,mid s (a + 3) b,wd,cutB 32 (s.drop (d + 1))⟩
end Go.Proofs.YtdljhggillgpfaaGreatDoor
namespace Go.Proofs.YtdljhggillgpfaaGreatDoor
open Go.RowKit Go.Shelf Go.Lib
structure RdJ (n b : Nat) (w0 : World) (rs : List Ru) (W : World) : Prop where
 row : ∃ (dn : List (Ru × Value)) (out : Value),dn.map Prod.fst = rs ∧ W.heap[b]? = some (.cells #[out] 49 (0,0)) ∧ ShS n dn out W
 size : n ≤ W.heap.size
 rest : ∀ j,j < n → j ≠ b → W.heap[j]? = w0.heap[j]?
 base : Below b w0 W
theorem ruRead1_calls {n b : Nat} {w0 W : World} {rs : List Ru} {es : Nat → Addr} (hJ : RdJ n b w0 rs W) (hbn : b < n) (hrl : rs.length ≤ 100000) (s : List UInt8) (hs : s.length ≤ 100000) (k m : Int) (hm : W.cell? ⟨13,0,none⟩ = some (.int .i64 m)) (hx : W.cell? ⟨1,0,none⟩ = some (erOf es 1)) :
  Calls Tryz.prog 98 #[.int .i64 k,.string (ba s),.pointer (some ⟨b,0,none⟩)] W fun e w' => match Rd.line s with
   | none => e = .returned (erOf es 1) ∧ Below b W w'
   | some r => e = .returned (erOf es 0) ∧ RdJ n b w0 (rs ++ [r]) w' ∧ Below b W w' := by
 obtain ⟨i0,hi,hz0,hz1,hz2⟩ := info_parts Tryz.infoRule
 have HR := hid1 (readLine_calls s hs m W hm)
 obtain ⟨⟨dn,out,hdn,hrow,hsh⟩,hsz,hrest,hbase⟩ := hJ
 have hbW : b < W.heap.size := by omega
 cases hl : Rd.line s with
 | none =>
  rw [hl] at HR
  clear hl
  have hxe := hx
  simp only [erOf] at hxe ⊢
  go_enter Tryz.func98,Tryz.ntmps98
  go_wp2_with fail
  refine HR.out.mono ?_
  rintro e w3 ⟨rfl,g3⟩
  have hx3 := cell_below' hxe g3
  have hx4 := cell_below' hx3 ((Below.refl _ w3).alloc (Nat.le_refl _) (.cells #[.string ⟨#[]⟩,.string ⟨#[]⟩,.string ⟨#[]⟩,.slice none 0 0] 36))
  clear HR
  go_wp2
  go_ret
  exact ⟨rfl,(g3.mono (by omega)).alloc (by have := g3.size;omega) _⟩
 | some r =>
  rw [hl] at HR
  clear hl hx
  have HSh := hid1 hsh
  have hdl : dn.length ≤ 100000 := by rw [← List.length_map (f := Prod.fst),hdn];exact hrl
  have hml : dn.length + 1 ≤ maxLen := by unfold maxLen;omega
  go_enter Tryz.func98,Tryz.ntmps98
  go_wp2_with fail
  refine HR.out.mono ?_
  rintro e w3 ⟨⟨v,rfl,hx3,hnew3⟩,g3⟩
  have hxi : XIn (fun j => W.heap.size ≤ j) w3 v r.ins := ⟨hx3,fun a n c e _ => hnew3 a n c e⟩
  obtain ⟨p4,cap4,e4,-⟩ := hx3
  subst e4
  have hol : ∀ k,out.ownBlock = some k → k < W.heap.size := fun k hk => by
   rcases HSh.out.own.2 with ⟨e,_⟩ | ⟨g,c,cu,e,_,hb,_⟩
   ·rw [e] at hk;cases hk
   ·rw [e] at hk;cases hk
    exact (Array.getElem?_eq_some_iff.1 hb).1
  have hlo : ∀ k,out.ownBlock = some k → n ≤ k := row_low4 HSh.out.own
  have HXo : Hid (XIn (fun j => n ≤ j ∧ out.ownBlock ≠ some j) w3 (.slice p4 r.ins.length cap4) r.ins) := hid1 (hxi.imp fun j hj => ⟨by omega,fun e => by have := hol j e;omega⟩)
  have HS3 := hid1 (HSh.out.below g3)
  have hw3 : W.heap.size ≤ w3.heap.size := g3.size
  have r3 : w3.heap[b]? = some (.cells #[out] 49 (0,0)) := (g3.block b hbW).trans hrow
  have gA : Below w3.heap.size w3 (w3.alloc (.cells #[.string (ba r.out),.string (ba r.kind),.string (ba r.word),.slice p4 r.ins.length cap4] 36)) := (Below.refl _ w3).alloc (Nat.le_refl _) _
  have rA := row_newR w3 (.cells #[.string (ba r.out),.string (ba r.kind),.string (ba r.word),.slice p4 r.ins.length cap4] 36)
  have hzA : (w3.alloc (.cells #[.string (ba r.out),.string (ba r.kind),.string (ba r.word),.slice p4 r.ins.length cap4] 36)).heap.size = w3.heap.size + 1 := by simp
  have q0 := cell_of_row (j := 0) rA rfl
  have q1 := cell_of_row (j := 1) rA rfl
  have q2 := cell_of_row (j := 2) rA rfl
  have q3 := cell_of_row (j := 3) rA rfl
  have hownA := (HS3.out.below gA).own
  have rbA : (w3.alloc (.cells #[.string (ba r.out),.string (ba r.kind),.string (ba r.word),.slice p4 r.ins.length cap4] 36)).heap[b]? = some (.cells #[out] 49 (0,0)) := (gA.block b (by omega)).trans r3
  have cbA : (w3.alloc (.cells #[.string (ba r.out),.string (ba r.kind),.string (ba r.word),.slice p4 r.ins.length cap4] 36)).cell? ⟨b,0,none⟩ = some out := cell_of_row (j := 0) rbA rfl
  generalize hwA : w3.alloc (.cells #[.string (ba r.out),.string (ba r.kind),.string (ba r.word),.slice p4 r.ins.length cap4] 36) = wA at *
  have HzA := hid1 hzA
  have hwA1 : n ≤ wA.heap.size := by omega
  have HG3 := hid1 g3
  have HNw := hid1 hrest
  have HBs := hid1 hbase
  have HD := hid1 hdn
  have HrA := hid1 rbA
  have hba : b < wA.heap.size := by omega
  obtain ⟨po,co,eo⟩ := own_sliceR HS3.out.own
  subst eo
  have hbo : ∀ k,(Value.slice po dn.length co).ownBlock = some k → k ≠ b := fun k hk => by have := hlo k hk;omega
  have HBo := hid1 hbo
  clear rA hzA hxi hol HR hsh hrest hbase hdn hrow r3 HSh rbA g3 hnew3 hbo
  go_wp2_with (at_builtin;refine wpList_append_lies _ rfl _ _ 49 rfl n 36 i0 (.agg #[.string ⟨#[]⟩,.string ⟨#[]⟩,.string ⟨#[]⟩,.slice none 0 0]) 4 72 Tryz.underlying49 hi hz0 hz1 hz2 rfl (by decide) (.slice po dn.length co) dn.length (ruCells dn) rfl (hownA.alloc _) ⟨wA.heap.size,0,none⟩ 1 1 [.string (ba r.out),.string (ba r.kind),.string (ba r.word),.slice p4 r.ins.length cap4] rfl rfl (four_new _ _ _ _ _ _ _ rfl) (by simp [Value.oneCell']) (by decide) hml (by omega) (by simp;omega) _ rfl ?_;intro g5 cap5 w5 hown5 hgrow5 hlies5 hlt5;have c5 : w5.cell? ⟨b,0,none⟩ = some (.slice po dn.length co) := cell_of_row (j := 0) (((hgrow5.block b (by simp;omega) (fun e => HBo.out b e.symm rfl)).trans (Below.heap_alloc _ _ _ (by omega))).trans HrA.out) rfl;have f5 : w5.frozen? ⟨b,0,none⟩ = false := by simp [World.frozen?,((hgrow5.block b (by simp;omega) (fun e => HBo.out b e.symm rfl)).trans (Below.heap_alloc _ _ _ (by omega))).trans HrA.out])
  go_wp2
  go_ret
  refine ⟨rfl,?_⟩
  have zA := HzA.out
  have gB : Below w3.heap.size w3 (wA.alloc (.cells #[.string (ba r.out),.string (ba r.kind),.string (ba r.word),.slice p4 r.ins.length cap4] 36)) := gA.alloc (by omega) _
  have hshB := (HS3.out.below gB).next (x := (r,.slice p4 r.ins.length cap4)) (HXo.out.same gB.size fun j _ hj => gB.block j hj) hown5 hgrow5 hlies5
  have hlo5 := row_low4 hown5
  have hng : ∀ j,j < n → some j ≠ (Value.slice po dn.length co).ownBlock := fun j hj e => by have := hlo j e.symm;omega
  have hz5 : (wA.alloc (.cells #[.string (ba r.out),.string (ba r.kind),.string (ba r.word),.slice p4 r.ins.length cap4] 36)).heap.size ≤ w5.heap.size := hgrow5.size
  have hzB : (wA.alloc (.cells #[.string (ba r.out),.string (ba r.kind),.string (ba r.word),.slice p4 r.ins.length cap4] 36)).heap.size = wA.heap.size + 1 := by simp
  have b5 : ∀ j,j < n → w5.heap[j]? = W.heap[j]? := fun j hj => ((hgrow5.block j (by omega) (hng j hj)).trans (gB.block j (by omega))).trans (HG3.out.block j (by omega))
  have r5 : Boxed w5 b 49 (.slice po dn.length co) := ((hgrow5.block b (by omega) (hng b hbn)).trans (Below.heap_alloc _ _ _ hba)).trans HrA.out
  have gW : Below b W w5 := ((HG3.out.mono (by omega)).trans (gB.mono (by omega))).grown hgrow5 (by omega) (fun k e => by have := hlo k e;omega)
  have gX := gW.setCell (p := ⟨b,0,none⟩) (Nat.le_refl _) (.slice (some ⟨g5,0,none⟩) (dn.length + 1) cap5)
  refine ⟨⟨⟨dn ++ [(r,.slice p4 r.ins.length cap4)],_,by rw [List.map_append,HD.out];rfl,r5.set _,?_,fun x hx => ?_⟩,by simp;omega,fun j hj hne => ?_,HBs.out.trans gX⟩,gX⟩
  ·have := hshB.own
   rw [List.length_append] at this
   rw [List.length_append]
   exact ownsRow_setCell_other this (fun e => by have := hlo5 b e;omega) _
  ·refine (hshB.ins x hx).same (by simp) fun j hj _ => Below.heap_setCell _ _ _ _ (by show j ≠ b;have := hj.1;omega)
  ·exact ((Below.heap_setCell _ _ _ _ (show j ≠ b from hne)).trans (b5 j hj)).trans (HNw.out j hj hne)
end Go.Proofs.YtdljhggillgpfaaGreatDoor
namespace Go.Proofs.YtdljhggillgpfaaGreatDoor
open Go.RowKit Go.Shelf Go.Lib
theorem searchS_inv {w : World} {es : Nat → Addr} (B : Nat) (hBw : B ≤ w.heap.size) (v : Value) (l : List (List UInt8)) (hl : l.length ≤ 1000000) (f : Nat) (caps : Array Value) (eg : ∀ args w,(callFunc f args).run Tryz.prog w = .ok (.enter f args) w) (c : Nat → Nat) (J : Nat → World → Prop)
  (HX : Hid (∀ k W,J k W → XRow W v l)) (HJB : Hid (∀ k W,J k W → Below B w W))
  (HS : Hid (∀ k (hk : k < l.length) W,J k W → Calls Tryz.prog f (#[.int .i64 k,.string (ba l[k])] ++ caps) W fun e w' => e = .returned (erOf es (c k)) ∧ (c k = 0 → J (k + 1) w') ∧ Below B W w'))
  (h0 : J 0 w) :
  Calls Tryz.prog 95 #[v,.func (.func f) #[] caps] w fun e w' => ∃ u,e = .returned u ∧ Below B w w' ∧ Told w' es l.length c u ∧ (u = .nilIface → J l.length w') := by
 obtain ⟨p,cap,rfl,hcap,_,hin⟩ := HX.out 0 w h0
 clear hin
 have zl : (l.length : Int) ≤ 1000000 := by omega
 go_enter Tryz.func95,Tryz.ntmps95
 go_wp2
 go_loopw [10] (fun i wr => ∃ k : Nat,k ≤ l.length ∧ i = .int .i64 k ∧ (∀ j,j < k → c j = 0) ∧ J k wr) (fun i _ => l.length - (intOf i).toNat)
 case atStart => exact ⟨0,Nat.zero_le _,rfl,fun j h => by omega,h0⟩
 case round =>
  obtain ⟨k,hk,rfl,hz,hJ⟩ := hrel
  have HZ := hid1 hz
  have HJ := hid1 hJ
  have hB := HJB.out k wr hJ
  clear hz
  have c0 : (0 : Int) ≤ (k : Int) := by omega
  by_cases hlt : k < l.length
  ·have c1 : (k : Int) < (l.length : Int) := by omega
   obtain ⟨p',cap',e',-,-,hin⟩ := HX.out k wr hJ
   obtain ⟨rfl,rfl⟩ : p = p' ∧ cap = cap' := by simpa using e'
   obtain ⟨g',o,rfl,hg,hcur⟩ := hin (by intro e;rw [e] at hlt;simp at hlt)
   have hcell := hcur k hlt
   have HC := HS.out k hlt wr hJ
   clear hcur HX HS hin e' hJ HJ
   generalize l[k] = y at *
   cases hc : c k with
   | zero =>
    rw [hc] at HC
    simp only [erOf] at HC
    have HN : Hid (∀ j,j < k + 1 → c j = 0) := hid1 fun j hj => by
     rcases Nat.lt_or_ge j k with h | h
     ·exact HZ.out j h
     ·obtain rfl : j = k := by omega
      exact hc
    clear hc HZ
    go_wp2_with fail
    refine Calls.mono HC ?_
    rintro e w1 ⟨rfl,hj1,hb1⟩
    have HJ1 := hid1 (hj1 trivial)
    clear HC hj1
    go_wp2
    exact ⟨⟨k + 1,by omega,by go_num,HN.out,HJ1.out⟩,by simp [intOf];omega⟩
   | succ m =>
    rw [hc] at HC
    have HE := hid1 hc
    clear hc
    simp only [erOf] at HC
    go_wp2_with fail
    refine Calls.mono HC ?_
    rintro e w1 ⟨rfl,-,hb1⟩
    clear HC
    have hB1 := hB.trans hb1
    go_wp2
    go_ret
    refine ⟨_,rfl,hB1.alloc (by have := hB1.size;omega) _,.inr ⟨k,w1.heap.size,hlt,by rw [HE.out];omega,HZ.out,rfl,?_,?_⟩,fun h => by cases h⟩
    ·simp
    ·rw [HE.out]
     simp [erOf]
  ·have c1 : (l.length : Int) ≤ (k : Int) := by omega
   have HN : Hid (∀ j,j < l.length → c j = 0) := hid1 fun j hj => HZ.out j (by omega)
   obtain rfl : k = l.length := by omega
   clear HX HS HZ
   go_wp2
   go_ret
   exact ⟨_,rfl,hB,.inl ⟨HN.out,rfl⟩,fun _ => HJ.out⟩
end Go.Proofs.YtdljhggillgpfaaGreatDoor
