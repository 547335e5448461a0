import Derived.Test.YthchjnopgagilaaGreatDoorPA46
import Derived.Test.YthchjnopgagilaaGreatDoorPA47
import Derived.Orders
import Derived.Tactics
set_option maxRecDepth 100000
set_option maxHeartbeats 8000000
namespace Go.Proofs.YthchjnopgagilaaGreatDoor
open Go.RowKit Go.Shelf Go.Lib
variable {es : Nat → Addr} {At : (Nat → Prop) → World → Value → Nat → Cf.Ens → Prop} {BAt : (Nat → Prop) → World → Value → Value → Bf.Bd → Prop}
namespace Pl
noncomputable def sum (y : Bf.Yd) : List UInt8 := Tf.textT y.os ++ [10] ++ Lib.join (Bf.stale y.fs y.os y.l) [32]
theorem join_few : ∀ {ls : List (List UInt8)},(∀ x ∈ ls,x.length ≤ 100) → (Lib.join ls [32]).length ≤ 101 * ls.length
 | [],_ => by simp [Lib.join]
 | [x],h => by
  have := h x (by simp)
  simp [Lib.join,List.intercalate]
  omega
 | x :: y :: r,h => by
  have h1 := h x (by simp)
  have h2 := join_few (ls := y :: r) fun z hz => h z (List.mem_cons_of_mem _ hz)
  have e : Lib.join (x :: y :: r) [32] = x ++ ([32] ++ Lib.join (y :: r) [32]) := by simp [Lib.join,List.intercalate]
  rw [e]
  simp only [List.length_append,List.length_cons,List.length_nil] at h2 ⊢
  omega
theorem stale_few {fs os : Tf.Fs} {l : List Ru} (hl : l.length ≤ 40) (hs : ∀ x ∈ l,x.out.length ≤ 100) : (Bf.stale fs os l).length ≤ 40 ∧ ∀ x ∈ Bf.stale fs os l,x.length ≤ 100 := by
 unfold Bf.stale
 refine ⟨?_,fun x hx => ?_⟩
 ·rw [Af.srt_len]
  have := List.length_filter_le (Bf.off fs os l) (l.map Ru.out)
  rw [List.length_map] at this
  omega
 ·have h1 := (Af.srt_perm _).mem_iff.1 hx
  obtain ⟨z,hz,rfl⟩ := List.mem_map.1 (List.mem_filter.1 h1).1
  exact hs z hz
end Pl
theorem join_row {W : World} {B : Nat} {v : Value} {ls : List (List UInt8)} (h : HRow B W v ls) (hn : ls.length ≤ 40) (hx : ∀ x ∈ ls,x.length ≤ 100) :
  Calls Tryz.prog 163 #[v,.string (ba [32])] W fun e w' => e = .returned (.string (ba (Lib.join ls [32]))) ∧ Below W.heap.size W w' := by
 have hj := Pl.join_few hx
 rcases h with ⟨rfl,rfl⟩ | ⟨g,cap,rfl,hB,hg,hcap,hH⟩
 ·refine (Any.strings_Join_none Tryz.lays156 Tryz.Builder_Extra_156 none 0 (ba [32]) W).mono ?_
  rintro e w' ⟨rfl,rfl⟩
  exact ⟨rfl,Below.refl _ _⟩
 ·have hc := (show CRow W (.slice (some ⟨g,0,none⟩) ls.length cap) ls from HRow.cells (B := B) (.inr ⟨g,cap,rfl,hB,hg,hcap,hH⟩))
  obtain ⟨p,c,e,hin⟩ := hc
  simp only [Value.slice.injEq,true_and] at e
  obtain ⟨rfl,rfl⟩ := e
  have := Tryz.strings_Join g 0 cap (ls.map ba) (ba [32]) W (fun j x hj => by
   have hjl : j < ls.length := by simpa using (List.getElem?_eq_some_iff.1 hj).1
   rw [List.getElem?_map,List.getElem?_eq_getElem hjl] at hj
   simp at hj
   obtain ⟨g2,e2,_,hc2⟩ := hin j hjl
   cases e2
   rw [Nat.zero_add,← hj]
   exact hc2) hg (by simp;omega) (by simpa using hcap) (by rw [join_list];show (Lib.join ls [32]).length ≤ _;omega)
  rw [join_list,List.length_map] at this
  exact this
theorem plSum_calls (HC : Caches0 es At) {B : Nat} {W : World} {yb : Nat} {L : YL} {y : Bf.Yd} (h : YdAt At B W yb L y) (hY : PBase B W es) (hf : Bf.YFine Pl.l 8 y) :
  Calls Tryz.prog 94 #[Ptr yb] W fun e w' => e = .returned (.string (ba (Pl.sum y))) ∧ Below W.heap.size W w' := by
 have hBW : B ≤ W.heap.size := by have := h.low;have := h.lt;omega
 have HO := hid1 (yOut_calls h)
 have HT := hid1 (text_fine h.o hY.y.want.g.s.a.aw.pow hf.os)
 have HSt := hid1 fun (V : World) (g : Below W.heap.size W V) => yStaleH_calls HC (h.below HC g) (hY.y.trans (g.mono hBW)).want hf.fs (by rw [hf.hl];exact Pl.sheet)
 have HF := hid1 (Pl.stale_few (fs := y.fs) (os := y.os) (l := y.l) (by rw [hf.hl];decide) (by rw [hf.hl];intro x hx;have := (Pl.small x hx).out;omega))
 have htl : (Tf.textT y.os).length ≤ 240000 := by
  have h1 := textT_len (fs := y.os) fun f hf' => ⟨by have := well_len hf.os f hf';omega,(hf.os.each f hf').2⟩
  have := hf.os.few
  omega
 have hjl : (Lib.join (Bf.stale y.fs y.os y.l) [32]).length ≤ 10000 := by
  have := Pl.join_few HF.out.2
  have := HF.out.1
  omega
 have hs : Pl.sum y = Tf.textT y.os ++ [10] ++ Lib.join (Bf.stale y.fs y.os y.l) [32] := rfl
 rw [hs]
 clear h hY hf HC hs
 generalize Tf.textT y.os = tx at *
 generalize Bf.stale y.fs y.os y.l = st at *
 have z1 : (ba tx).size = tx.length := ba_size _
 have z2 : (ba (Lib.join st [32])).size = (Lib.join st [32]).length := ba_size _
 go_enter Tryz.func94,Tryz.ntmps94
 go_wp2_with fail
 refine HO.out.mono ?_
 rintro e w1 ⟨rfl,rfl⟩
 go_wp2_with fail
 refine HT.out.mono ?_
 rintro e w2 ⟨rfl,g2⟩
 have HS2 := hid1 (HSt.out w2 g2)
 clear HT HSt HO
 go_wp2_with fail
 refine HS2.out.mono ?_
 rintro e w3 ⟨u,rfl,⟨B',hu⟩,g3⟩
 have HJ := hid1 (join_row hu HF.out.1 HF.out.2)
 have G3 := below_then g2 g3
 have hus : ∃ p n c,u = .slice p n c := by
  rcases hu with ⟨_,rfl⟩ | ⟨g,cap,rfl,_⟩
  ·exact ⟨_,_,_,rfl⟩
  ·exact ⟨_,_,_,rfl⟩
 obtain ⟨p,n,c,rfl⟩ := hus
 clear HS2 hu
 go_wp2_with fail
 refine HJ.out.mono ?_
 rintro e w4 ⟨rfl,g4⟩
 have G4 := below_then G3 g4
 clear HJ
 go_wp2
 go_ret
 have e1 : ba tx ++ (⟨#[10]⟩ : ByteArray) ++ ba (Lib.join st [32]) = ba (tx ++ [10] ++ Lib.join st [32]) := by rw [show (⟨#[10]⟩ : ByteArray) = ba [10] from rfl,ba_cat,ba_cat]
 exact ⟨by rw [← e1];rfl,G4⟩
end Go.Proofs.YthchjnopgagilaaGreatDoor
namespace Go.Proofs.YthchjnopgagilaaGreatDoor
open Go
section
variable {P : Program} {ops : Array Oper} {Q : Exit → Act → World → Prop} {md : Region.Mode}
def flags (L : Array Bool) : Nat → Bool := fun j => L.getD j false
def setF (F : Nat → Bool) (i : Nat) : Nat → Bool := fun j => if j = i then true else F j
theorem flags_set {L : Array Bool} {i : Nat} (hi : i < L.size) : flags (L.setIfInBounds i true) = setF (flags L) i := by
 funext j
 unfold flags setF
 by_cases e : j = i
 ·subst e
  rw [if_pos rfl,Array.getD_eq_getD_getElem?,Array.getElem?_setIfInBounds_self_of_lt hi]
  rfl
 ·rw [if_neg e,Array.getD_eq_getD_getElem?,Array.getElem?_setIfInBounds_ne (fun x => e x.symm)]
  exact (Array.getD_eq_getD_getElem? ..).symm
def unl (F : Nat → Bool) : Nat → Nat
 | 0 => 0
 | n + 1 => unl F n + (if F n = true then 0 else 1)
theorem unl_set {F : Nat → Bool} {i : Nat} : ∀ {n : Nat},i < n → F i = false → unl (setF F i) n + 1 = unl F n
 | 0,h,_ => by omega
 | n + 1,h,hf => by
  unfold unl
  by_cases e : i = n
  ·subst e
   have : ∀ m,m ≤ i → unl (setF F i) m = unl F m := by
    intro m
    induction m with
    | zero => intro _;rfl
    | succ m ih =>
     intro hm
     unfold unl
     rw [ih (by omega)]
     have : setF F i m = F m := by unfold setF;rw [if_neg (by omega)]
     rw [this]
   rw [this i (Nat.le_refl _),hf]
   have : setF F i i = true := by unfold setF;rw [if_pos rfl]
   rw [this]
   simp
  ·have ih := unl_set (n := n) (by omega) hf
   have : setF F i n = F n := by unfold setF;rw [if_neg fun x => e x.symm]
   rw [this]
   omega
theorem unl_zero {F : Nat → Bool} : ∀ {n : Nat},unl F n = 0 → ∀ i,i < n → F i = true
 | 0,_,i,hi => by omega
 | n + 1,h,i,hi => by
  unfold unl at h
  by_cases e : i = n
  ·subst e
   cases hf : F i with
   | true => rfl
   | false => rw [hf] at h;simp at h
  ·exact unl_zero (n := n) (by omega) i (by omega)
theorem wpAny_inv {n : Nat} (hn : ops.size = n) (hdag : ∀ (i : Nat) (o : Oper),ops[i]? = some o → ∀ e ∈ o.after.toList,e.on < i) (I : (Nat → Bool) → Act → World → Prop)
  (hstep : ∀ F a w (i : Nat) (o : Oper),ops[i]? = some o → I F a w → F i = false → (∀ e ∈ o.after.toList,Region.binds md e = true → F e.on = true) → wpOp P ops Q i (fun a' w' => I (setF F i) a' w') a w)
  (hend : ∀ F a w,I F a w → (∀ i,i < n → F i = true) → Q .normal a w) :
  ∀ (fuel : Nat) (L : Array Bool) (a : Act) (w : World),L.size = n → unl (flags L) n ≤ fuel → I (flags L) a w → wpAny P md ops Q fuel L a w := by
 have hready : ∀ (L : Array Bool),L.size = n → Region.ready md ops L = [] → ∀ i,i < n → flags L i = true := by
  intro L hL h i
  induction i using Nat.strongRecOn with
  | _ i ih =>
   intro hi
   cases hf : flags L i with
   | true => rfl
   | false =>
    exfalso
    have hm : i ∈ Region.ready md ops L := by
     unfold Region.ready
     rw [List.mem_filter,List.mem_range]
     refine ⟨by omega,?_⟩
     have hl : L.getD i true = false := by
      unfold flags at hf
      rw [Array.getD_eq_getD_getElem?,Array.getElem?_eq_getElem (by omega)] at hf ⊢
      simpa using hf
     obtain ⟨o,ho⟩ : ∃ o,ops[i]? = some o := ⟨_,Array.getElem?_eq_getElem (by omega)⟩
     rw [hl,ho]
     simp only [Bool.not_false,Bool.true_and,Option.map_some,Option.getD_some]
     rw [Array.all_eq_true_iff_forall_mem]
     intro e he
     have hlt := hdag i o ho e (by simpa using he)
     have := ih e.on hlt (by omega)
     unfold flags at this
     rw [this]
     simp
    rw [h] at hm
    cases hm
 intro fuel
 induction fuel with
 | zero =>
  intro L a w hL hu hI
  have hall := unl_zero (F := flags L) (n := n) (by omega)
  refine ⟨?_,hend _ a w hI hall⟩
  unfold Region.ready
  rw [List.filter_eq_nil_iff]
  intro i hi
  have := hall i (by have := List.mem_range.1 hi;omega)
  have hl : L.getD i true = true := by
   unfold flags at this
   rw [Array.getD_eq_getD_getElem?] at this ⊢
   cases hx : L[i]? with
   | none => rfl
   | some b => rw [hx] at this;simpa using this
  rw [hl]
  simp
 | succ fuel ih =>
  intro L a w hL hu hI
  refine ⟨fun h => hend _ a w hI (hready L hL h),fun i hi => ?_⟩
  unfold Region.ready at hi
  rw [List.mem_filter,List.mem_range] at hi
  obtain ⟨hlt,hp⟩ := hi
  rw [Bool.and_eq_true] at hp
  obtain ⟨h1,h2⟩ := hp
  have hl : flags L i = false := by
   unfold flags
   rw [Array.getD_eq_getD_getElem?] at h1 ⊢
   rw [Array.getElem?_eq_getElem (by omega)] at h1 ⊢
   simpa using h1
  obtain ⟨o,ho⟩ : ∃ o,ops[i]? = some o := ⟨_,Array.getElem?_eq_getElem hlt⟩
  rw [ho] at h2
  simp only [Option.map_some,Option.getD_some] at h2
  rw [Array.all_eq_true_iff_forall_mem] at h2
  refine wpOp_mono (fun a' w' h' => ih _ a' w' (by simpa using hL) ?_ ?_) (hstep (flags L) a w i o ho hI hl fun e he hb => ?_)
  ·have := unl_set (F := flags L) (i := i) (n := n) (by omega) hl
   rw [flags_set (by omega)]
   omega
  ·rw [flags_set (by omega)]
   exact h'
  ·have := h2 e (by simpa using he)
   rw [hb] at this
   simpa [flags] using this
end
end Go.Proofs.YthchjnopgagilaaGreatDoor
namespace Go.Proofs.YthchjnopgagilaaGreatDoor
open Go
section
variable {P : Program} {ops : Array Oper} {Q : Exit → Act → World → Prop} {md : Region.Mode}
def valAt (l : List Value) (i : Nat) : Value := l.getD i undef
def wantV (l : List Value) (o : Oper) : Bool :=
 match o.guard with
 | none => true
 | some (j,b) => match valAt l j with
  | .bool c => c == b
  | _ => false
inductive Does (P : Program) (K : World → Prop) (l : List Value) (o : Oper) (i : Nat) (a : Act) (w : World) : Prop
 | no (h : wantV l o = false) (hv : valAt l i = undef)
 | val (h : wantV l o = true) (hv : (execOp a.eval o).run P w = .ok (.value (valAt l i)) w)
 | call (f : Nat) (args : Array Value) (h : wantV l o = true) (hv : (execOp a.eval o).run P w = .ok (.enter f args) w) (hc : Calls P f args w fun e w' => e = .returned (valAt l i) ∧ K w')
def layL : List Value → Nat → List Value → List Value
 | [],_,_ => []
 | x :: t,0,[] => x :: t
 | _ :: t,0,v :: l => v :: layL t 0 l
 | x :: t,b + 1,l => x :: layL t b l
def lays (t : Array Value) (b : Nat) (l : List Value) : Array Value := ⟨layL t.toList b l⟩
theorem layL_len : ∀ (t : List Value) (b : Nat) (l : List Value),(layL t b l).length = t.length
 | [],_,_ => by unfold layL;rfl
 | x :: t,0,[] => by unfold layL;rfl
 | x :: t,0,v :: l => by
  unfold layL
  rw [List.length_cons,List.length_cons,layL_len t 0 l]
 | x :: t,b + 1,l => by
  unfold layL
  rw [List.length_cons,List.length_cons,layL_len t b l]
theorem lays_size (l : List Value) (t : Array Value) (b : Nat) : (lays t b l).size = t.size := layL_len t.toList b l
theorem layL_get : ∀ (t : List Value) (b : Nat) (l : List Value) (j : Nat),j < t.length → (layL t b l)[j]? = if b ≤ j ∧ j < b + l.length then l[j - b]? else t[j]?
 | [],b,l,j,h => absurd h (Nat.not_lt_zero _)
 | x :: t,0,[],j,h => by
  unfold layL
  rw [if_neg (by simp only [List.length_nil];omega)]
 | x :: t,0,v :: l,0,h => by
  unfold layL
  rw [if_pos (by simp only [List.length_cons];omega)]
  rfl
 | x :: t,0,v :: l,j + 1,h => by
  unfold layL
  rw [List.getElem?_cons_succ,layL_get t 0 l j (by simpa using h)]
  by_cases c : 0 ≤ j ∧ j < 0 + l.length
  ·rw [if_pos c,if_pos (by simp only [List.length_cons];omega)]
   rfl
  ·rw [if_neg c,if_neg (by simp only [List.length_cons];omega)]
   rfl
 | x :: t,b + 1,l,0,h => by
  unfold layL
  rw [if_neg (by omega)]
  rfl
 | x :: t,b + 1,l,j + 1,h => by
  unfold layL
  rw [List.getElem?_cons_succ,layL_get t b l j (by simpa using h)]
  by_cases c : b ≤ j ∧ j < b + l.length
  ·rw [if_pos c,if_pos (by omega),show j + 1 - (b + 1) = j - b by omega]
  ·rw [if_neg c,if_neg (by omega)]
   rfl
theorem lays_get (l : List Value) (t : Array Value) (b j : Nat) (hj : j < t.size) : (lays t b l)[j]? = if b ≤ j ∧ j < b + l.length then l[j - b]? else t[j]? := by
 have := layL_get t.toList b l j hj
 rw [Array.getElem?_toList (xs := t)] at this
 rw [← this,← Array.getElem?_toList]
 rfl
theorem ev_putSame {a : Act} {i : Nat} {v : Value} (h : i < a.tmps.size) : (a.put (some i) v).eval (.tmp i) = v := by
 simp [Act.put,Act.eval,Array.getD_eq_getD_getElem?,h]
theorem ev_putOther {a : Act} {i j : Nat} {v : Value} (h : j ≠ i) : (a.put (some i) v).eval (.tmp j) = a.eval (.tmp j) := by
 have h' : i ≠ j := fun e => h e.symm
 simp [Act.put,Act.eval,Array.getD_eq_getD_getElem?,h']
theorem wanted_val {l : List Value} {o : Oper} {a : Act} {b : Nat} (hj : ∀ j c,o.guard = some (j,c) → (ops[j]?).bind (·.dst) = some (b + j) ∧ b + j < a.tmps.size ∧ a.eval (.tmp (b + j)) = valAt l j) : Region.wanted o (yielded ops a.tmps) = wantV l o := by
 unfold Region.wanted wantV
 cases hg : o.guard with
 | none => rfl
 | some jc =>
  obtain ⟨j,c⟩ := jc
  obtain ⟨h1,h2,h3⟩ := hj j c hg
  have h4 : a.tmps[b + j]? = some (valAt l j) := by
   simp only [Act.eval,Array.getD_eq_getD_getElem?,Array.getElem?_eq_getElem h2,Option.getD_some] at h3
   rw [Array.getElem?_eq_getElem h2,h3]
  simp only [yielded,h1,Option.bind_some,h4]
  cases valAt l j <;> simp
def shaped (md : Region.Mode) (b : Nat) (ops : Array Oper) : Bool :=
 (List.range ops.size).all fun i => match ops[i]? with
  | none => true
  | some o => o.dst == some (b + i) && o.after.all (fun e => Nat.blt e.on i) && (match o.guard with
   | none => true
   | some (j,_) => o.after.toList.any fun e => e.on == j && Region.binds md e)
theorem shaped_spec {b : Nat} (h : shaped md b ops = true) (i : Nat) (o : Oper) (ho : ops[i]? = some o) : o.dst = some (b + i) ∧ (∀ e ∈ o.after.toList,e.on < i) ∧ ∀ j c,o.guard = some (j,c) → (o.after.toList.any fun e => e.on == j && Region.binds md e) = true := by
 unfold shaped at h
 rw [List.all_eq_true] at h
 have hi : i < ops.size := by
  by_cases hx : i < ops.size
  ·exact hx
  ·rw [Array.getElem?_eq_none (by omega)] at ho
   cases ho
 have := h i (List.mem_range.2 hi)
 rw [ho] at this
 simp only [Bool.and_eq_true,beq_iff_eq] at this
 obtain ⟨⟨h1,h2⟩,h3⟩ := this
 refine ⟨h1,fun e he => ?_,fun j c hg => ?_⟩
 ·rw [Array.all_eq_true_iff_forall_mem] at h2
  exact Nat.blt_eq ▸ h2 e (by simpa using he)
 ·rw [hg] at h3
  exact h3
theorem wpAny_det (b : Nat) (l : List Value) (K : World → Prop) {a0 : Act} {w0 : World} {L : Array Bool} (hL : L = Array.replicate ops.size false) (hn : ops.size = l.length) (hb : b + l.length ≤ a0.tmps.size)
  (hshaped : shaped md b ops = true)
  (hstep : ∀ (i : Nat) (o : Oper) (a : Act) (w : World),ops[i]? = some o → K w → (∀ s,s < b → a.eval (.tmp s) = a0.eval (.tmp s)) → (∀ j,(o.after.toList.any fun e => e.on == j && Region.binds md e) = true → a.eval (.tmp (b + j)) = valAt l j) → Does P K l o i a w)
  (hK : K w0) (hend : ∀ w,K w → Q .normal { tmps := lays a0.tmps b l,defers := a0.defers } w) :
  wpAny P md ops Q ops.size L a0 w0 := by
 have hshape := shaped_spec hshaped
 have hlt : ∀ {i : Nat} {o : Oper},ops[i]? = some o → i < l.length := fun {i o} h => by
  rw [← hn]
  by_cases hx : i < ops.size
  ·exact hx
  ·rw [Array.getElem?_eq_none (by omega)] at h
   cases h
 have hl0 : flags L = fun _ => false := by
  funext j
  rw [hL]
  unfold flags
  rw [Array.getD_eq_getD_getElem?,Array.getElem?_replicate]
  split <;> rfl
 refine wpAny_inv (n := ops.size) rfl (fun i o ho => (hshape i o ho).2.1) (fun F a w => a.tmps.size = a0.tmps.size ∧ a.defers = a0.defers ∧ (∀ s,s < b ∨ b + l.length ≤ s → a.eval (.tmp s) = a0.eval (.tmp s)) ∧ (∀ i,i < l.length → F i = true → a.eval (.tmp (b + i)) = valAt l i) ∧ K w) ?_ ?_ _ _ _ _ (by rw [hL];simp) ?_ ⟨rfl,rfl,fun _ _ => rfl,fun i _ hf => (by rw [hl0] at hf;cases hf),hK⟩
 ·rintro F a w i o ho ⟨hs,hd,hbase,hval,hk⟩ hf hedge
  have hi := hlt ho
  obtain ⟨h1,h2,h3⟩ := hshape i o ho
  have hE : ∀ j,(o.after.toList.any fun e => e.on == j && Region.binds md e) = true → j < i ∧ a.eval (.tmp (b + j)) = valAt l j := by
   intro j hj
   rw [List.any_eq_true] at hj
   obtain ⟨e,he,hje⟩ := hj
   rw [Bool.and_eq_true,beq_iff_eq] at hje
   have hlj := h2 e he
   rw [← hje.1]
   exact ⟨hlj,hval _ (by omega) (hedge e he hje.2)⟩
  have hput : ∀ (v : Value) (w' : World),v = valAt l i → K w' → (fun (a' : Act) (w' : World) => a'.tmps.size = a0.tmps.size ∧ a'.defers = a0.defers ∧ (∀ s,s < b ∨ b + l.length ≤ s → a'.eval (.tmp s) = a0.eval (.tmp s)) ∧ (∀ j,j < l.length → setF F i j = true → a'.eval (.tmp (b + j)) = valAt l j) ∧ K w') (a.put o.dst v) w' := by
   intro v w' hv hk'
   rw [h1]
   refine ⟨by simpa [Act.put] using hs,by simpa [Act.put] using hd,fun s hs' => ?_,fun j hj hfj => ?_,hk'⟩
   ·rw [ev_putOther (by omega)]
    exact hbase s hs'
   ·by_cases e : j = i
    ·subst e
     rw [ev_putSame (by omega),hv]
    ·rw [ev_putOther (by omega)]
     unfold setF at hfj
     rw [if_neg e] at hfj
     exact hval j hj hfj
  have hw : Region.wanted o (yielded ops a.tmps) = wantV l o := wanted_val (b := b) fun j c hg => by
   obtain ⟨hji,hv⟩ := hE j (h3 j c hg)
   obtain ⟨oj,hoj⟩ : ∃ oj,ops[j]? = some oj := ⟨_,Array.getElem?_eq_getElem (by omega)⟩
   refine ⟨by rw [hoj];exact (hshape j oj hoj).1,by omega,hv⟩
  unfold wpOp
  rw [ho]
  simp only [hw]
  cases hstep i o a w ho hk (fun s hs' => hbase s (.inl hs')) (fun j hj => (hE j hj).2) with
  | no h hv =>
   rw [h,if_neg (by simp)]
   exact hput undef w hv.symm hk
  | val h hv =>
   rw [h,if_pos rfl]
   refine .inl ?_
   unfold Oper.wp
   rw [hv]
   exact hput _ w rfl hk
  | call f args h hv hc =>
   rw [h,if_pos rfl]
   refine .inl ?_
   unfold Oper.wp
   rw [hv]
   refine Calls.mono hc ?_
   rintro e w' ⟨rfl,hk'⟩
   exact hput _ w' rfl hk'
 ·rintro F a w ⟨hs,hd,hbase,hval,hk⟩ hall
  have : a = { tmps := lays a0.tmps b l,defers := a0.defers } := by
   obtain ⟨t,df⟩ := a
   simp only at hs hd
   subst hd
   congr 1
   refine Array.ext_getElem? fun j => ?_
   by_cases hj : j < a0.tmps.size
   ·have hjt : j < t.size := by omega
    rw [lays_get _ _ _ _ hj]
    by_cases hm : b ≤ j ∧ j < b + l.length
    ·rw [if_pos hm]
     have := hval (j - b) (by omega) (hall _ (by omega))
     rw [show b + (j - b) = j by omega] at this
     simp only [Act.eval,Array.getD_eq_getD_getElem?,Array.getElem?_eq_getElem hjt,Option.getD_some,valAt,List.getD_eq_getElem?_getD,List.getElem?_eq_getElem (show j - b < l.length by omega)] at this
     rw [Array.getElem?_eq_getElem hjt,this,List.getElem?_eq_getElem (show j - b < l.length by omega)]
    ·rw [if_neg hm]
     have := hbase j (by omega)
     simp only [Act.eval,Array.getD_eq_getD_getElem?,Array.getElem?_eq_getElem hjt,Array.getElem?_eq_getElem hj,Option.getD_some] at this
     rw [Array.getElem?_eq_getElem hjt,Array.getElem?_eq_getElem hj,this]
   ·rw [Array.getElem?_eq_none (by omega),Array.getElem?_eq_none (by rw [lays_size];omega)]
  rw [this]
  exact hend w hk
 ·rw [hl0]
  refine (?_ : ∀ m,unl (fun _ => false) m ≤ m) _
  intro m
  induction m with
  | zero => exact Nat.le_refl _
  | succ m ih =>
   unfold unl
   simp only [Bool.false_eq_true,if_false]
   omega
end
end Go.Proofs.YthchjnopgagilaaGreatDoor
namespace Go.Proofs.YthchjnopgagilaaGreatDoor
open Go.RowKit Go.Shelf Go.Lib
theorem SameTexts_any {w : World} (a b : Value) (la lb : List (List UInt8)) (ha : IRow w a la) (hb : IRow w b lb) (hl : la.length ≤ 1000) (hl2 : lb.length ≤ 1000) :
  Calls Tryz.prog 28 #[a,b] w fun e w' => e = .returned (.bool (decide (la = lb))) ∧ ∃ q,w' = w.drewN q := by
 obtain ⟨pa,ca,rfl,ha⟩ := ha
 obtain ⟨pb,cb,rfl,hb⟩ := hb
 have HA := hid1 ha
 have HB := hid1 hb
 clear ha hb
 have zl : (la.length : Int) ≤ 1000 := by omega
 have zl2 : (lb.length : Int) ≤ 1000 := by omega
 by_cases hlen : la.length = lb.length
 ·have HEq : Hid (∀ k,la.length ≤ k → la.take k = lb.take k → decide (la = lb) = true) := hid1 fun k hk h => by
   rw [List.take_of_length_le hk,List.take_of_length_le (by omega)] at h
   simpa using h
  have HNe : Hid (∀ k (h1 : k < la.length) (h2 : k < lb.length),la[k] ≠ lb[k] → decide (la = lb) = false) := hid1 fun k h1 h2 h => by
   rw [decide_eq_false_iff_not]
   rintro rfl
   exact h rfl
  generalize decide (la = lb) = dd at *
  rw [← hlen]
  have HLen := hid1 hlen
  clear hlen
  go_enter Tryz.func28,Tryz.ntmps28
  go_wp2
  go_loopw [5] (fun i wr => ∃ k : Nat,k ≤ la.length ∧ i = .int .i64 k ∧ la.take k = lb.take k ∧ ∃ q,wr = w.drewN q) (fun i _ => la.length - (intOf i).toNat)
  case atStart => exact ⟨0,Nat.zero_le _,rfl,by simp,0,rfl⟩
  case round =>
   obtain ⟨k,hk,rfl,ht,q,rfl⟩ := hrel
   have HT := hid1 ht
   clear ht
   have c0 : (0 : Int) ≤ (k : Int) := by omega
   by_cases hlt : k < la.length
   ·have c1 : (k : Int) < (la.length : Int) := by omega
    have hlt2 : k < lb.length := by rw [← HLen.out];exact hlt
    obtain ⟨ga,oa,rfl,_,h1⟩ := HA.out (by intro e;rw [e] at hlt;simp at hlt)
    obtain ⟨gb,ob,rfl,_,h2⟩ := HB.out (by intro e;rw [e] at hlt2;simp at hlt2)
    have d1 := h1 k hlt
    have d2 := h2 k hlt2
    have HS : Hid (la[k] = lb[k] → la.take (k + 1) = lb.take (k + 1)) := hid1 fun h => by
     rw [List.take_succ_eq_append_getElem hlt,List.take_succ_eq_append_getElem hlt2,HT.out,h]
    have HN := hid1 (HNe.out k hlt hlt2)
    clear h1 h2 HA HB HNe
    generalize la[k] = x at *
    generalize lb[k] = y at *
    by_cases he : x = y
    ·subst he
     have HSS := hid1 (HS.out rfl)
     clear HS HN
     go_wp2
     go_region
     go_wp2
     exact ⟨⟨k + 1,by omega,by go_num,HSS.out,q + 1,rfl⟩,by simp [intOf];omega⟩
    ·have e1 : (x == y) = false := by simpa using he
     have e2 := HN.out he
     subst e2
     clear HS HN
     go_wp2
     go_region
     go_wp2
     go_ret
     exact ⟨rfl,q + 1,rfl⟩
   ·have c1 : (la.length : Int) ≤ (k : Int) := by omega
    have e2 := HEq.out k (by omega) HT.out
    subst e2
    clear HA HB HT HEq HNe
    go_wp2
    go_ret
    exact ⟨rfl,q,rfl⟩
 ·have e1 : decide (la = lb) = false := by
   rw [decide_eq_false_iff_not]
   rintro rfl
   exact hlen rfl
  have e2 : ((la.length : Int) == (lb.length : Int)) = false := by simp;omega
  rw [e1]
  clear HA HB e1
  go_enter Tryz.func28,Tryz.ntmps28
  go_wp2
  go_ret
  exact ⟨rfl,0,rfl⟩
end Go.Proofs.YthchjnopgagilaaGreatDoor
