import Derived.Test.YthchjnopgagilaaGreatDoorPA35
set_option maxRecDepth 100000
set_option maxHeartbeats 16000000
namespace Go.Proofs.YthchjnopgagilaaGreatDoor
open Go.RowKit Go.Shelf Go.Lib Go.Maps
open Tf (Fs)
open Go.Sort (grow)
theorem get_at {fs : Fs} (hr : Tf.Rises fs) {k : Nat} (hk : k < fs.length) : Tf.get fs fs[k].1 = some fs[k].2 := by
 unfold Tf.get
 have : fs.find? (fun f => f.1 == fs[k].1) = some fs[k] := by
  rw [List.find?_eq_some_iff_getElem]
  refine ⟨by simp,k,hk,rfl,fun j hj => ?_⟩
  have h1 := List.pairwise_iff_getElem.1 hr j k (by omega) hk hj
  simp only [Bool.not_eq_true',beq_eq_false_iff_ne]
  intro e
  rw [e,WideAt.bytes_irrefl] at h1
  cases h1
 rw [this]
 rfl
theorem textT_take {fs : Fs} {k : Nat} (hk : k < fs.length) : Tf.textT (fs.take (k + 1)) = Tf.textT (fs.take k) ++ Tf.entryT fs[k] := by
 unfold Tf.textT
 rw [List.take_succ_eq_append_getElem hk,List.flatMap_append,List.flatMap_cons,List.flatMap_nil,List.append_nil]
theorem textT_len {fs : Fs} (h : ∀ f ∈ fs,f.1.length ≤ 1000 ∧ f.2.length ≤ 2000) : (Tf.textT fs).length ≤ fs.length * 4000 := by
 unfold Tf.textT
 induction fs with
 | nil => simp
 | cons f r ih =>
  have h1 := h f (by simp)
  have h2 := ih fun g hg => h g (List.mem_cons_of_mem _ hg)
  have h3 := digits_len f.2.length (by omega)
  simp [Tf.entryT] at *
  omega
theorem Text_calls {B : Nat} {w : World} {tb : Nat} {fs : Fs} {o : Option Nat} (h : TreeAt B w tb fs o) (hP : Pow w) (hr : Tf.Rises fs) (hn : fs.length ≤ 1000) (hsz : ∀ f ∈ fs,f.1.length ≤ 1000 ∧ f.2.length ≤ 2000) :
  Calls Tryz.prog 19 #[Ptr tb] w fun e w' => e = .returned (.string (ba (Tf.textT fs))) ∧ Below w.heap.size w w' := by
 have g0 : Below w.heap.size w (w.alloc (.cells #[.pointer none,.slice none 0 0] 163)) := (Below.refl _ w).alloc (Nat.le_refl _) _
 have b0 : Lib.IsBuilderF 163 5 w.heap.size w.heap.size [] (w.alloc (.cells #[.pointer none,.slice none 0 0] 163)) := Lib.IsBuilderF.of (Lib.fresh_isBuilder 163 5 w)
 have HP : Hid (Calls Tryz.prog 31 #[Ptr tb] (w.alloc (.cells #[.pointer none,.slice none 0 0] 163)) fun e w' => ∃ v,e = .returned v ∧ TRow w' v (fs.map (·.1)) ∧ Below (w.alloc (.cells #[.pointer none,.slice none 0 0] 163)).heap.size (w.alloc (.cells #[.pointer none,.slice none 0 0] 163)) w') :=
  (Paths_calls (h.below g0) hr hn).mono fun e w' ⟨v,h1,h2,h3⟩ => ⟨v,h1,TRow.of_owns h2,h3⟩
 have HG : Hid (∀ k (hk : k < fs.length) W,Below w.heap.size w W → Calls Tryz.prog 29 #[Ptr tb,.string (ba fs[k].1)] W fun e w' => e = .returned (.tuple #[.string (ba fs[k].2),.bool (Tf.hasP fs fs[k].1)]) ∧ Below W.heap.size W w') := fun k hk W hW => by
  have := Get_calls (h.below hW) fs[k].1 (by have := (hsz _ (List.getElem_mem hk)).1;omega)
  rw [get_at hr hk] at this
  exact this
 have HI : Hid (∀ (n : Nat) W,n ≤ 2000 → Below w.heap.size w W → Calls Tryz.prog 103 #[.int .i64 n] W fun e w' => e = .returned (.string (ba (Lib.decDigits n))) ∧ Below W.heap.size W w') := fun n W hn hW => by
  refine (Tryz.strconv_Itoa (n : Int) (by omega) (by omega) W (pow_below hP hW)).mono ?_
  rintro e w' ⟨rfl,k,os,rfl⟩
  rw [Lib.itoa_nonneg]
  exact ⟨rfl,below_grow W k os⟩
 have HW : Hid (∀ (bs : List UInt8) (s : List UInt8) W,bs.length + s.length ≤ 100000000 → w.heap.size ≤ W.heap.size → Lib.IsBuilderF 163 5 w.heap.size w.heap.size (Lib.byteCells bs) W → Calls Tryz.prog 102 #[.pointer (some ⟨w.heap.size,0,none⟩),.string (ba s)] W fun e w' =>
   e = .returned (.tuple #[.int .i64 s.length,.nilIface]) ∧ Lib.IsBuilderF 163 5 w.heap.size w.heap.size (Lib.byteCells (bs ++ s)) w' ∧ Below w.heap.size W w' ∧ Lib.OthersKept 5 (some w.heap.size) W w') := fun bs s W hl hW hb => by
  refine (Any.Builder_WriteString_k Tryz.lays166 Tryz.Builder_Extra_166 w.heap.size w.heap.size (Lib.byteCells bs) (ba s) W hb (by rw [Lib.byteCells_length,ba_size];omega) hW).mono ?_
  rintro e w' ⟨rfl,h1,h2,h3⟩
  refine ⟨by rw [ba_size],.inr ?_,h2,h3⟩
  rw [Lib.byteCells_append]
  exact h1
 have HS : Hid (∀ W,w.heap.size ≤ W.heap.size → Lib.IsBuilderF 163 5 w.heap.size w.heap.size (Lib.byteCells (Tf.textT fs)) W → Calls Tryz.prog 104 #[.pointer (some ⟨w.heap.size,0,none⟩)] W fun e w' => e = .returned (.string (ba (Tf.textT fs))) ∧ Below w.heap.size W w') := fun W hW hb => by
  refine (Any.Builder_String_any_k Tryz.lays169 Tryz.Builder_Extra_169 w.heap.size w.heap.size (Tf.textT fs) W hb hW).mono ?_
  rintro e w' ⟨rfl,_,h2,_⟩
  exact ⟨rfl,h2⟩
 have hzn : (fs.length : Int) ≤ 1000 := by omega
 have hlenA := fun k : Nat => textT_len (fs := fs.take k) (fun f hf => hsz f (List.mem_of_mem_take hf))
 clear h hP
 go_enter Tryz.func19,Tryz.ntmps19
 go_wp2_with fail
 refine HP.out.mono ?_
 rintro e w1 ⟨v,rfl,⟨pa,cap,rfl,hcap,hrow⟩,g1⟩
 have B1 := isBuilder_below b0 g1
 have G1 : Below w.heap.size w w1 := g0.trans (g1.mono g0.size)
 have R1 : TRow w1 (.slice pa (fs.map (·.1)).length cap) (fs.map (·.1)) := ⟨pa,cap,rfl,hcap,hrow⟩
 rw [List.length_map] at R1 hcap ⊢
 clear HP g0 b0 g1 hrow
 go_wp2
 go_loopw [11] (fun i wr => ∃ k : Nat,k ≤ fs.length ∧ i = .int .i64 k ∧ Lib.IsBuilderF 163 5 w.heap.size w.heap.size (Lib.byteCells (Tf.textT (fs.take k))) wr ∧ TRow wr (.slice pa fs.length cap) (fs.map (·.1)) ∧ Below w.heap.size w wr) (fun i _ => fs.length - (intOf i).toNat)
 case atStart => exact ⟨0,Nat.zero_le _,rfl,by simpa [Tf.textT,Lib.byteCells] using B1,R1,G1⟩
 case round =>
  obtain ⟨k,hk,rfl,hbld,hrow,hB⟩ := hrel
  by_cases hlt : k < fs.length
  ·have c1 : (k : Int) < (fs.length : Int) := by omega
   have c0 : (0 : Int) ≤ (k : Int) := by omega
   obtain ⟨p',cap',ev,_,hin⟩ := hrow
   obtain ⟨g,cur,rfl,hg,hcur⟩ := hin (by intro e;rw [List.map_eq_nil_iff] at e;rw [e] at hlt;simp at hlt)
   have hrow : TRow wr (.slice pa fs.length cap) (fs.map (·.1)) := ⟨_,cap',ev,by assumption,hin⟩
   have hcell := cell_of_row hg (hcur k (by simpa using hlt))
   rw [List.getElem_map] at hcell
   have epa : pa = some ⟨g,0,none⟩ := by simp at ev;exact ev.1
   subst epa
   obtain ⟨hp1,hp2⟩ := hsz _ (List.getElem_mem hlt)
   have hl0 := hlenA k
   rw [List.length_take] at hl0
   have zp : ((ba fs[k].1).size : Int) ≤ 1000 := by rw [ba_size];omega
   have HG' := HG.out k hlt wr hB
   clear ev hin hcur hg
   generalize ht : Tf.hasP fs fs[k].1 = t at *
   have hstep := textT_take hlt
   unfold Tf.entryT at hstep
   have hdl := digits_len fs[k].2.length (by omega)
   generalize fs[k].1 = q at *
   generalize fs[k].2 = bt at *
   go_wp2_with fail
   refine HG'.mono ?_
   rintro e w2 ⟨rfl,g2⟩
   have B2 := isBuilder_below hbld g2
   have R2 := hrow.below g2
   have G2 := hB.trans (g2.mono hB.size)
   go_wp2_with fail
   refine (HI.out bt.length w2 hp2 G2).mono ?_
   rintro e w3 ⟨rfl,g3⟩
   have B3 := isBuilder_below B2 g3
   have R3 := R2.below g3
   have G3 := G2.trans (g3.mono G2.size)
   have ecat : ba q ++ { data := #[32] } ++ ba (Lib.decDigits bt.length) ++ { data := #[10] } ++ ba bt ++ { data := #[10] } = ba (q ++ 32 :: (Lib.decDigits bt.length ++ 10 :: (bt ++ [10]))) := by
    rw [show (ByteArray.mk #[32]) = ba [32] from rfl,show (ByteArray.mk #[10]) = ba [10] from rfl]
    simp only [ba_append]
    simp
   clear HG'
   go_wp2_with fail
   refine (HW.out _ _ w3 ?_ G3.size B3).mono ?_
   ·simp only [List.length_append,List.length_cons,List.length_nil];omega
   rintro e w4 ⟨rfl,B4,g4,k4⟩
   have R4 := R3.others' k4 B3
   go_wp2
   go_roundw
   case rel => exact ⟨k + 1,by omega,by go_num,by rw [hstep];exact B4,R4,G3.trans g4⟩
   case measure => simp [intOf];omega
  ·have c1 : (fs.length : Int) ≤ (k : Int) := by omega
   obtain rfl : k = fs.length := by omega
   rw [List.take_length] at hbld
   have HS' := HS.out wr hB.size hbld
   go_wp2_with fail
   refine HS'.mono ?_
   rintro e w5 ⟨rfl,g5⟩
   go_wp2
   go_ret
   exact ⟨rfl,hB.trans g5⟩
end Go.Proofs.YthchjnopgagilaaGreatDoor
namespace Go.Proofs.YthchjnopgagilaaGreatDoor
open Go.RowKit Go.Shelf Go.Lib Go.Maps
open Tf (Fs)
theorem well_len {fs : Fs} (h : Tf.Well pathB fs) : ∀ f ∈ fs,f.1.length ≤ 64 := by
 intro f hf
 have h1 := (h.each f hf).1
 unfold pathB allB at h1
 simp only [Bool.and_eq_true,decide_eq_true_eq,List.all_eq_true] at h1
 have h2 : ∀ x ∈ Kf.parts f.1,x.length ≤ 12 := fun x hx => by
  have := h1.2 x hx
  unfold nameK at this
  simp only [Bool.and_eq_true,decide_eq_true_eq] at this
  have e : (ba x).size = x.length := ba_size x
  revert this
  simp [e]
  omega
 have h3 := Kf.tot_parts f.1
 have h4 : Kf.tot (Kf.parts f.1) ≤ (Kf.parts f.1).length * 13 := by
  generalize Kf.parts f.1 = l at h2
  clear h1 h3
  induction l with
  | nil => simp [Kf.tot]
  | cons x r ih =>
   have := ih fun y hy => h2 y (List.mem_cons_of_mem _ hy)
   have := h2 x (by simp)
   simp [Kf.tot] at *
   omega
 omega
end Go.Proofs.YthchjnopgagilaaGreatDoor
namespace Go.Proofs.YthchjnopgagilaaGreatDoor
open Go.RowKit Go.Shelf Go.Lib
structure Gr where
 w : World
 C : Nat → Prop
abbrev Gr.heap (g : Gr) : Array Obj := g.w.heap
abbrev Gr.of (w : World) : Gr := ⟨w,fun _ => False⟩
section
variable {w0 : Gr} {W W' : World} {mb tb : Nat} {tv lv cv : Value} {gs go gh gw : Nat} {l : List Ru} {fs : Tf.Fs} {vS vO vH vW : Nat → Value}
end
end Go.Proofs.YthchjnopgagilaaGreatDoor
namespace Go.Proofs.YthchjnopgagilaaGreatDoor
open Go.RowKit Go.Shelf Go.Lib
theorem piece_len (x : List UInt8) (h : x.length ≤ 5000) : (Kp.piece x).length ≤ x.length + 22 := by
 unfold Kp.piece
 have := digits_len x.length (by omega)
 simp
 omega
end Go.Proofs.YthchjnopgagilaaGreatDoor
namespace Go.Proofs.YthchjnopgagilaaGreatDoor
open Go.RowKit Go.Shelf Go.Lib
namespace Bf
def acc (d : Bd) (o : List (List UInt8)) (x : List UInt8) (j : Nat) : List (List UInt8) := match mkr d.l x with | some m => if m < j then o ++ [(d.st m).out] else o | none => o
end Bf
end Go.Proofs.YthchjnopgagilaaGreatDoor
namespace Go.Proofs.YthchjnopgagilaaGreatDoor
open Go.RowKit Go.Shelf Go.Lib Go.Maps
def vElem : Value → Option (DataW Value × List MemPlace) := fun v => some (.held v,[])
def VMap (W : World) (b : Nat) (fd : List UInt8 → Option Value) : Prop :=
 ∃ (D : DataW Value) (K : List (List UInt8)),W.ownsMap Tryz.prog 9 vElem b K.length D ∧ Maps.size D = K.length ∧ K.Nodup ∧ (∀ x,has D (.string x) = (fd x).isSome) ∧ (∀ x,x ∈ K ↔ (fd x).isSome = true) ∧ ∀ x v z,fd x = some v → D.atKey (.string x) z = .held v
theorem vowns_tight {w : World} {b n : Nat} {D : DataW Value} (h : w.ownsMap Tryz.prog 9 vElem b n D) : w.ownsMap Tryz.prog 9 vElem b (Maps.size D) D := by
 obtain ⟨es,clock,h1,F,_,hD⟩ := h
 refine ⟨es,clock,h1,F,?_,hD⟩
 rw [hD]
 simp [Maps.size,length_sorted]
theorem VMap.lt {W : World} {b : Nat} {fd : List UInt8 → Option Value} (h : VMap W b fd) : b < W.heap.size := by
 obtain ⟨D,K,h1,_⟩ := h
 exact h1.lt
theorem VMap.same {W W' : World} {b : Nat} {fd : List UInt8 → Option Value} (h : VMap W b fd) (hb : W'.heap[b]? = W.heap[b]?) : VMap W' b fd := by
 obtain ⟨D,K,⟨es,clock,h1,F⟩,h2⟩ := h
 exact ⟨D,K,⟨es,clock,hb.trans h1,F⟩,h2⟩
theorem VMap.below {W W' : World} {b : Nat} {fd : List UInt8 → Option Value} (h : VMap W b fd) (hb : Below W.heap.size W W') : VMap W' b fd := h.same (hb.block b h.lt)
theorem VMap.made (W : World) : VMap (W.alloc (.map #[] 0)) W.heap.size (fun _ => none) :=
 ⟨.map [],[],World.ownsMap_made W _ _ _,rfl,List.nodup_nil,fun _ => rfl,fun x => by simp,fun x v z h => by cases h⟩
theorem VMap.congr {W : World} {b : Nat} {fd fd' : List UInt8 → Option Value} (h : VMap W b fd) (he : ∀ x,fd' x = fd x) : VMap W b fd' := by
 have : fd' = fd := funext he
 rw [this];exact h
theorem VMap.look {W : World} {b : Nat} {fd : List UInt8 → Option Value} (h : VMap W b fd) {t e : TypeId} (ht : Tryz.prog.underlying t = some (.map 9 e)) {z : Value} (hz : (zeroValue e).run Tryz.prog W = .ok z W) (x : List UInt8) (hx : x.length ≤ 1000000) :
  (Instr.lookup t (.map (some b)) (.string (ba x)) true).run Tryz.prog W = .ok (.tuple #[(fd x).getD z,.bool (fd x).isSome]) W := by
 obtain ⟨D,K,h1,h2,h3,h4,h5,h6⟩ := h
 obtain ⟨v,ps,hrun,hv⟩ := h1.look_ok (t := t) (e := e) claw ht (z := z) hz (zd := .held z) (zp := []) rfl (ckey x hx)
 have hv' : (DataW.held v : DataW Value) = D.atKey (.string x) (.held z) := by
  have : vElem v = some (.held v,[]) := rfl
  rw [this] at hv
  simpa using congrArg (fun o => o.map Prod.fst) hv
 rw [hrun,h4]
 have : v = (fd x).getD z := by
  cases hf : fd x with
  | some u =>
   rw [h6 x u _ hf] at hv'
   injection hv'
  | none =>
   have hh : has D (.string x) = false := by rw [h4,hf];rfl
   rw [atKey_of_not_has hh] at hv'
   injection hv'
 rw [this]
theorem VMap.laid {W : World} {b : Nat} {fd : List UInt8 → Option Value} (h : VMap W b fd) {t e : TypeId} (ht : Tryz.prog.underlying t = some (.map 9 e)) (L : List (List UInt8)) (hL : ∀ x,(fd x).isSome = true → x ∈ L) (hn : L.length ≤ 1000000) (x : List UInt8) (hx : x.length ≤ 1000000) (v : Value) :
  ∃ w1,(Instr.mapUpdate t (.map (some b)) (.string (ba x)) v).run Tryz.prog W = .ok () w1 ∧ VMap w1 b (fun y => if y = x then some v else fd y) ∧ W.mapTurned w1 b := by
 obtain ⟨D,K,h1,h2,h3,h4,h5,h6⟩ := h
 have hK : K.length ≤ L.length := Cf.nodup_len h3 fun y hy => hL y ((h5 y).1 hy)
 obtain ⟨w1,hr,ho1,ht1⟩ := h1.store (t := t) (e := e) claw ht (by unfold maxLen;omega) (ckey x hx) (show vElem v = some (.held v,[]) from rfl)
 have hT := h1.tidy claw
 have hk : WideAt.IsKeyLit (.string x) := by simp [WideAt.IsKeyLit]
 have hat : ∀ y u z,(if y = x then some v else fd y) = some u → (D.put (.string x) (.held v)).atKey (.string y) z = .held u := fun y u z hy => by
  by_cases e : y = x
  ·subst e
   rw [if_pos rfl] at hy
   cases hy
   rw [atKey_put_same hT.isMap hk]
  ·rw [if_neg e] at hy
   rw [atKey_put_other (by simpa using e),h6 y u z hy]
 have hhas : ∀ y,has (D.put (.string x) (.held v)) (.string y) = (if y = x then some v else fd y).isSome := fun y => by
  by_cases e : y = x
  ·subst e
   rw [if_pos rfl,has_put_same hT.isMap hk]
   rfl
  ·rw [if_neg e,has_put_other (by simpa using e),h4]
 have hsz := size_put (k := .string x) (d := .held v) hT
 rw [h4,h2] at hsz
 refine ⟨w1,hr,?_,ht1⟩
 cases hf : (fd x).isSome with
 | true =>
  rw [hf] at hsz
  have hsz' : Maps.size (D.put (.string x) (.held v)) = K.length := by simpa using hsz
  refine ⟨_,K,hsz' ▸ vowns_tight ho1,hsz',h3,hhas,fun y => ?_,hat⟩
  show _ ↔ (if y = x then some v else fd y).isSome = true
  by_cases e : y = x
  ·subst e;rw [if_pos rfl,h5,hf];simp
  ·rw [if_neg e,h5]
 | false =>
  rw [hf] at hsz
  have hsz' : Maps.size (D.put (.string x) (.held v)) = (x :: K).length := by simpa using hsz
  refine ⟨_,x :: K,hsz' ▸ vowns_tight ho1,hsz',List.nodup_cons.2 ⟨fun hx => ?_,h3⟩,hhas,fun y => ?_,hat⟩
  ·rw [h5,hf] at hx;cases hx
  ·show _ ↔ (if y = x then some v else fd y).isSome = true
   by_cases e : y = x
   ·subst e;simp
   ·rw [if_neg e,← h5];simp [e]
end Go.Proofs.YthchjnopgagilaaGreatDoor
namespace Go.Proofs.YthchjnopgagilaaGreatDoor
open Go.RowKit Go.Shelf Go.Lib Go.Maps
abbrev ansV (es : Nat → Addr) (x : List UInt8 × Nat) : Value := .agg #[.string (ba x.1),erOf es x.2]
def ruF (l : List Ru) (uv : Nat → Value) (x : List UInt8) : Option Value := (Bf.mkr l x).map fun i => ruV (l.getD i ⟨[],[],[],[]⟩) (uv i)
structure AskE (w : World) (es : Nat → Addr) : Prop where
 a : AE w (erOf es)
 none : w.cell? ⟨2,0,Option.none⟩ = some (erOf es 6)
theorem AskE.below {w w' : World} {es : Nat → Addr} (h : AskE w es) (hb : Below w.heap.size w w') : AskE w' es := ⟨h.a.stays hb,cell_below' h.none hb⟩
structure AskB (es : Nat → Addr) (tb : Nat) (fs : Tf.Fs) (l : List Ru) (uv : Nat → Value) (W0 : World) : Prop where
 e : AskE W0 es
 tree : ∃ B o,TreeAt B W0 tb fs o
 bytes : ∀ x b,Tf.get fs x = some b → b.length ≤ 2000
 ins : ∀ i (hi : i < l.length),XRow W0 (uv i) l[i].ins
 small : ∀ x ∈ l,x.Small
 len : l.length ≤ 40
structure AskL where
 (rc tc dc kc rm dm : Nat)
abbrev AskL.caps (L : AskL) : Array Value := #[Ptr L.rc,Ptr L.tc,Ptr L.dc,Ptr L.kc]
abbrev AskL.fn (L : AskL) : Value := .func (.func 211) #[] L.caps
structure Asks (es : Nat → Addr) (tb : Nat) (fs : Tf.Fs) (l : List Ru) (uv : Nat → Value) (W0 : World) (L : AskL) (W : World) : Prop where
 base : Below W0.heap.size W0 W
 cr : W.cell? ⟨L.rc,0,none⟩ = some (.map (some L.rm))
 ct : W.cell? ⟨L.tc,0,none⟩ = some (Ptr tb)
 cd : W.cell? ⟨L.dc,0,none⟩ = some (.map (some L.dm))
 ck : W.cell? ⟨L.kc,0,none⟩ = some L.fn
 rules : VMap W L.rm (ruF l uv)
 told : ∃ fd,VMap W L.dm fd ∧ ∀ x v,fd x = some v → (Bf.mkr l x).isSome = true ∧ v = ansV es (Bf.want Af.actO fs l x)
 nr : L.rc ≠ L.dm
 nt : L.tc ≠ L.dm
 nd : L.dc ≠ L.dm
 nk : L.kc ≠ L.dm
 nm : L.rm ≠ L.dm
 new : W0.heap.size ≤ L.dm
theorem Asks.below {es : Nat → Addr} {tb : Nat} {fs : Tf.Fs} {l : List Ru} {uv : Nat → Value} {W0 W W' : World} {L : AskL} (h : Asks es tb fs l uv W0 L W) (hb : Below W.heap.size W W') : Asks es tb fs l uv W0 L W' := by
 obtain ⟨fd,h1,h2⟩ := h.told
 exact ⟨below_then h.base hb,cell_below' h.cr hb,cell_below' h.ct hb,cell_below' h.cd hb,cell_below' h.ck hb,h.rules.below hb,⟨fd,h1.below hb,h2⟩,h.nr,h.nt,h.nd,h.nk,h.nm,h.new⟩
theorem Asks.turn {es : Nat → Addr} {tb : Nat} {fs : Tf.Fs} {l : List Ru} {uv : Nat → Value} {W0 W W' : World} {L : AskL} (h : Asks es tb fs l uv W0 L W) (hb : Only (fun j => j = L.dm) W W') {fd : List UInt8 → Option Value} (h1 : VMap W' L.dm fd) (h2 : ∀ x v,fd x = some v → (Bf.mkr l x).isSome = true ∧ v = ansV es (Bf.want Af.actO fs l x)) : Asks es tb fs l uv W0 L W' :=
 ⟨h.base.trans (hb.below (fun j hj => by rw [hj];exact h.new) h.base.size),hb.cell h.cr h.nr,hb.cell h.ct h.nt,hb.cell h.cd h.nd,hb.cell h.ck h.nk,h.rules.same (hb.block _ h.rules.lt h.nm),⟨fd,h1,h2⟩,h.nr,h.nt,h.nd,h.nk,h.nm,h.new⟩
theorem Asks.lt {es : Nat → Addr} {tb : Nat} {fs : Tf.Fs} {l : List Ru} {uv : Nat → Value} {W0 W : World} {L : AskL} (h : Asks es tb fs l uv W0 L W) : L.dm < W.heap.size := by
 obtain ⟨fd,h1,_⟩ := h.told
 exact h1.lt
theorem Only.then {S : Nat → Prop} {a b c : World} (h : Only S a b) (hb : Below a.heap.size b c) : Only S a c :=
 ⟨hb.os.trans h.os,hb.tape.trans h.tape,hb.output.trans h.output,Nat.le_trans h.size hb.size,fun j hj hs => (hb.block j hj).trans (h.block j hj hs)⟩
theorem Asks.after {es : Nat → Addr} {tb : Nat} {fs : Tf.Fs} {l : List Ru} {uv : Nat → Value} {W0 W1 W W' : World} {L : AskL} (h1 : Asks es tb fs l uv W0 L W1) (h : Asks es tb fs l uv W0 L W) (hb : Below W1.heap.size W W') : Asks es tb fs l uv W0 L W' := by
 obtain ⟨fd,h2,h3⟩ := h.told
 have hc : ∀ {a : Addr} {u u' : Value},W1.cell? a = some u' → W.cell? a = some u → W'.cell? a = some u := fun h1 h2 => (hb.cell (lt_of_cell h1)).trans h2
 exact ⟨h.base.trans (hb.mono h1.base.size),hc h1.cr h.cr,hc h1.ct h.ct,hc h1.cd h.cd,hc h1.ck h.ck,h.rules.same (hb.block _ h1.rules.lt),⟨fd,h2.same (hb.block _ h1.lt),h3⟩,h.nr,h.nt,h.nd,h.nk,h.nm,h.new⟩
theorem Asks.keep {es : Nat → Addr} {tb : Nat} {fs : Tf.Fs} {l : List Ru} {uv : Nat → Value} {W0 W : World} {L : AskL} (h : Asks es tb fs l uv W0 L W) (hl : l.length ≤ 40) (x : List UInt8) (hx : x.length ≤ 1000) (hm : (Bf.mkr l x).isSome = true) :
  ∃ w1,(Instr.mapUpdate 287 (.map (some L.dm)) (.string (ba x)) (ansV es (Bf.want Af.actO fs l x))).run Tryz.prog W = .ok () w1 ∧ Asks es tb fs l uv W0 L w1 ∧ Only (fun j => j = L.dm) W w1 := by
 obtain ⟨fd,h1,h2⟩ := h.told
 have hout : ∀ y,(Bf.mkr l y).isSome = true → y ∈ l.map Ru.out := fun y hy => by
  obtain ⟨i,hi⟩ := Option.isSome_iff_exists.1 hy
  obtain ⟨hk,e⟩ := Bf.mkr_of hi
  exact List.mem_map.2 ⟨_,List.getElem_mem hk,e⟩
 obtain ⟨w1,hr,hv,ht⟩ := h1.laid Tryz.underlying287 (l.map Ru.out) (fun y hy => by
  obtain ⟨v,hv⟩ := Option.isSome_iff_exists.1 hy
  exact hout y (h2 y v hv).1) (by simp;omega) x (by omega) (ansV es (Bf.want Af.actO fs l x))
 have ho : Only (fun j => j = L.dm) W w1 := by
  refine ⟨ht.grown.os,ht.grown.tape,ht.grown.output,ht.grown.size,fun j hj hs => ht.grown.block j hj fun e => hs ?_⟩
  simpa using e
 refine ⟨w1,hr,h.turn ho hv fun y v hy => ?_,ho⟩
 by_cases e : y = x
 ·subst e
  rw [if_pos rfl] at hy
  cases hy
  exact ⟨hm,rfl⟩
 ·rw [if_neg e] at hy
  exact h2 y v hy
theorem Asks.known {es : Nat → Addr} {tb : Nat} {fs : Tf.Fs} {l : List Ru} {uv : Nat → Value} {W0 W : World} {L : AskL} (h : Asks es tb fs l uv W0 L W) (x : List UInt8) (hx : x.length ≤ 1000) :
  (Instr.lookup 287 (.map (some L.dm)) (.string (ba x)) true).run Tryz.prog W = .ok (.tuple #[.agg #[.string ⟨#[]⟩,.nilIface],.bool false]) W ∨
  (Instr.lookup 287 (.map (some L.dm)) (.string (ba x)) true).run Tryz.prog W = .ok (.tuple #[ansV es (Bf.want Af.actO fs l x),.bool true]) W := by
 obtain ⟨fd,h1,h2⟩ := h.told
 have := h1.look Tryz.underlying287 (Tryz.zeroValue291 W) x (by omega)
 cases hf : fd x with
 | none => rw [hf] at this;exact .inl this
 | some v =>
  rw [hf,(h2 x v hf).2] at this
  exact .inr this
theorem Asks.maker {es : Nat → Addr} {tb : Nat} {fs : Tf.Fs} {l : List Ru} {uv : Nat → Value} {W0 W : World} {L : AskL} (h : Asks es tb fs l uv W0 L W) (x : List UInt8) (hx : x.length ≤ 1000) :
  (Instr.lookup 286 (.map (some L.rm)) (.string (ba x)) true).run Tryz.prog W = .ok (.tuple #[(ruF l uv x).getD (.agg #[.string ⟨#[]⟩,.string ⟨#[]⟩,.string ⟨#[]⟩,.slice none 0 0]),.bool (ruF l uv x).isSome]) W :=
 h.rules.look Tryz.underlying286 (Tryz.zeroValue96 W) x (by omega)
end Go.Proofs.YthchjnopgagilaaGreatDoor
namespace Go.Proofs.YthchjnopgagilaaGreatDoor
open Go.RowKit Go.Shelf Go.Lib Go.Maps
theorem wFile_calls {W : World} {es : Nat → Addr} {B tb : Nat} {fs : Tf.Fs} {o : Option Nat} (hT : TreeAt B W tb fs o) (hE : AskE W es) (x : List UInt8) (hx : x.length ≤ 1000) :
  Calls Tryz.prog 212 #[Ptr tb,.string (ba x)] W fun e w' => e = .returned (.tuple #[.string (ba ((Tf.get fs x).getD [])),erOf es (if (Tf.get fs x).isSome = true then 0 else 6)]) ∧ Below W.heap.size W w' := by
 have HG := hid1 (Get_calls hT x (by omega))
 have hN := hE.none
 clear hE hT
 rw [hasW_get] at HG
 cases hg : Tf.get fs x with
 | none =>
  rw [hg] at HG
  simp only [Option.getD_none,Option.isSome_none] at HG ⊢
  clear hg
  go_enter Tryz.func212,Tryz.ntmps212
  go_wp2_with fail
  refine HG.out.mono ?_
  rintro e w1 ⟨rfl,g1⟩
  have n1 := cell_below' hN g1
  clear HG
  go_wp2
  go_region
  go_wp2
  go_ret2
  exact ⟨rfl,g1.drew⟩
 | some b =>
  rw [hg] at HG
  simp only [Option.getD_some,Option.isSome_some] at HG ⊢
  clear hg
  go_enter Tryz.func212,Tryz.ntmps212
  go_wp2_with fail
  refine HG.out.mono ?_
  rintro e w1 ⟨rfl,g1⟩
  clear HG
  go_wp2
  go_ret2
  exact ⟨rfl,g1⟩
def AskTells (es : Nat → Addr) (tb : Nat) (fs : Tf.Fs) (l : List Ru) (uv : Nat → Value) (W0 : World) (L : AskL) (x : List UInt8) : Prop :=
 ∀ V,Asks es tb fs l uv W0 L V → Calls Tryz.prog 211 (#[.string (ba x)] ++ L.caps) V fun e w' => e = .returned (.tuple #[.string (ba (Bf.want Af.actO fs l x).1),erOf es (Bf.want Af.actO fs l x).2]) ∧ Asks es tb fs l uv W0 L w' ∧ Only (fun j => j = L.dm) V w'
theorem wAsk1_enters : ∀ args w,(callFunc 211 args).run Tryz.prog w = .ok (.enter 211 args) w := enters_of Tryz.func211 (by kernel_rfl) rfl
theorem wRun_calls {es : Nat → Addr} {tb : Nat} {fs : Tf.Fs} {l : List Ru} {uv : Nat → Value} {W0 W : World} {L : AskL} (hB : AskB es tb fs l uv W0) (h : Asks es tb fs l uv W0 L W) (i : Nat) (hi : i < l.length) (HF : Hid (∀ x ∈ l[i].ins,AskTells es tb fs l uv W0 L x)) :
  Calls Tryz.prog 213 #[ruV l[i] (uv i),L.fn] W fun e w' => e = .returned (.tuple #[.string (ba (Bf.wrule Af.actO (Bf.want Af.actO fs l) l[i]).1),erOf es (Bf.wrule Af.actO (Bf.want Af.actO fs l) l[i]).2]) ∧ Asks es tb fs l uv W0 L w' ∧ Only (fun j => j = L.dm) W w' := by
 have hX := hB.ins i hi
 have hsm := hB.small _ (List.getElem_mem hi)
 have HE := hid1 hB.e
 have HL : Hid (∀ x,(Bf.want Af.actO fs l x).1.length ≤ 2000) := hid1 fun x => Bf.want_len hB.bytes x _
 have HA := hid1 h
 have hd := h.lt
 have eg := wAsk1_enters
 obtain ⟨i0,hti,hz0,hz1,hz2⟩ := info_parts Tryz.infoStr
 have hkl := hsm.kind
 have hwl := hsm.word
 have hil := hsm.many
 clear hB h hsm
 generalize hf : Bf.want Af.actO fs l = f at *
 generalize hr : l[i] = r at *
 obtain ⟨y,hy⟩ : ∃ y,Bf.wrule Af.actO f r = y := ⟨_,rfl⟩
 rw [hy]
 unfold Bf.wrule at hy
 have HY := hid1 hy
 clear hy
 obtain ⟨p,cap,eu,hcap,hnil,hin⟩ := hX
 rw [eu]
 have HIn := hid1 hin
 clear hin eu hr
 have zl : (r.ins.length : Int) ≤ 12 := by omega
 have bA : Below W.heap.size W (W.alloc (.cells #[.string (ba r.out),.string (ba r.kind),.string (ba r.word),.slice p r.ins.length cap] 96)) := (Below.refl _ W).alloc (Nat.le_refl _) _
 have HA1 := hid1 (HA.out.below bA)
 have HO1 : Hid (Only (fun j => j = L.dm) W (W.alloc (.cells #[.string (ba r.out),.string (ba r.kind),.string (ba r.word),.slice p r.ins.length cap] 96))) := hid1 (Only.of bA)
 have rr := row_newW W (.cells #[.string (ba r.out),.string (ba r.kind),.string (ba r.word),.slice p r.ins.length cap] 96)
 have HRR := hid1 rr
 have k1 := cell_of_row (j := 1) rr rfl
 have k2 := cell_of_row (j := 2) rr rfl
 have k3 := cell_of_row (j := 3) rr rfl
 clear HA bA rr
 go_enter Tryz.func213,Tryz.ntmps213
 go_wp2
 generalize hW1 : W.alloc (.cells #[.string (ba r.out),.string (ba r.kind),.string (ba r.word),.slice p r.ins.length cap] 96) = W1 at *
 have hz1' : W1.heap.size = W.heap.size + 1 := by rw [← hW1];simp
 clear hW1
 go_loopw [6,14] (fun lv iv wr => ∃ (k : Nat) (xs : List (List UInt8)),k ≤ r.ins.length ∧ iv = .int .i64 k ∧ Bf.winB f (r.ins.take k) = (xs,0) ∧ wr.ownsRow W1.heap.size 9 1 lv xs.length (xs.map sv) ∧ Asks es tb fs l uv W0 L wr ∧ Only (fun j => j = L.dm) W1 wr) (fun _ iv _ => r.ins.length - (intOf iv).toNat)
 case atStart => exact ⟨0,[],Nat.zero_le _,rfl,rfl,World.ownsRow_nil _ _ _ _,HA1.out,⟨rfl,rfl,rfl,Nat.le_refl _,fun _ _ _ => rfl⟩⟩
 case round =>
  obtain ⟨k,xs,hk,rfl,hg,hrow,hA,hO⟩ := hrel
  have hxl := Bf.winB_len f hg
  have hxl2 : xs.length ≤ 12 := by rw [hxl];simp;omega
  have HG := hid1 hg
  have HRow := hid1 hrow
  have HAs := hid1 hA
  have HOn := hid1 hO
  have k0 : (0 : Int) ≤ (k : Int) := by omega
  clear hg hxl hrow
  by_cases hlt : k < r.ins.length
  ·have k1' : (k : Int) < (r.ins.length : Int) := by omega
   obtain ⟨g,o,rfl,hgl,hc⟩ := HIn.out (by intro e;rw [e] at hlt;simp at hlt)
   have d0 := (hA.base.cell (p := ⟨g,o + k,none⟩) hgl).trans (hc k hlt)
   have hmem : r.ins[k] ∈ r.ins := List.getElem_mem hlt
   have HT := hid1 (HF.out r.ins[k] hmem wr hA)
   have htk : r.ins.take (k + 1) = r.ins.take k ++ [r.ins[k]] := List.take_succ_eq_append_getElem hlt
   have HSn : Hid ((f r.ins[k]).2 = 0 → Bf.winB f (r.ins.take (k + 1)) = (xs ++ [(f r.ins[k]).1],0)) := hid1 fun h0 => by
    rw [htk];exact Bf.winB_snoc f _ _ HG.out h0
   have HSt : Hid ((f r.ins[k]).2 ≠ 0 → (Bf.winB f r.ins).2 = (f r.ins[k]).2) := hid1 fun h0 => by
    have := Bf.winB_stop f (r.ins.take k) r.ins[k] (r.ins.drop (k + 1)) HG.out h0
    rwa [← List.drop_eq_getElem_cons hlt,List.take_append_drop] at this
   rw [hf] at HT
   clear hc hA hO htk hmem HIn HF HG HL hcap hnil
   generalize r.ins[k] = x at *
   obtain ⟨b,c,hbc⟩ : ∃ b c,f x = (b,c) := ⟨_,_,rfl⟩
   rw [hbc] at HT HSn HSt
   clear hbc
   simp only at HT HSn HSt
   cases c with
   | zero =>
    have HT0 : Hid (erOf es 0 = .nilIface) := hid1 rfl
    rw [HT0.out] at HT
    have HS := hid1 (HSn.out rfl)
    clear HSn HSt HT0
    go_wp2_with fail
    refine HT.out.mono ?_
    rintro e w3 ⟨rfl,hA3,hO3⟩
    have hrow3 : w3.ownsRow W1.heap.size 9 1 u6 xs.length (xs.map sv) := own_same HRow.out fun j hj => hO3.block j (own_lt HRow.out _ hj.symm).2 fun e => by have := (own_lt HRow.out _ hj.symm).1;omega
    have HA3 := hid1 hA3
    have hB3 : Only (fun j => j = L.dm) W1 w3 := HOn.out.trans hO3 fun j hj => .inl hj
    have hml : xs.length + 1 ≤ maxLen := by unfold maxLen;omega
    have hz3 := hB3.size
    have HB3 := hid1 hB3
    clear HT hA3 hO3 HRow hB3 HAs HOn
    go_wp2_with (first
     | (at_builtin;refine wpList_append_own _ rfl _ _ 45 rfl W1.heap.size 9 i0 (.string ⟨#[]⟩) 1 16 Tryz.underlying45 hti hz0 hz1 hz2 rfl (by decide) _ _ _ rfl (hrow3.alloc _) ⟨w3.heap.size,0,none⟩ 1 1 [sv b] rfl rfl (one_new _ _ _ _ (by simp)) (by simp [Value.oneCell']) hml (by omega) (by simp;omega) ?_;intro v' w4 hown' hgrow _)
     | go_in)
    have hb4 : Below W1.heap.size w3 w4 := below_appended (Below.refl _ w3) hz3 hrow3 hgrow
    exact ⟨⟨k + 1,xs ++ [b],by omega,by go_num,HS.out,by rw [List.length_append,List.map_append];exact hown',HA1.out.after HA3.out hb4,HB3.out.then hb4⟩,by simp [intOf];omega⟩
   | succ m =>
    have HS := hid1 (HSt.out (by omega))
    obtain ⟨t,u,et⟩ : ∃ t u,erOf es (m + 1) = .iface t u := ⟨_,_,rfl⟩
    rw [et] at HT
    have HP : Hid (Ending.returned (.tuple #[.string (ba []),.iface t u]) = Ending.returned (.tuple #[.string (ba y.1),erOf es y.2])) := hid1 (by
     have h1 := HY.out
     rw [if_neg (by rw [HS.out];omega),HS.out] at h1
     rw [← h1,et])
    clear HSn HSt et
    go_wp2_with fail
    refine HT.out.mono ?_
    rintro e w3 ⟨rfl,hA3,hO3⟩
    have HB3 := hid1 (HOn.out.trans hO3 fun j hj => .inl hj)
    have HA3 := hid1 hA3
    clear HT hA3 hO3
    go_wp2
    go_ret2
    exact ⟨HP.out,HA3.out,HO1.out.trans HB3.out fun j hj => .inl hj⟩
  ·have k1' : (r.ins.length : Int) ≤ (k : Int) := by omega
   have HG2 : Hid (Bf.winB f r.ins = (xs,0)) := hid1 (by
    have := HG.out
    rwa [List.take_of_length_le (by omega)] at this)
   have hxs : ∀ y ∈ xs,y.length ≤ 3000 := fun y hy => by
    have := Bf.winB_all f (fun z => z.length ≤ 2000) HL.out HG2.out y hy
    omega
   have hya : y = Af.actO r.kind r.word xs := by
    have h1 := HY.out
    rw [HG2.out,if_pos rfl] at h1
    exact h1.symm
   have HRn := hid1 (Run_any (HE.out.a.stays hA.base) r.kind r.word (by omega) u6 xs (TRow.of_owns HRow.out) hxs)
   have e1 := hO.cell k1 (by simp only;omega)
   have e2 := hO.cell k2 (by simp only;omega)
   obtain ⟨pv,cv,rfl⟩ := own_val HRow.out
   clear HG HL HE HF HIn hxs HRow hA hO
   rw [← hya] at HRn
   clear hya HY
   go_wp2_with fail
   refine HRn.out.mono ?_
   rintro e w3 ⟨rfl,g3⟩
   have HP : Hid (Asks es tb fs l uv W0 L w3 ∧ Only (fun j => j = L.dm) W w3) := hid1 ⟨HAs.out.below g3,HO1.out.trans (HOn.out.trans (Only.of g3) fun j hj => .inl hj) fun j hj => .inl hj⟩
   clear HRn
   go_wp2
   go_ret2
   exact ⟨rfl,HP.out.1,HP.out.2⟩
end Go.Proofs.YthchjnopgagilaaGreatDoor
