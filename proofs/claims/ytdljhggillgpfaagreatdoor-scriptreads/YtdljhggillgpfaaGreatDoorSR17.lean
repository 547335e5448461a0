import Derived.Test.YtdljhggillgpfaaGreatDoorSR16
import Derived.Laws.AppendOwnNone
import Derived.Deep.AppendLies
set_option maxRecDepth 100000
set_option maxHeartbeats 4000000
namespace Go.Proofs.YtdljhggillgpfaaGreatDoor
open Go.RowKit Go.Shelf Go.Lib
attribute [local go_sem] Oper.semAt_some
def leftIn (w : World) (b : Nat) : Nat :=
 match w.cell? ⟨b,0,none⟩ with
 | some (.string s) => s.size
 | _ => 0
theorem lines1_in (n : Nat) (hn : 1 ≤ n) (l Bn : Nat) (s : List UInt8) (hs : s.length ≤ 100000) (J : List (List UInt8) → World → Prop)
  (hset : ∀ pre W v,J pre W → J pre (W.setCell ⟨Bn,0,none⟩ v)) (hdrew : ∀ pre W,J pre W → J pre W.drew)
  (hY : ∀ pre x W,J pre W → pre.length < (Rd.lines s).length → YieldAt Fence.wide (n - 1) Tryz.prog l #[.string (ba x)] W fun e W' =>
   e = .returned (.bool true) ∧ J (pre ++ [x]) W' ∧ W'.cell? ⟨Bn,0,none⟩ = W.cell? ⟨Bn,0,none⟩ ∧ W'.frozen? ⟨Bn,0,none⟩ = W.frozen? ⟨Bn,0,none⟩)
  (W : World) (hBn : W.cell? ⟨Bn,0,none⟩ = some (.string (ba s))) (hfz : W.frozen? ⟨Bn,0,none⟩ = false) (h0 : J [] W) :
  CallsIn Fence.wide n Tryz.prog 132 #[.func (.yield l) #[] #[],.pointer (some ⟨Bn,0,none⟩)] W fun e W' => (∃ v,e = .returned v) ∧ J (Rd.lines s) W' := by
 have hfc : Fence.wide.fn 133 := trivial
 refine callsIn_of_wp Tryz.func132 rfl trivial ?_ rfl
 simp only [Tryz.ntmps132,List.size_toArray,List.length_cons,List.length_nil,Nat.reduceAdd,Nat.reduceSub,Array.replicate_succ,Array.replicate_zero,List.push_toArray,List.append_toArray,List.nil_append,List.cons_append]
 gi_wp2
 gi_loopw [5] (fun _ wr => ∃ (pre : List (List UInt8)) (r : List UInt8),r.length ≤ 100000 ∧ J pre wr ∧ wr.cell? ⟨Bn,0,none⟩ = some (.string (ba r)) ∧ wr.frozen? ⟨Bn,0,none⟩ = false ∧ Hid (Rd.lines s = pre ++ Rd.lines r))
  (fun _ wr => leftIn wr Bn)
 case atStart =>
  exact ⟨[],s,hs,h0,hBn,hfz,hid1 rfl⟩
 case round =>
  obtain ⟨pre,r,hr,hJ,hc,hf,HL⟩ := hrel
  have HJ := hid1 hJ
  clear hJ
  by_cases he : r = []
  ·subst he
   gi_wp2
   go_end0
   refine ⟨⟨_,rfl⟩,?_⟩
   rw [HL.out]
   simpa [Rd.lines] using HJ.out
  ·have hsz : (ba r).size = r.length := ba_size r
   have hpos : 0 < r.length := by cases r with | nil => exact absurd rfl he | cons c t => simp
   have zpos : (0 : Int) < ((ba r).size : Int) := by omega
   have HI : Hid (∀ V : World,Calls Tryz.prog 133 #[.string (ba r),.int .u8 10] V fun e w' => e = .returned (.int .i64 (Lib.indexByte r 10)) ∧ w' = V) := hid1 fun V => Tryz.strings_IndexByte (ba r) 10 V
   have hge := Lib.indexByte_ge r 10
   have hlen : pre.length < (Rd.lines s).length := by
    have h1 : Rd.lines r ≠ [] := by
     by_cases hm : Lib.indexByte r 10 = -1
     ·rw [Rd.lines_miss r he hm];simp
     ·obtain ⟨i,hi⟩ : ∃ i : Nat,Lib.indexByte r 10 = (i : Int) := ⟨(Lib.indexByte r 10).toNat,by omega⟩
      rw [(Rd.lines_hit r i hi).1];simp
    have := List.length_pos_iff.2 h1
    rw [HL.out]
    simp
    omega
   by_cases hm : Lib.indexByte r 10 = -1
   ·have HM : Hid (Rd.lines s = (pre ++ [r]) ++ Rd.lines []) := hid1 (by rw [HL.out,Rd.lines_miss r he hm];simp [Rd.lines])
    rw [hm] at HI
    have hJ1 := hset pre wr (.string ⟨#[]⟩) HJ.out
    have hc1 : (wr.setCell ⟨Bn,0,none⟩ (.string ⟨#[]⟩)).cell? ⟨Bn,0,none⟩ = some (.string ⟨#[]⟩) := World.cell?_setCell_same' _ _ _ (by rw [hc];rfl)
    have hf1 : (wr.setCell ⟨Bn,0,none⟩ (.string ⟨#[]⟩)).frozen? ⟨Bn,0,none⟩ = false := by rw [World.frozen?_setCell];exact hf
    obtain ⟨fn,tmps,assign,body,hy,hR⟩ := hY pre r _ hJ1 hlen
    have hmea : leftIn wr Bn = r.length := by unfold leftIn;rw [hc];exact hsz
    have HC := hid1 hc1
    have HF := hid1 hf1
    have HMe := hid1 hmea
    clear HL hm hge HJ hJ1 hY hc1 hf1 hmea
    gi_wp2_with fail
    refine (callsIn_wide.2 (HI.out _)).mono ?_
    rintro e w1 ⟨rfl,rfl⟩
    gi_wp2
    refine hR.mono ?_
    rintro e W3 ⟨rfl,hJ3,hc3,hf3⟩
    rw [HC.out] at hc3
    rw [HF.out] at hf3
    gi_wp2
    go_roundw
    case rel => exact ⟨pre ++ [r],[],by simp,hJ3,hc3,hf3,HM⟩
    case measure =>
     show leftIn W3 Bn < leftIn w1 Bn
     rw [HMe.out]
     unfold leftIn
     rw [hc3]
     exact hpos
   ·obtain ⟨i,hi⟩ : ∃ i : Nat,Lib.indexByte r 10 = (i : Int) := ⟨(Lib.indexByte r 10).toNat,by omega⟩
    obtain ⟨el,hil⟩ := Rd.lines_hit r i hi
    have HM : Hid (Rd.lines s = (pre ++ [r.take (i + 1)]) ++ Rd.lines (r.drop (i + 1))) := hid1 (by rw [HL.out,el];simp)
    rw [hi] at HI
    have e1 : (ba r).extract 0 (i + 1) = ba (r.take (i + 1)) := by rw [bax];simp
    have e2 : (ba r).extract (i + 1) r.length = ba (r.drop (i + 1)) := by rw [bax,List.take_of_length_le (by simp)]
    have hJ1 := hdrew pre _ (hset pre wr (.string (ba (r.drop (i + 1)))) HJ.out)
    have hc1 : (wr.setCell ⟨Bn,0,none⟩ (.string (ba (r.drop (i + 1))))).drew.cell? ⟨Bn,0,none⟩ = some (.string (ba (r.drop (i + 1)))) := World.cell?_setCell_same' wr _ _ (by rw [hc];rfl)
    have hf1 : (wr.setCell ⟨Bn,0,none⟩ (.string (ba (r.drop (i + 1))))).drew.frozen? ⟨Bn,0,none⟩ = false := (World.frozen?_setCell wr _ _ _).trans hf
    obtain ⟨fn,tmps,assign,body,hy,hR⟩ := hY pre (r.take (i + 1)) _ hJ1 hlen
    have hmea : leftIn wr Bn = r.length := by unfold leftIn;rw [hc];exact hsz
    have HC := hid1 hc1
    have HF := hid1 hf1
    have HMe := hid1 hmea
    have z1 : (0 : Int) ≤ (i : Int) := by omega
    have z2 : (i : Int) + 1 ≤ ((ba r).size : Int) := by omega
    have z3 : (0 : Int) ≤ (i : Int) + 1 := by omega
    have z4 : ((ba r).size : Int) ≤ 100000 := by omega
    have z5 : IntKind.i64.wrap ((i : Int) + 1) = (i : Int) + 1 := by simp [IntKind.wrap,IntKind.bits,IntKind.signed];omega
    clear HL hm hge HJ hJ1 hY hc1 hf1 hmea el
    gi_wp2_with fail
    refine (callsIn_wide.2 (HI.out _)).mono ?_
    rintro e w1 ⟨rfl,rfl⟩
    gi_wp2
    gi_region
    gi_wp2
    refine hR.mono ?_
    rintro e W3 ⟨rfl,hJ3,hc3,hf3⟩
    rw [HC.out] at hc3
    rw [HF.out] at hf3
    gi_wp2
    go_roundw
    case rel => exact ⟨pre ++ [r.take (i + 1)],r.drop (i + 1),by simp;omega,hJ3,hc3,hf3,HM⟩
    case measure =>
     show leftIn W3 Bn < leftIn w1 Bn
     rw [HMe.out]
     unfold leftIn
     rw [hc3]
     show (ba (r.drop (i + 1))).size < r.length
     rw [ba_size]
     simp
     omega
attribute [local go_sem] Oper.semAt_some
theorem cell_same {W V : World} {b o : Nat} (h : V.heap[b]? = W.heap[b]?) : V.cell? ⟨b,o,none⟩ = W.cell? ⟨b,o,none⟩ := by simp [World.cell?,h]
theorem frozen_same {W V : World} {b o : Nat} (h : V.heap[b]? = W.heap[b]?) : V.frozen? ⟨b,o,none⟩ = W.frozen? ⟨b,o,none⟩ := by simp [World.frozen?,h]
structure LnJ (n₀ : Nat) (w : World) (Bs L D : Nat) (rc : Loop) (pre : List (List UInt8)) (W : World) : Prop where
 box : ∃ v,Boxed W Bs 22 v ∧ W.ownsRow Bs 9 1 v pre.length (pre.map sv)
 base : Below n₀ w W
 loop : W.heap[L]? = some (.loop rc)
 dfr : W.heap[D]? = some (.deferred (some []))
theorem LnJ.set {n₀ : Nat} {w : World} {Bs L D : Nat} {rc : Loop} {pre : List (List UInt8)} {W : World} (h : LnJ n₀ w Bs L D rc pre W) {b : Nat} (hb : n₀ ≤ b) (h1 : b < Bs) (h2 : b < L) (h3 : b < D) (v : Value) : LnJ n₀ w Bs L D rc pre (W.setCell ⟨b,0,none⟩ v) := by
 obtain ⟨u,hu,hr⟩ := h.box
 refine ⟨⟨u,(Below.heap_setCell _ _ _ _ (by show Bs ≠ b;omega)).trans hu,ownsRow_setCell_other hr (fun e => ?_) _⟩,h.base.setCell (p := ⟨b,0,none⟩) hb _,(Below.heap_setCell _ _ _ _ (by show L ≠ b;omega)).trans h.loop,(Below.heap_setCell _ _ _ _ (by show D ≠ b;omega)).trans h.dfr⟩
 rcases hr.2 with ⟨rfl,_⟩ | ⟨g,cap,cur,rfl,hg,_⟩
 ·simp [Value.ownBlock] at e
 ·have : g = b := by simpa [Value.ownBlock] using e
  omega
theorem range_named {F : Fence} {n : Nat} {P : Program} {g : Operand} {ps : Array Tmp} {assign body : Code} {Q : Exit → Act → World → Prop} {a : Act} {w : World}
  (hro : F.round = none) (h1 : 1 ≤ n) {gf : Nat} {lb : Array Value} (hg : a.eval g = .func (.func gf) #[] lb) (hFg : F.fn gf) (eg : ∀ args w,(callFunc gf args).run P w = .ok (.enter gf args) w)
  (hc : ∀ fn,F.fn fn → ∀ (rc : Loop),rc = { state := .ready,pending := none,fn,tmps := a.tmps,params := ps,assign,body,defers := w.heap.size } →
   CallsIn F (n - 1) P gf (#[.func (.yield (w.heap.size + 1)) #[] #[]] ++ lb) ((w.alloc (.deferred (some []))).alloc (.loop rc)) (rangePost F n P (w.heap.size + 1) Q { a with defers := { target := .collected w.heap.size,args := #[] } :: a.defers })) :
  (Code.rangeFunc g ps assign body).wpIn F n P Q a w := by
 refine wpIn_rangeFunc fun fn hfn => ?_
 rw [hro]
 refine ⟨w.heap.size + 1,_,_,{ target := .fn (.func gf) lb,args := #[.func (.yield (w.heap.size + 1)) #[] #[]] },(w.alloc (.deferred (some []))).alloc (.loop { state := .ready,pending := none,fn,tmps := a.tmps,params := ps,assign,body,defers := w.heap.size }),gf,_,_,run_enterLoop_outer _ _ _ _ _,?_,?_,?_,fun _ => h1,hc fn hfn _ rfl⟩
 ·simp only [resolve,hg]
  simp [go_sem]
 ·intro f' hf'
  simp [Target.leads] at hf'
  subst hf'
  exact hFg
 ·simp [invoke,go_sem,eg]
theorem AppendLines_in (n : Nat) (hn : 3 ≤ n) (n₀ Bn : Nat) (s : List UInt8) (hs : s.length ≤ 100000) (w : World) (hBn : Bn < w.heap.size) (hn0 : n₀ ≤ Bn) (hc : w.cell? ⟨Bn,0,none⟩ = some (.string (ba s))) (hf : w.frozen? ⟨Bn,0,none⟩ = false) :
  CallsIn Fence.wide n Tryz.prog 131 #[.slice none 0 0,.func (.func 132) #[] #[.pointer (some ⟨Bn,0,none⟩)]] w fun e W' =>
   ∃ v,e = .returned v ∧ W'.ownsRow w.heap.size 9 1 v (Rd.lines s).length ((Rd.lines s).map sv) ∧ Below n₀ w W' := by
 have h1 : 1 ≤ n := by omega
 obtain ⟨i0,hi,hz0,hz1,hz2⟩ := info_parts Tryz.infoStr
 refine callsIn_of_wp_marks Tryz.func131 rfl trivial ?_ rfl
 simp only [Tryz.ntmps131,List.size_toArray,List.length_cons,List.length_nil,Nat.reduceAdd,Nat.reduceSub,Array.replicate_succ,Array.replicate_zero,List.push_toArray,List.append_toArray,List.nil_append,List.cons_append]
 gi_wp2
 obtain ⟨W0,hW0⟩ : ∃ W0,w.alloc (.cells #[.slice none 0 0] 22) = W0 := ⟨_,rfl⟩
 have b0 : Boxed W0 w.heap.size 22 (.slice none 0 0) := by rw [← hW0];exact Boxed.new w 22 (.slice none 0 0)
 have g0 : Below w.heap.size w W0 := by rw [← hW0];exact (Below.refl _ w).alloc (Nat.le_refl _) _
 have z0 : W0.heap.size = w.heap.size + 1 := by rw [← hW0];simp
 rw [hW0]
 refine range_named rfl h1 (gf := 132) (lb := #[.pointer (some ⟨Bn,0,none⟩)]) rfl trivial (enters_of Tryz.func132 (by kernel_rfl) rfl) ?_
 intro fn hfn rc hrc
 obtain ⟨W1,hW1⟩ : ∃ W1,(W0.alloc (.deferred (some []))).alloc (.loop rc) = W1 := ⟨_,rfl⟩
 have g1 : Below W0.heap.size W0 W1 := by rw [← hW1];exact ((Below.refl _ W0).alloc (Nat.le_refl _) _).alloc (by simp) _
 have l1 : W1.heap[W0.heap.size + 1]? = some (.loop rc) := by
  rw [← hW1];have := World.alloc_heap_new (W0.alloc (.deferred (some []))) (.loop rc);rwa [World.size_alloc] at this
 have d1 : W1.heap[W0.heap.size]? = some (.deferred (some [])) := by
  rw [← hW1];exact (Below.heap_alloc _ _ _ (by simp)).trans (World.alloc_heap_new W0 _)
 rw [hW1]
 have hBW : Bn < W0.heap.size := by omega
 have j1 : LnJ n₀ w w.heap.size (W0.heap.size + 1) W0.heap.size rc [] W1 := ⟨⟨_,boxed_below b0 g1,World.ownsRow_nil _ _ _ _⟩,(g0.mono (by omega)).trans (g1.mono (by omega)),l1,d1⟩
 have c1 : W1.cell? ⟨Bn,0,none⟩ = some (.string (ba s)) := (g1.cell (p := ⟨Bn,0,none⟩) hBW).trans ((g0.cell (p := ⟨Bn,0,none⟩) hBn).trans hc)
 have f1 : W1.frozen? ⟨Bn,0,none⟩ = false := by
  unfold World.frozen? at hf ⊢
  rw [g1.block Bn hBW,g0.block Bn hBn]
  exact hf
 refine (lines1_in (n - 1) (by omega) (W0.heap.size + 1) Bn s hs (LnJ n₀ w w.heap.size (W0.heap.size + 1) W0.heap.size rc)
  (fun pre W v h => h.set hn0 (by omega) (by omega) (by omega) v) (fun pre W h => ⟨h.box.imp fun v hv => ⟨hv.1,hv.2.drew⟩,h.base.drew,h.loop,h.dfr⟩) ?_ W1 c1 f1 j1).mono ?_
 ·rintro pre x W ⟨⟨v,hv,hrow⟩,hB,hl,hd⟩ hlen
  have hlt : W0.heap.size + 1 < W.heap.size := (Array.getElem?_eq_some_iff.1 hl).1
  have hy := run_yield (P := Tryz.prog) (args := #[.string (ba x)]) hl (by rw [hrc];rfl)
  rw [hrc] at hy
  refine ⟨fn,_,_,_,hy,roundIn_of_wpIn hfn ?_⟩
  gi_wp2
  refine ⟨_,run_beginRound hl (by rw [hrc]),?_⟩
  have hbw : w.heap.size < W.heap.size := hv.lt
  obtain ⟨W2,hW2⟩ : ∃ W2,W.putObj (W0.heap.size + 1) (.loop { rc with state := .busy }) = W2 := ⟨_,rfl⟩
  have hv2 : Boxed W2 w.heap.size 22 v := by rw [← hW2];exact (World.putObj_heap_other (by omega)).trans hv
  have hrow2 : W2.ownsRow w.heap.size 9 1 v pre.length (pre.map sv) := by rw [← hW2];exact ownsRow_putObj hrow _ hl rfl
  have hl2 : W2.heap[W0.heap.size + 1]? = some (.loop { rc with state := .busy }) := by rw [← hW2];exact World.putObj_heap_same hlt
  have hd2 : W2.heap[W0.heap.size]? = some (.deferred (some [])) := by rw [← hW2];exact (World.putObj_heap_other (by omega)).trans hd
  have hsW : W0.heap.size + 1 < W2.heap.size := by rw [← hW2];simpa using hlt
  have hB2 : Below n₀ w W2 := by rw [← hW2];exact hB.grown (grownBy_putObj' W _ _) (by omega) (fun k e => by cases e;omega)
  have hbn2 : W2.heap[Bn]? = W.heap[Bn]? := by rw [← hW2];exact World.putObj_heap_other (by omega)
  rw [hW2]
  have hc2 := hv2.cell
  have hpl : pre.length ≤ 100000 := by have := Rd.lines_len s;omega
  have hml : pre.length + 1 ≤ maxLen := by unfold maxLen;omega
  clear hW2 hy hl hd hv hrow
  gi_wp2_with (gi_at_builtin;refine wpListIn_append_own _ rfl _ _ 22 rfl w.heap.size 9 i0 (.string ⟨#[]⟩) 1 16 Tryz.underlying22 hi hz0 hz1 hz2 rfl (by decide) _ _ _ rfl (hrow2.alloc _) ⟨W2.heap.size,0,none⟩ 1 1 [.string (ba x)] rfl rfl (cell_one_new _ _ _) (by simp [Value.oneCell']) hml (by omega) (by simp;omega) ?_;intro v' w1 hown' hgrow _;obtain ⟨g',cap',rfl⟩ := ownsRow_succ hown';obtain ⟨hv3,hv4,hr4,hk4,hb4⟩ := hv2.appended (by decide) hrow2 (by omega) (Nat.le_refl _) hown' hgrow;have hc3 := hv3.cell;have hf3 := hv3.frozen)
  have hl4 := hk4.same _ _ hl2 rfl
  have hd4 := hk4.same _ _ hd2 rfl
  have hlt4 := (Array.getElem?_eq_some_iff.1 hl4).1
  have er : ({ ({ rc with state := .busy } : Loop) with state := if (none : Option Code).isNone then .ready else .done,pending := none } : Loop) = rc := by rw [hrc];rfl
  have hend := run_endRound (P := Tryz.prog) none hl4
  rw [er] at hend
  refine ⟨_,_,hend,rfl,⟨⟨_,(World.putObj_heap_other (by omega)).trans hv4,by simpa using ownsRow_putObj hr4 _ hl4 rfl⟩,?_,World.putObj_heap_same hlt4,(World.putObj_heap_other (by omega)).trans hd4⟩,?_,?_⟩
  ·exact (hB2.trans (hb4.mono (by omega))).grown (grownBy_putObj' _ _ _) (by omega) (fun k e => by cases e;omega)
  ·exact cell_same (((World.putObj_heap_other (by omega)).trans (hb4.block Bn hBn)).trans hbn2)
  ·exact frozen_same (((World.putObj_heap_other (by omega)).trans (hb4.block Bn hBn)).trans hbn2)
 ·rintro e W2 ⟨⟨v,rfl⟩,⟨u,hu,hrow⟩,hB,hl,hd⟩
  have hlt : W0.heap.size + 1 < W2.heap.size := (Array.getElem?_eq_some_iff.1 hl).1
  have hend := run_endLoop (P := Tryz.prog) hl (by rw [hrc];simp)
  rw [show rc.pending = none by rw [hrc]] at hend
  refine ⟨none,_,hend,?_⟩
  obtain ⟨W3,hW3⟩ : ∃ W3,W2.putObj (W0.heap.size + 1) (.loop { rc with state := .exhausted,pending := none }) = W3 := ⟨_,rfl⟩
  have hu3 : Boxed W3 w.heap.size 22 u := by rw [← hW3];exact (World.putObj_heap_other (by omega)).trans hu
  have hrow3 : W3.ownsRow w.heap.size 9 1 u (Rd.lines s).length ((Rd.lines s).map sv) := by rw [← hW3];exact ownsRow_putObj hrow _ hl rfl
  have hd3 : W3.heap[W0.heap.size]? = some (.deferred (some [])) := by rw [← hW3];exact (World.putObj_heap_other (by omega)).trans hd
  have hB3 : Below n₀ w W3 := by rw [← hW3];exact hB.grown (grownBy_putObj' W2 _ _) (by omega) (fun k e => by cases e;omega)
  rw [hW3]
  have hc3 := hu3.cell
  clear hend hl hd hu hrow hB hW3
  rw [z0] at hd3
  gi_wp2
  refine ⟨by simp,.inl ⟨_,_,rfl,run_takeDeferred hd3,?_⟩⟩
  exact ⟨_,results_tmp rfl _ _ _,u,rfl,ownsRow_putObj hrow3 _ hd3 rfl,hB3.grown (grownBy_putObj' W3 _ _) (by have := hB3.size;omega) (fun k e => by cases e;omega)⟩
theorem strLines_calls (s : List UInt8) (w : World) :
  Calls Tryz.prog 97 #[.string (ba s)] w fun e w' => e = .returned (.func (.func 132) #[] #[.pointer (some ⟨w.heap.size,0,none⟩)]) ∧ w' = w.alloc (.cells #[.string (ba s)] 9) := by
 go_enter Tryz.func97,Tryz.ntmps97
 go_wp2
 go_ret
 exact ⟨rfl,rfl⟩
theorem CollectLines_calls (s : List UInt8) (hs : s.length ≤ 100000) (w : World) :
  Calls Tryz.prog 96 #[.func (.func 132) #[] #[.pointer (some ⟨w.heap.size,0,none⟩)]] (w.alloc (.cells #[.string (ba s)] 9)) fun e W' =>
   ∃ v,e = .returned v ∧ XRow W' v (Rd.lines s) ∧ Below w.heap.size w W' ∧ ∀ a n c,v = .slice (some a) n c → w.heap.size ≤ a.block := by
 have b0 := Boxed.new w 9 (.string (ba s))
 have g0 : Below w.heap.size w (w.alloc (.cells #[.string (ba s)] 9)) := (Below.refl _ w).alloc (Nat.le_refl _) _
 have z0 : w.heap.size < (w.alloc (.cells #[.string (ba s)] 9)).heap.size := by simp
 have HA := hid1 (callsIn_wide.1 (AppendLines_in 3 (by omega) w.heap.size w.heap.size s hs _ z0 (Nat.le_refl _) b0.cell b0.frozen))
 clear b0
 generalize w.alloc (.cells #[.string (ba s)] 9) = W at *
 go_enter Tryz.func96,Tryz.ntmps96
 go_wp2_with fail
 refine HA.out.mono ?_
 rintro e w1 ⟨v,rfl,hrow,hB⟩
 go_wp2
 go_ret
 refine ⟨v,rfl,XRow.of_owns hrow,g0.trans hB,fun a n c e => ?_⟩
 rcases hrow.2 with ⟨h,_⟩ | ⟨g,cap,cur,h,hg,_⟩
 ·rw [h] at e
  cases e
 ·rw [h] at e
  cases e
  exact Nat.le_of_lt (Nat.lt_of_lt_of_le z0 hg)
theorem rIndex_calls {w : World} (v : Value) (l : List (List UInt8)) (x : List UInt8) (hrow : IRow w v l) (hl : l.length ≤ 1000000) :
  Calls Tryz.prog 9 #[v,.string (ba x)] w fun e w' => ∃ r : Int,e = .returned (.int .i64 r) ∧ w' = w ∧ ((r = -1 ∧ x ∉ l) ∨ ∃ k : Nat,r = k ∧ ∃ h : k < l.length,l[k] = x ∧ x ∉ l.take k) := by
 obtain ⟨p,cap,rfl,hin⟩ := hrow
 have HI := hid1 hin
 clear hin
 go_enter Tryz.func9,Tryz.ntmps9
 go_wp2
 go_loopw [5] (fun i wr => ∃ k : Nat,k ≤ l.length ∧ i = .int .i64 k ∧ x ∉ l.take k ∧ w = wr) (fun i _ => l.length - (intOf i).toNat)
 case atStart => exact ⟨0,Nat.zero_le _,rfl,by simp,rfl⟩
 case round =>
  obtain ⟨k,hk,rfl,hz,rfl⟩ := hrel
  have HZ := hid1 hz
  clear hz
  have c0 : (0 : Int) ≤ (k : Int) := by omega
  by_cases hlt : k < l.length
  ·have c1 : (k : Int) < (l.length : Int) := by omega
   obtain ⟨g',o,rfl,hg,hcur⟩ := HI.out (by intro e;rw [e] at hlt;simp at hlt)
   have hcell := hcur k hlt
   have HT : Hid (l[k] ≠ x → x ∉ l.take (k + 1)) := hid1 fun hne => by
    rw [List.take_succ_eq_append_getElem hlt]
    simp only [List.mem_append,List.mem_singleton,not_or]
    exact ⟨HZ.out,fun e => hne e.symm⟩
   have HP : Hid (l[k] = x → ∃ j : Nat,(k : Int) = j ∧ ∃ h : j < l.length,l[j] = x ∧ x ∉ l.take j) := hid1 fun he => ⟨k,rfl,hlt,he,HZ.out⟩
   clear hcur HI HZ
   generalize l[k] = y at *
   by_cases he : y = x
   ·subst he
    have HPP := hid1 (HP.out rfl)
    clear HP HT
    go_wp2
    go_ret
    exact ⟨_,rfl,rfl,.inr HPP.out⟩
   ·have e1 : (y == x) = false := by simpa using he
    have HTT := hid1 (HT.out he)
    clear HP HT
    go_wp2
    exact ⟨⟨k + 1,by omega,by go_num,HTT.out,trivial⟩,by simp [intOf];omega⟩
  ·have c1 : (l.length : Int) ≤ (k : Int) := by omega
   have HN : Hid (x ∉ l) := hid1 (by
    have := HZ.out
    rwa [List.take_of_length_le (by omega)] at this)
   clear HI HZ
   go_wp2
   go_ret
   exact ⟨_,rfl,rfl,.inl ⟨rfl,HN.out⟩⟩
theorem Tryz.infoRule : (Tryz.prog.info? 36).map (fun i => (i.zero,i.size,i.bytes)) = some (some (.agg #[.string ⟨#[]⟩,.string ⟨#[]⟩,.string ⟨#[]⟩,.slice none 0 0]),4,72) := by kernel_rfl
theorem row_low4 {w : World} {base : Nat} {e : TypeId} {size : Nat} {v : Value} {n : Nat} {xs : List Value} (h : w.ownsRow base e size v n xs) : ∀ k,v.ownBlock = some k → base ≤ k := by
 intro k hk
 rcases h.2 with ⟨rfl,_⟩ | ⟨g,cap,cur,rfl,hb,_⟩
 ·cases hk
 ·cases hk;exact hb
def ruCells (l : List (Ru × Value)) : List Value := l.flatMap fun x => [.string (ba x.1.out),.string (ba x.1.kind),.string (ba x.1.word),x.2]
theorem ruCells_snoc (l : List (Ru × Value)) (x : Ru × Value) : ruCells (l ++ [x]) = ruCells l ++ [.string (ba x.1.out),.string (ba x.1.kind),.string (ba x.1.word),x.2] := by simp [ruCells]
theorem ruCells_at : ∀ (l : List (Ru × Value)) (j : Nat) (h : j < l.length),(ruCells l)[j * 4]? = some (.string (ba l[j].1.out)) ∧ (ruCells l)[j * 4 + 1]? = some (.string (ba l[j].1.kind)) ∧ (ruCells l)[j * 4 + 2]? = some (.string (ba l[j].1.word)) ∧ (ruCells l)[j * 4 + 3]? = some l[j].2
 | x :: r,0,_ => by simp [ruCells]
 | x :: r,j + 1,h => by
  have ih := ruCells_at r j (by simpa using h)
  have e : ruCells (x :: r) = .string (ba x.1.out) :: .string (ba x.1.kind) :: .string (ba x.1.word) :: x.2 :: ruCells r := by simp [ruCells]
  rw [e,show (j + 1) * 4 = j * 4 + 1 + 1 + 1 + 1 by omega]
  simpa [Nat.add_assoc] using ih
theorem RRow.of_owns {w : World} {base : Nat} {v : Value} {l : List (Ru × Value)} {n : Nat} (h : w.ownsRow base 36 4 v n (ruCells l)) (hn : n = l.length) (hx : ∀ x ∈ l,XRow w x.2 x.1.ins) : RRow w v (l.map Prod.fst) := by
 subst hn
 rcases h.2 with ⟨rfl,hn⟩ | ⟨g,cap,cur,rfl,_,hb,h1,_,_,h4⟩
 ·obtain rfl : l = [] := by simpa using hn
  exact RRow.nil w
 ·refine ⟨some ⟨g,0,none⟩,cap,by simp,by simpa using h1,fun h => (by cases h),fun _ => ⟨g,0,rfl,(Array.getElem?_eq_some_iff.1 hb).1,fun j hj => ?_⟩⟩
  have hj' : j < l.length := by simpa using hj
  have key : ∀ i x,i < l.length * 4 → (ruCells l)[i]? = some x → w.cell? ⟨g,i,none⟩ = some x := fun i x hi hx => by
   have := congrArg (fun y => y[i]?) h4
   simp only [List.getElem?_take,hi,if_true,hx,Array.getElem?_toList] at this
   exact cell_of_row hb this
  obtain ⟨a0,a1,a2,a3⟩ := ruCells_at l j hj'
  rw [Nat.zero_add,List.getElem_map]
  exact ⟨key _ _ (by omega) a0,key _ _ (by omega) a1,key _ _ (by omega) a2,_,key _ _ (by omega) a3,hx _ (List.getElem_mem hj')⟩
theorem four_new (W : World) (x0 x1 x2 x3 : Value) (t : TypeId) (n : Nat) (hn : W.heap.size = n) (j : Nat) (u : Value) (h : [x0,x1,x2,x3][j]? = some u) : (W.alloc (.cells #[x0,x1,x2,x3] t)).cell? ((⟨n,0,none⟩ : Addr).add j) = some u := by
 subst hn
 rw [add_at2,Nat.zero_add,World.cell?_alloc_at _ _ _ _ rfl]
 simpa using h
end Go.Proofs.YtdljhggillgpfaaGreatDoor
