import Derived.Test.YtdljhggillgpfaaGreatDoorSA38
set_option maxRecDepth 100000
set_option maxHeartbeats 4000000
namespace Go.Proofs.YtdljhggillgpfaaGreatDoor
open Go.RowKit Go.Shelf Go.Lib
attribute [local go_sem] Oper.semAt_some
theorem cell_same {W V : World} {b o : Nat} (h : V.heap[b]? = W.heap[b]?) : V.cell? ⟨b,o,none⟩ = W.cell? ⟨b,o,none⟩ := by simp [World.cell?,h]
theorem frozen_same {W V : World} {b o : Nat} (h : V.heap[b]? = W.heap[b]?) : V.frozen? ⟨b,o,none⟩ = W.frozen? ⟨b,o,none⟩ := by simp [World.frozen?,h]
structure LnJ (n₀ : Nat) (w : World) (Bs L D : Nat) (rc : Loop) (pre : List (List UInt8)) (W : World) : Prop where
 box : ∃ v,Boxed W Bs 22 v ∧ W.ownsRow Bs 9 1 v pre.length (pre.map sv)
 base : Below n₀ w W
 loop : W.heap[L]? = some (.loop rc)
 dfr : W.heap[D]? = some (.deferred (some []))
theorem LnJ.set {n₀ : Nat} {w : World} {Bs L D : Nat} {rc : Loop} {pre : List (List UInt8)} {W : World} (h : LnJ n₀ w Bs L D rc pre W) {b : Nat} (hb : n₀ ≤ b) (h1 : b < Bs) (h2 : b < L) (h3 : b < D) (v : Value) : LnJ n₀ w Bs L D rc pre (W.setCell ⟨b,0,none⟩ v) := by
 obtain ⟨u,hu,hr⟩ := h.box
 refine ⟨⟨u,(Below.heap_setCell _ _ _ _ (by show Bs ≠ b;omega)).trans hu,ownsRow_setCell_other hr (fun e => ?_) _⟩,h.base.setCell (p := ⟨b,0,none⟩) hb _,(Below.heap_setCell _ _ _ _ (by show L ≠ b;omega)).trans h.loop,(Below.heap_setCell _ _ _ _ (by show D ≠ b;omega)).trans h.dfr⟩
 rcases hr.2 with ⟨rfl,_⟩ | ⟨g,cap,cur,rfl,hg,_⟩
 ·simp [Value.ownBlock] at e
 ·have : g = b := by simpa [Value.ownBlock] using e
  omega
theorem range_named {F : Fence} {n : Nat} {P : Program} {g : Operand} {ps : Array Tmp} {assign body : Code} {Q : Exit → Act → World → Prop} {a : Act} {w : World}
  (hro : F.round = none) (h1 : 1 ≤ n) {gf : Nat} {lb : Array Value} (hg : a.eval g = .func (.func gf) #[] lb) (hFg : F.fn gf) (eg : ∀ args w,(callFunc gf args).run P w = .ok (.enter gf args) w)
  (hc : ∀ fn,F.fn fn → ∀ (rc : Loop),rc = { state := .ready,pending := none,fn,tmps := a.tmps,params := ps,assign,body,defers := w.heap.size } →
   CallsIn F (n - 1) P gf (#[.func (.yield (w.heap.size + 1)) #[] #[]] ++ lb) ((w.alloc (.deferred (some []))).alloc (.loop rc)) (rangePost F n P (w.heap.size + 1) Q { a with defers := { target := .collected w.heap.size,args := #[] } :: a.defers })) :
  (Code.rangeFunc g ps assign body).wpIn F n P Q a w := by
 refine wpIn_rangeFunc fun fn hfn => ?_
 rw [hro]
 refine ⟨w.heap.size + 1,_,_,{ target := .fn (.func gf) lb,args := #[.func (.yield (w.heap.size + 1)) #[] #[]] },(w.alloc (.deferred (some []))).alloc (.loop { state := .ready,pending := none,fn,tmps := a.tmps,params := ps,assign,body,defers := w.heap.size }),gf,_,_,run_enterLoop_outer _ _ _ _ _,?_,?_,?_,fun _ => h1,hc fn hfn _ rfl⟩
 ·simp only [resolve,hg]
  simp [go_sem]
 ·intro f' hf'
  simp [Target.leads] at hf'
  subst hf'
  exact hFg
 ·simp [invoke,go_sem,eg]
theorem AppendLines_in (n : Nat) (hn : 3 ≤ n) (n₀ Bn : Nat) (s : List UInt8) (hs : s.length ≤ 100000) (w : World) (hBn : Bn < w.heap.size) (hn0 : n₀ ≤ Bn) (hc : w.cell? ⟨Bn,0,none⟩ = some (.string (ba s))) (hf : w.frozen? ⟨Bn,0,none⟩ = false) :
  CallsIn Fence.wide n Tryz.prog 131 #[.slice none 0 0,.func (.func 132) #[] #[.pointer (some ⟨Bn,0,none⟩)]] w fun e W' =>
   ∃ v,e = .returned v ∧ W'.ownsRow w.heap.size 9 1 v (Rd.lines s).length ((Rd.lines s).map sv) ∧ Below n₀ w W' := by
 have h1 : 1 ≤ n := by omega
 obtain ⟨i0,hi,hz0,hz1,hz2⟩ := info_parts Tryz.infoStr
 refine callsIn_of_wp_marks Tryz.func131 rfl trivial ?_ rfl
 simp only [Tryz.ntmps131,List.size_toArray,List.length_cons,List.length_nil,Nat.reduceAdd,Nat.reduceSub,Array.replicate_succ,Array.replicate_zero,List.push_toArray,List.append_toArray,List.nil_append,List.cons_append]
 gi_wp2
 obtain ⟨W0,hW0⟩ : ∃ W0,w.alloc (.cells #[.slice none 0 0] 22) = W0 := ⟨_,rfl⟩
 have b0 : Boxed W0 w.heap.size 22 (.slice none 0 0) := by rw [← hW0];exact Boxed.new w 22 (.slice none 0 0)
 have g0 : Below w.heap.size w W0 := by rw [← hW0];exact (Below.refl _ w).alloc (Nat.le_refl _) _
 have z0 : W0.heap.size = w.heap.size + 1 := by rw [← hW0];simp
 rw [hW0]
 refine range_named rfl h1 (gf := 132) (lb := #[.pointer (some ⟨Bn,0,none⟩)]) rfl trivial (enters_of Tryz.func132 (by kernel_rfl) rfl) ?_
 intro fn hfn rc hrc
 obtain ⟨W1,hW1⟩ : ∃ W1,(W0.alloc (.deferred (some []))).alloc (.loop rc) = W1 := ⟨_,rfl⟩
 have g1 : Below W0.heap.size W0 W1 := by rw [← hW1];exact ((Below.refl _ W0).alloc (Nat.le_refl _) _).alloc (by simp) _
 have l1 : W1.heap[W0.heap.size + 1]? = some (.loop rc) := by
  rw [← hW1];have := World.alloc_heap_new (W0.alloc (.deferred (some []))) (.loop rc);rwa [World.size_alloc] at this
 have d1 : W1.heap[W0.heap.size]? = some (.deferred (some [])) := by
  rw [← hW1];exact (Below.heap_alloc _ _ _ (by simp)).trans (World.alloc_heap_new W0 _)
 rw [hW1]
 have hBW : Bn < W0.heap.size := by omega
 have j1 : LnJ n₀ w w.heap.size (W0.heap.size + 1) W0.heap.size rc [] W1 := ⟨⟨_,boxed_below b0 g1,World.ownsRow_nil _ _ _ _⟩,(g0.mono (by omega)).trans (g1.mono (by omega)),l1,d1⟩
 have c1 : W1.cell? ⟨Bn,0,none⟩ = some (.string (ba s)) := (g1.cell (p := ⟨Bn,0,none⟩) hBW).trans ((g0.cell (p := ⟨Bn,0,none⟩) hBn).trans hc)
 have f1 : W1.frozen? ⟨Bn,0,none⟩ = false := by
  unfold World.frozen? at hf ⊢
  rw [g1.block Bn hBW,g0.block Bn hBn]
  exact hf
 refine (lines1_in (n - 1) (by omega) (W0.heap.size + 1) Bn s hs (LnJ n₀ w w.heap.size (W0.heap.size + 1) W0.heap.size rc)
  (fun pre W v h => h.set hn0 (by omega) (by omega) (by omega) v) (fun pre W h => ⟨h.box.imp fun v hv => ⟨hv.1,hv.2.drew⟩,h.base.drew,h.loop,h.dfr⟩) ?_ W1 c1 f1 j1).mono ?_
 ·rintro pre x W ⟨⟨v,hv,hrow⟩,hB,hl,hd⟩ hlen
  have hlt : W0.heap.size + 1 < W.heap.size := (Array.getElem?_eq_some_iff.1 hl).1
  have hy := run_yield (P := Tryz.prog) (args := #[.string (ba x)]) hl (by rw [hrc];rfl)
  rw [hrc] at hy
  refine ⟨fn,_,_,_,hy,roundIn_of_wpIn hfn ?_⟩
  gi_wp2
  refine ⟨_,run_beginRound hl (by rw [hrc]),?_⟩
  have hbw : w.heap.size < W.heap.size := hv.lt
  obtain ⟨W2,hW2⟩ : ∃ W2,W.putObj (W0.heap.size + 1) (.loop { rc with state := .busy }) = W2 := ⟨_,rfl⟩
  have hv2 : Boxed W2 w.heap.size 22 v := by rw [← hW2];exact (World.putObj_heap_other (by omega)).trans hv
  have hrow2 : W2.ownsRow w.heap.size 9 1 v pre.length (pre.map sv) := by rw [← hW2];exact ownsRow_putObj hrow _ hl rfl
  have hl2 : W2.heap[W0.heap.size + 1]? = some (.loop { rc with state := .busy }) := by rw [← hW2];exact World.putObj_heap_same hlt
  have hd2 : W2.heap[W0.heap.size]? = some (.deferred (some [])) := by rw [← hW2];exact (World.putObj_heap_other (by omega)).trans hd
  have hsW : W0.heap.size + 1 < W2.heap.size := by rw [← hW2];simpa using hlt
  have hB2 : Below n₀ w W2 := by rw [← hW2];exact hB.grown (grownBy_putObj' W _ _) (by omega) (fun k e => by cases e;omega)
  have hbn2 : W2.heap[Bn]? = W.heap[Bn]? := by rw [← hW2];exact World.putObj_heap_other (by omega)
  rw [hW2]
  have hc2 := hv2.cell
  have hpl : pre.length ≤ 100000 := by have := Rd.lines_len s;omega
  have hml : pre.length + 1 ≤ maxLen := by unfold maxLen;omega
  clear hW2 hy hl hd hv hrow
  gi_wp2_with (gi_at_builtin;refine wpListIn_append_own _ rfl _ _ 22 rfl w.heap.size 9 i0 (.string ⟨#[]⟩) 1 16 Tryz.underlying22 hi hz0 hz1 hz2 rfl (by decide) _ _ _ rfl (hrow2.alloc _) ⟨W2.heap.size,0,none⟩ 1 1 [.string (ba x)] rfl rfl (cell_one_new _ _ _) (by simp [Value.oneCell']) hml (by omega) (by simp;omega) ?_;intro v' w1 hown' hgrow _;obtain ⟨g',cap',rfl⟩ := ownsRow_succ hown';obtain ⟨hv3,hv4,hr4,hk4,hb4⟩ := hv2.appended (by decide) hrow2 (by omega) (Nat.le_refl _) hown' hgrow;have hc3 := hv3.cell;have hf3 := hv3.frozen)
  have hl4 := hk4.same _ _ hl2 rfl
  have hd4 := hk4.same _ _ hd2 rfl
  have hlt4 := (Array.getElem?_eq_some_iff.1 hl4).1
  have er : ({ ({ rc with state := .busy } : Loop) with state := if (none : Option Code).isNone then .ready else .done,pending := none } : Loop) = rc := by rw [hrc];rfl
  have hend := run_endRound (P := Tryz.prog) none hl4
  rw [er] at hend
  refine ⟨_,_,hend,rfl,⟨⟨_,(World.putObj_heap_other (by omega)).trans hv4,by simpa using ownsRow_putObj hr4 _ hl4 rfl⟩,?_,World.putObj_heap_same hlt4,(World.putObj_heap_other (by omega)).trans hd4⟩,?_,?_⟩
  ·exact (hB2.trans (hb4.mono (by omega))).grown (grownBy_putObj' _ _ _) (by omega) (fun k e => by cases e;omega)
  ·exact cell_same (((World.putObj_heap_other (by omega)).trans (hb4.block Bn hBn)).trans hbn2)
  ·exact frozen_same (((World.putObj_heap_other (by omega)).trans (hb4.block Bn hBn)).trans hbn2)
 ·rintro e W2 ⟨⟨v,rfl⟩,⟨u,hu,hrow⟩,hB,hl,hd⟩
  have hlt : W0.heap.size + 1 < W2.heap.size := (Array.getElem?_eq_some_iff.1 hl).1
  have hend := run_endLoop (P := Tryz.prog) hl (by rw [hrc];simp)
  rw [show rc.pending = none by rw [hrc]] at hend
  refine ⟨none,_,hend,?_⟩
  obtain ⟨W3,hW3⟩ : ∃ W3,W2.putObj (W0.heap.size + 1) (.loop { rc with state := .exhausted,pending := none }) = W3 := ⟨_,rfl⟩
  have hu3 : Boxed W3 w.heap.size 22 u := by rw [← hW3];exact (World.putObj_heap_other (by omega)).trans hu
  have hrow3 : W3.ownsRow w.heap.size 9 1 u (Rd.lines s).length ((Rd.lines s).map sv) := by rw [← hW3];exact ownsRow_putObj hrow _ hl rfl
  have hd3 : W3.heap[W0.heap.size]? = some (.deferred (some [])) := by rw [← hW3];exact (World.putObj_heap_other (by omega)).trans hd
  have hB3 : Below n₀ w W3 := by rw [← hW3];exact hB.grown (grownBy_putObj' W2 _ _) (by omega) (fun k e => by cases e;omega)
  rw [hW3]
  have hc3 := hu3.cell
  clear hend hl hd hu hrow hB hW3
  rw [z0] at hd3
  gi_wp2
  refine ⟨by simp,.inl ⟨_,_,rfl,run_takeDeferred hd3,?_⟩⟩
  exact ⟨_,results_tmp rfl _ _ _,u,rfl,ownsRow_putObj hrow3 _ hd3 rfl,hB3.grown (grownBy_putObj' W3 _ _) (by have := hB3.size;omega) (fun k e => by cases e;omega)⟩
theorem strLines_calls (s : List UInt8) (w : World) :
  Calls Tryz.prog 97 #[.string (ba s)] w fun e w' => e = .returned (.func (.func 132) #[] #[.pointer (some ⟨w.heap.size,0,none⟩)]) ∧ w' = w.alloc (.cells #[.string (ba s)] 9) := by
 go_enter Tryz.func97,Tryz.ntmps97
 go_wp2
 go_ret
 exact ⟨rfl,rfl⟩
theorem CollectLines_calls (s : List UInt8) (hs : s.length ≤ 100000) (w : World) :
  Calls Tryz.prog 96 #[.func (.func 132) #[] #[.pointer (some ⟨w.heap.size,0,none⟩)]] (w.alloc (.cells #[.string (ba s)] 9)) fun e W' =>
   ∃ v,e = .returned v ∧ XRow W' v (Rd.lines s) ∧ Below w.heap.size w W' ∧ ∀ a n c,v = .slice (some a) n c → w.heap.size ≤ a.block := by
 have b0 := Boxed.new w 9 (.string (ba s))
 have g0 : Below w.heap.size w (w.alloc (.cells #[.string (ba s)] 9)) := (Below.refl _ w).alloc (Nat.le_refl _) _
 have z0 : w.heap.size < (w.alloc (.cells #[.string (ba s)] 9)).heap.size := by simp
 have HA := hid1 (callsIn_wide.1 (AppendLines_in 3 (by omega) w.heap.size w.heap.size s hs _ z0 (Nat.le_refl _) b0.cell b0.frozen))
 clear b0
 generalize w.alloc (.cells #[.string (ba s)] 9) = W at *
 go_enter Tryz.func96,Tryz.ntmps96
 go_wp2_with fail
 refine HA.out.mono ?_
 rintro e w1 ⟨v,rfl,hrow,hB⟩
 go_wp2
 go_ret
 refine ⟨v,rfl,XRow.of_owns hrow,g0.trans hB,fun a n c e => ?_⟩
 rcases hrow.2 with ⟨h,_⟩ | ⟨g,cap,cur,h,hg,_⟩
 ·rw [h] at e
  cases e
 ·rw [h] at e
  cases e
  exact Nat.le_of_lt (Nat.lt_of_lt_of_le z0 hg)
end Go.Proofs.YtdljhggillgpfaaGreatDoor
