import Derived.Test.YtdljhggillgpfaaGreatDoorSA46
set_option maxRecDepth 100000
set_option maxHeartbeats 32000000
namespace Go.Proofs.YtdljhggillgpfaaGreatDoor
open Go.RowKit Go.Shelf Go.Lib
def LineV (v : Value) : Prop := ∃ (s : List UInt8) (b : Bool),v = .tuple #[.string (ba s),.bool b] ∧ Sc.Fit s
theorem LineV.short (t : ByteArray) (b : Bool) (h : t.size ≤ 900) : LineV (.tuple #[.string t,.bool b]) := by
 obtain ⟨s,rfl,hs⟩ := ba_bytes t
 exact ⟨s,b,rfl,Sc.fit_short (by omega)⟩
theorem LineV.rule (t : ByteArray) (b : Bool) (h : t.size ≤ 80000) : LineV (.tuple #[.string ((⟨#[114,117,108,101,32]⟩ : ByteArray) ++ t),.bool b]) := by
 obtain ⟨s,rfl,hs⟩ := ba_bytes t
 refine ⟨[114,117,108,101,32] ++ s,b,?_,Sc.fit_rule (by omega)⟩
 rw [← ba_append]
theorem join_len64 {ls : List (List UInt8)} (h : ∀ x ∈ ls,x.length ≤ 64) : (Lib.join ls [32]).length ≤ ls.length * 65 := by
 induction ls with
 | nil => simp [Lib.join,List.intercalate]
 | cons x r ih =>
  have h1 := h x (by simp)
  have h2 := ih fun z hz => h z (List.mem_cons_of_mem _ hz)
  cases r with
  | nil =>
   simp [Lib.join,List.intercalate]
   omega
  | cons y r =>
   have e : Lib.join (x :: y :: r) [32] = x ++ ([32] ++ Lib.join (y :: r) [32]) := by simp [Lib.join,List.intercalate]
   rw [e]
   simp only [List.length_append,List.length_cons,List.length_nil] at h2 ⊢
   omega
theorem szb (n : List UInt8) : (ByteArray.mk n.toArray).size = n.length := by simp [ByteArray.size]
theorem lineOf_calls {W : World} (lw : List UInt8) (pv : Value) (lt : List UInt8) (r : Ru) (iv : Value) (ps : List (List UInt8)) (hp : XRow W pv ps) (hi : XRow W iv r.ins) (hlt : lt.length ≤ 300) (hpl : ps.length ≤ 6) (hps : ∀ x ∈ ps,x.length ≤ 300) (hr : r.Small) :
  Calls Tryz.prog 12 #[lnV lw pv lt r iv] W fun e w' => ∃ v,e = .returned v ∧ LineV v ∧ Below W.heap.size W w' := by
 obtain ⟨W1,hW1⟩ : ∃ W1,W.alloc (.cells #[.string (ba lw),pv,.string (ba lt),.string (ba r.out),.string (ba r.kind),.string (ba r.word),iv] 38) = W1 := ⟨_,rfl⟩
 have g1 : Below W.heap.size W W1 := by rw [← hW1];exact (Below.refl _ W).alloc (Nat.le_refl _) _
 have rA : W1.heap[W.heap.size]? = some (.cells #[.string (ba lw),pv,.string (ba lt),.string (ba r.out),.string (ba r.kind),.string (ba r.word),iv] 38 (0,0)) := by rw [← hW1];exact row_newW W _
 have c0 : W1.cell? ⟨W.heap.size,0,none⟩ = some (.string (ba lw)) := cell_of_row (j := 0) rA rfl
 have c1 : W1.cell? ⟨W.heap.size,1,none⟩ = some (pv) := cell_of_row (j := 1) rA rfl
 have c2 : W1.cell? ⟨W.heap.size,2,none⟩ = some (.string (ba lt)) := cell_of_row (j := 2) rA rfl
 have c3 : W1.cell? ⟨W.heap.size,3,none⟩ = some (.string (ba r.out)) := cell_of_row (j := 3) rA rfl
 have c4 : W1.cell? ⟨W.heap.size,4,none⟩ = some (.string (ba r.kind)) := cell_of_row (j := 4) rA rfl
 have c5 : W1.cell? ⟨W.heap.size,5,none⟩ = some (.string (ba r.word)) := cell_of_row (j := 5) rA rfl
 have c6 : W1.cell? ⟨W.heap.size,6,none⟩ = some (iv) := cell_of_row (j := 6) rA rfl
 have HP := hid1 hp
 have HPs := hid1 hps
 have HG1 := hid1 g1
 have HRl := hid1 (And.intro hi hr)
 have HLt := hid1 hlt
 have hpv : ∃ p c,pv = .slice p ps.length c := by obtain ⟨p,c,e,-⟩ := hp;exact ⟨p,c,e⟩
 obtain ⟨pp,pc,rfl⟩ := hpv
 have hiv : ∃ p c,iv = .slice p r.ins.length c := by obtain ⟨p,c,e,-⟩ := hi;exact ⟨p,c,e⟩
 obtain ⟨ip,ic,rfl⟩ := hiv
 have zps : (ps.length : Int) ≤ 6 := by omega
 clear hp hps hr hi hlt rA
 go_enter Tryz.func12,Tryz.ntmps12
 go_wp2
 go_loopw [4] (fun kv wr => ∃ k : Nat,k ≤ ps.length ∧ kv = .int .i64 k ∧ (∀ x ∈ ps.take k,pathB x = true) ∧ Below W1.heap.size W1 wr) (fun kv _ => ps.length - (intOf kv).toNat)
 case atStart => exact ⟨0,Nat.zero_le _,rfl,by simp,Below.refl _ _⟩
 case round =>
  obtain ⟨k,hk,rfl,hall,gB⟩ := hrel
  have HAll := hid1 hall
  have k0 : (0 : Int) ≤ (k : Int) := by omega
  have GB := below_then g1 gB
  have HGB := hid1 GB
  have d0 := cell_below' c0 gB
  have d1 := cell_below' c1 gB
  have d2 := cell_below' c2 gB
  have d3 := cell_below' c3 gB
  have d4 := cell_below' c4 gB
  have d5 := cell_below' c5 gB
  have d6 := cell_below' c6 gB
  clear hall
  by_cases hlt : k < ps.length
  ·have k1 : (k : Int) < (ps.length : Int) := by omega
   obtain ⟨p',c',e',-,-,hin⟩ := HP.out
   simp only [Value.slice.injEq,true_and] at e'
   obtain ⟨rfl,rfl⟩ := e'
   obtain ⟨gs,os,rfl,hgs,hcs⟩ := hin (by intro e;rw [e] at hlt;simp at hlt)
   have dk := cell_below' (hcs k hlt) GB
   have hx := HPs.out _ (List.getElem_mem hlt)
   have HI := hid1 (IsPath_calls ps[k] (by omega) wr)
   rw [← pathB_R] at HI
   have HN : Hid (pathB ps[k] = true → ∀ x ∈ ps.take (k + 1),pathB x = true) := hid1 fun h x hx => by
    rw [List.take_succ_eq_append_getElem hlt] at hx
    rcases List.mem_append.1 hx with h1 | h1
    ·exact HAll.out x h1
    ·rw [List.mem_singleton.1 h1];exact h
   have HB0 := hid1 gB
   clear hcs hin HP HPs HAll HRl HLt c0 c1 c2 c3 c4 c5 c6 d0 d2 d3 d4 d5 d6
   generalize ps[k] = x at *
   cases hpx : pathB x with
   | false =>
    rw [hpx] at HI
    clear HN hpx
    go_wp2_with fail
    refine HI.out.mono ?_
    rintro e w2 ⟨rfl,g2⟩
    have HF := hid1 (below_then GB g2)
    clear HI
    go_wp2
    go_ret2
    exact ⟨_,rfl,LineV.short _ _ (by decide),HF.out⟩
   | true =>
    rw [hpx] at HI
    have HN1 := hid1 (HN.out hpx)
    clear HN hpx
    go_wp2_with fail
    refine HI.out.mono ?_
    rintro e w2 ⟨rfl,g2⟩
    have HF := hid1 (below_then HB0.out g2)
    clear HI
    go_wp2
    exact ⟨⟨k + 1,by omega,by go_num,HN1.out,HF.out⟩,by simp [intOf];omega⟩
  ·obtain rfl : k = ps.length := by omega
   have hp64 : ∀ x ∈ ps,x.length ≤ 64 := fun x hx => pathLen (HAll.out x (by rw [List.take_length];exact hx))
   have HJ := hid1 fun (V : World) (g : Below wr.heap.size wr V) => JoinedI_calls (.slice pp ps.length pc) ps (((HP.out.below GB).below g).irow) (by omega) fun x hx => by have := hp64 x hx;omega
   have hjl := join_len64 hp64
   have hjs : (ba (Lib.join ps [32])).size ≤ 390 := by rw [ba_size];omega
   have HRw := hid1 (And.intro (HRl.out.1.below GB) HRl.out.2)
   clear HAll hp64 hjl HP HPs HRl c0 c1 c2 c3 c4 c5 c6 gB g1 hW1 HG1 hlt hk
   generalize ba (Lib.join ps [32]) = bj at *
   by_cases e1 : lw = [99,108,101,97,114]
   ·subst e1
    clear HJ HLt HRw d2 d3 d4 d5 d6
    go_wp2
    go_region
    all_goals
     go_wp2
     go_ret2
     exact ⟨_,rfl,LineV.short _ _ (by decide),HGB.out.drew⟩
   by_cases e2 : lw = [115,116,97,108,101]
   ·subst e2
    clear HJ HLt HRw d2 d3 d4 d5 d6
    go_wp2
    go_region
    all_goals
     go_wp2
     go_ret2
     exact ⟨_,rfl,LineV.short _ _ (by decide),HGB.out.drew⟩
   by_cases e3 : lw = [111,114,100,101,114]
   ·subst e3
    clear HJ HLt HRw d2 d3 d4 d5 d6
    go_wp2
    go_region
    all_goals
     go_wp2
     go_ret2
     exact ⟨_,rfl,LineV.short _ _ (by decide),HGB.out.drew⟩
   by_cases e4 : lw = [108,101,97,118,101,115]
   ·subst e4
    clear HJ HLt HRw d2 d3 d4 d5 d6
    go_wp2
    go_region
    all_goals
     go_wp2
     go_ret2
     exact ⟨_,rfl,LineV.short _ _ (by decide),HGB.out.drew⟩
   by_cases e5 : lw = [102,105,108,101,115]
   ·subst e5
    clear HJ HLt HRw d2 d3 d4 d5 d6
    go_wp2
    go_region
    all_goals
     go_wp2
     go_ret2
     exact ⟨_,rfl,LineV.short _ _ (by decide),HGB.out.drew⟩
   have z1 : (lw == [99,108,101,97,114]) = false := by simpa using e1
   have z2 : (lw == [115,116,97,108,101]) = false := by simpa using e2
   have z3 : (lw == [111,114,100,101,114]) = false := by simpa using e3
   have z4 : (lw == [108,101,97,118,101,115]) = false := by simpa using e4
   have z5 : (lw == [102,105,108,101,115]) = false := by simpa using e5
   by_cases e6 : lw = [109,97,107,101]
   ·subst e6
    clear HLt HRw d2 d3 d4 d5 d6 z1 z2 z3 z4 z5
    by_cases hz : ps.length = 0
    ·have z0 : ((ps.length : Int) == 0) = true := by rw [hz];rfl
     clear HJ
     go_wp2
     go_ret2
     exact ⟨_,rfl,LineV.short _ _ (by decide),HGB.out⟩
    ·have z0 : ((ps.length : Int) == 0) = false := by rw [beq_eq_false_iff_ne];omega
     have HJ1 := hid1 (HJ.out wr (Below.refl _ wr))
     have hs1 : ¬ 9223372036854775807 < 5 + bj.size := by omega
     clear HJ
     go_wp2_with fail
     refine HJ1.out.mono ?_
     rintro e w2 ⟨rfl,rfl⟩
     clear HJ1
     go_wp2
     go_ret2
     exact ⟨_,rfl,LineV.short _ _ (by simp only [append_bytes,szb];simp;omega),HGB.out⟩
   have z6 : (lw == [109,97,107,101]) = false := by simpa using e6
   by_cases e7 : lw = [100,114,111,112]
   ·subst e7
    clear HLt HRw d2 d3 d4 d5 d6 z1 z2 z3 z4 z5 z6
    have hs1 : ¬ 9223372036854775807 < 5 + bj.size := by omega
    go_wp2
    go_quiet (first | (go_at_call 21;refine Calls.quiet_of_same (HJ.out _ ?_);first | exact Below.refl _ wr | exact (Below.refl _ wr).drew | exact below_draws (Below.refl _ wr) _) | fail)
    all_goals
     go_wp2
     go_ret2
     exact ⟨_,rfl,LineV.short _ _ (by simp only [append_bytes,szb];simp;omega),below_draws HGB.out nq⟩
   have z7 : (lw == [100,114,111,112]) = false := by simpa using e7
   by_cases e8 : lw = [115,104,111,119]
   ·subst e8
    clear HLt HRw d2 d3 d4 d5 d6 z1 z2 z3 z4 z5 z6 z7
    have hs1 : ¬ 9223372036854775807 < 5 + bj.size := by omega
    go_wp2
    go_quiet (first | (go_at_call 21;refine Calls.quiet_of_same (HJ.out _ ?_);first | exact Below.refl _ wr | exact (Below.refl _ wr).drew | exact below_draws (Below.refl _ wr) _) | fail)
    all_goals
     go_wp2
     go_ret2
     exact ⟨_,rfl,LineV.short _ _ (by simp only [append_bytes,szb];simp;omega),below_draws HGB.out nq⟩
   have z8 : (lw == [115,104,111,119]) = false := by simpa using e8
   by_cases e9 : lw = [119,97,110,116]
   ·subst e9
    clear HLt HRw d2 d3 d4 d5 d6 z1 z2 z3 z4 z5 z6 z7 z8
    have hs1 : ¬ 9223372036854775807 < 5 + bj.size := by omega
    go_wp2
    go_quiet (first | (go_at_call 21;refine Calls.quiet_of_same (HJ.out _ ?_);first | exact Below.refl _ wr | exact (Below.refl _ wr).drew | exact below_draws (Below.refl _ wr) _) | fail)
    all_goals
     go_wp2
     go_ret2
     exact ⟨_,rfl,LineV.short _ _ (by simp only [append_bytes,szb];simp;omega),below_draws HGB.out nq⟩
   have z9 : (lw == [119,97,110,116]) = false := by simpa using e9
   by_cases e10 : lw = [112,117,116]
   ·subst e10
    have HSw : Hid (∀ V : World,Calls Tryz.prog 22 #[.string (ba lt),.int .u8 10,.int .u8 59] V fun e w' => ∃ t : ByteArray,e = .returned (.string t) ∧ t.size ≤ 300 ∧ Below V.heap.size V w') := hid1 fun V => (swapped_calls lt (by have := HLt.out;omega) V).mono fun e w' ⟨t,h1,h2,h3⟩ => ⟨t,h1,by rw [h2];exact HLt.out,h3⟩
    clear HRw d3 d4 d5 d6 z1 z2 z3 z4 z5 z6 z7 z8 z9
    have hs1 : ¬ 9223372036854775807 < 4 + bj.size := by omega
    have hs2 : ¬ 9223372036854775807 < 4 + bj.size + 1 := by omega
    go_wp2
    go_region_held3 (fun w' => w'.cell? ⟨W.heap.size,1,none⟩ = some (.slice pp ps.length pc) ∧ w'.cell? ⟨W.heap.size,2,none⟩ = some (.string (ba lt))) (first | go_keep | fail)
     (first
      | (go_at_call 22;refine (HSw.out _).mono ?_;rintro e w4 ⟨t4,rfl,ht4,g4'⟩;have g4 := below_then (Below.refl wr.heap.size wr).drew g4';have f1 := cell_below' (w := wr.drew) d1 g4';have f2 := cell_below' (w := wr.drew) d2 g4';have hs3 : ¬ 9223372036854775807 < 4 + bj.size + 1 + t4.size := by omega)
      | (go_at_call 21;refine (HJ.out _ (by exact (Below.refl _ wr).drew)).mono ?_;rintro e w3 ⟨rfl,rfl⟩)
      | fail)
    all_goals
     go_wp2
     go_ret2
     exact ⟨_,rfl,LineV.short _ _ (by simp only [append_bytes,szb];simp;omega),below_then HGB.out g4⟩
   have z10 : (lw == [112,117,116]) = false := by simpa using e10
   by_cases e11 : lw = [114,117,108,101]
   ·subst e11
    clear HJ HLt d2 z1 z2 z3 z4 z5 z6 z7 z8 z9 z10
    have gR : Below wr.heap.size wr (wr.alloc (.cells #[.string (ba r.out),.string (ba r.kind),.string (ba r.word),.slice ip r.ins.length ic] 36)) := (Below.refl _ wr).alloc (Nat.le_refl _) _
    have rB := row_newW wr (.cells #[.string (ba r.out),.string (ba r.kind),.string (ba r.word),.slice ip r.ins.length ic] 36)
    have HSt := hid1 (SheetText1_calls (w := wr.alloc (.cells #[.string (ba r.out),.string (ba r.kind),.string (ba r.word),.slice ip r.ins.length ic] 36)) wr.heap.size 1 r ⟨cell_of_row (j := 0) rB rfl,cell_of_row (j := 1) rB rfl,cell_of_row (j := 2) rB rfl,_,cell_of_row (j := 3) rB rfl,HRw.out.1.below gR⟩ HRw.out.2)
    have b1 := cell_below' d1 gR
    have HGR := hid1 (below_then HGB.out gR)
    clear rB gR HRw
    generalize hw5 : wr.alloc (.cells #[.string (ba r.out),.string (ba r.kind),.string (ba r.word),.slice ip r.ins.length ic] 36) = w5 at *
    go_wp2_with fail
    refine HSt.out.mono ?_
    rintro e w6 ⟨t6,rfl,h61,h62,g6⟩
    have b6 := cell_below' b1 g6
    have HG6 := hid1 (below_then HGR.out g6)
    have s1 : (0 : Int) ≤ (t6.size : Int) - 1 := by omega
    have s2 : (t6.size : Int) - 1 ≤ (t6.size : Int) := by omega
    have s3 : IntKind.i64.wrap ((t6.size : Int) - 1) = (t6.size : Int) - 1 := by rw [IntKind.wrap_i64];omega
    have hsl : ∀ V : World,(Instr.slice 9 (.string t6) none (some (.int .i64 ((t6.size : Int) - 1))) none).run Tryz.prog V = .ok (.string (t6.extract 0 (t6.size - 1))) V := fun V => by
     rw [run_slice_string_h (P := Tryz.prog) V 9 t6 Tryz.underlying9 .i64 _ s1 s2,show ((t6.size : Int) - 1).toNat = t6.size - 1 by omega]
    have hxs : (t6.extract 0 (t6.size - 1)).size ≤ 6000 := by rw [ByteArray.size_extract];omega
    have HT := hid1 (LineV.rule (t6.extract 0 (t6.size - 1)))
    have hs1 : ¬ 9223372036854775807 < 5 + (t6.extract 0 (t6.size - 1)).size := by omega
    clear HSt g6 b1 d3 d4 d5 d6 d0 d1
    go_wp2
    go_region
    all_goals
     go_wp2
     go_ret2
     exact ⟨_,rfl,HT.out _ (by omega),HG6.out.drew⟩
   have z11 : (lw == [114,117,108,101]) = false := by simpa using e11
   clear HJ HLt HRw d2 d3 d4 d5 d6 e1 e2 e3 e4 e5 e6 e7 e8 e9 e10 e11
   go_wp2
   go_ret2
   exact ⟨_,rfl,LineV.short _ _ (by decide),HGB.out⟩
structure Ln where
 w : List UInt8
 p : List (List UInt8)
 t : List UInt8
 r : Ru
def LnAt (W : World) (g o : Nat) (x : Ln) : Prop :=
 W.cell? ⟨g,o,none⟩ = some (.string (ba x.w)) ∧ (∃ u,W.cell? ⟨g,o + 1,none⟩ = some u ∧ XRow W u x.p) ∧ W.cell? ⟨g,o + 2,none⟩ = some (.string (ba x.t)) ∧ RuAt W g (o + 3) x.r
def LnRow (W : World) (v : Value) (l : List Ln) : Prop :=
 ∃ p cap,v = .slice p l.length cap ∧ (l ≠ [] → ∃ g o,p = some ⟨g,o,none⟩ ∧ g < W.heap.size ∧ ∀ j (hj : j < l.length),LnAt W g (o + j * 7) l[j])
theorem LnAt.below {W w' : World} {g o : Nat} {x : Ln} (h : LnAt W g o x) (hb : Below W.heap.size W w') : LnAt w' g o x := by
 obtain ⟨h0,⟨u,h1,hx⟩,h2,h3⟩ := h
 exact ⟨cell_below' h0 hb,⟨u,cell_below' h1 hb,hx.below hb⟩,cell_below' h2 hb,h3.below hb⟩
end Go.Proofs.YtdljhggillgpfaaGreatDoor
namespace Go.Proofs.YtdljhggillgpfaaGreatDoor
namespace Lb
abbrev fs : Tf.Fs := [([97],[120])]
abbrev r : Ru := ⟨[98],[117,112,112,101,114],[],[[97]]⟩
abbrev l : List Ru := [r]
abbrev outs : List (List UInt8) := [[98]]
abbrev key : List UInt8 := Kp.key [117,112,112,101,114] [] [[120]]
abbrev d : Bf.Bd := ⟨fs,l,fun k => if k = 0 then .waits else .no⟩
theorem needs0 (i k : Nat) : Ru.needs l i k = false := by
 cases hn : Ru.needs l i k with
 | false => rfl
 | true =>
  obtain ⟨h1,h2⟩ := Ru.needs_lt hn
  obtain rfl : i = 0 := by simp at h1;omega
  obtain rfl : k = 0 := by simp at h2;omega
  have : Ru.needs l 0 0 = false := by decide
  rw [this] at hn
  cases hn
theorem needed : Ru.Needed l outs (fun k => decide (k = 0)) := by
 have hb : Ru.base l outs 0 = true := by decide
 refine ⟨fun k hk => ?_,fun i k _ h => ?_,fun P h1 _ k hk h => ?_⟩
 ·cases k with
  | zero => rfl
  | succ k =>
   simp [Ru.base] at hk
 ·rw [needs0] at h
  cases h
 ·obtain rfl : k = 0 := by simp at hk;omega
  exact h1 0 hb
theorem need0 : Bf.need l outs 0 = true := by
 rw [Bf.need_eq needed (by decide)]
 rfl
theorem init0 : Bf.init fs l outs = d := by
 unfold Bf.init
 congr 1
 funext k
 by_cases h : k = 0
 ·subst h
  rw [need0]
  rfl
 ·rw [Bf.need_out (by simp;omega)]
  simp [h]
theorem order0 : (Ru.order l (Bf.need l outs)).isSome = true := by
 rw [Ru.order_congr2 (g := fun k => decide (k = 0)) fun k hk => Bf.need_eq needed hk]
 decide
theorem act0 : Af.actO [117,112,112,101,114] [] [[120]] = ([88],0) := by decide
end Lb
end Go.Proofs.YtdljhggillgpfaaGreatDoor
namespace Go.Proofs.YtdljhggillgpfaaGreatDoor
open Go.RowKit Go.Shelf Go.Lib
namespace Sc
end Sc
namespace Lh
abbrev ln1 : List UInt8 := [112,117,116,32,97,32,120,59,121]
abbrev ln2 : List UInt8 := [114,117,108,101,32,98,32,61,32,117,112,112,101,114,32,97]
abbrev ln3 : List UInt8 := [109,97,107,101]
abbrev ln4 : List UInt8 := [115,104,111,119,32,98]
abbrev fs : Tf.Fs := [([97],[120,10,121])]
abbrev key : List UInt8 := Kp.key [117,112,112,101,114] [] [[120,10,121]]
abbrev d : Bf.Bd := ⟨fs,Lb.l,fun k => if k = 0 then .waits else .no⟩
abbrev d1 : Bf.Bd := d.set 0 (.done [88,10,89] false)
abbrev y1 : Bf.Yd := ⟨fs,[],[],some (8,[])⟩
abbrev y2 : Bf.Yd := ⟨fs,[],Lb.l,some (8,[])⟩
theorem step1 : Sc.step Sc.y0 ln1 = y1 := by kernel_rfl
theorem ans1 : Sc.ans Sc.y0 ln1 = Sc.ok := by kernel_rfl
theorem step2 : Sc.step y1 ln2 = y2 := by kernel_rfl
theorem ans2 : Sc.ans y1 ln2 = Sc.ok := by kernel_rfl
theorem init0 : Bf.init fs Lb.l Lb.outs = d := by
 unfold Bf.init
 congr 1
 funext k
 by_cases h : k = 0
 ·subst h
  rw [Lb.need0]
  rfl
 ·rw [Bf.need_out (by simp;omega)]
  simp [h]
theorem act0 : Af.actO [117,112,112,101,114] [] [[120,10,121]] = ([88,10,89],0) := by decide
theorem go1 : Bf.go Af.actO (some (8,[])) d 0 = ⟨false,0,d1,some (8,[(key,[88,10,89])])⟩ := by
 unfold Bf.go
 have e1 : d.ins 0 = some [[120,10,121]] := by decide
 have e2 : d.rule 0 = Lb.r := rfl
 rw [e1]
 simp only [e2]
 have e3 : Bf.cfind (some (8,[])) (Kp.key Lb.r.kind Lb.r.word [[120,10,121]]) = none := rfl
 rw [e3]
 simp only
 rw [act0,if_pos rfl]
 rfl
theorem made : y2.made [] = (d1,some (8,[(key,[88,10,89])])) := by
 rw [Bf.made_eq,show y2.l.map Ru.out = Lb.outs from rfl,show Bf.init y2.fs y2.l Lb.outs = d from init0]
 have hr : d.ready = [0] := by decide
 have hw : d.waits = 1 := by decide
 have hr1 : d1.ready = [] := by decide
 unfold Bf.all
 rw [hw]
 unfold Bf.allF
 rw [hr]
 simp only
 rw [go1]
 simp only
 unfold Bf.allF
 rw [hr1]
theorem order0 : (Ru.order Lb.l allB1).getD [] = [0] := by decide
theorem digits : Lib.decDigits 1 = [49] ∧ Lib.decDigits 0 = [48] := by
 constructor <;> (unfold Lib.decDigits;rfl)
theorem ans3 : Sc.ans y2 ln3 = [49,32,48,32,48,32,48] := by
 show Sc.told (Sc.makeA y2 []) = _
 have e : Sc.makeA y2 [] = (Sc.counts d1,0) := by
  unfold Sc.makeA
  rw [if_pos (show Sc.allOuts y2.l [] = true from rfl),made]
 rw [e]
 show Sc.counts d1 = _
 unfold Sc.counts
 rw [show d1.ran = 1 by decide,show d1.hits = 0 by decide,show d1.fails = 0 by decide,show d1.lefts = 0 by decide,digits.1,digits.2]
 rfl
theorem step3 : Sc.step y2 ln3 = y2.makeP [] := by
 show Sc.makeY y2 [] = _
 unfold Sc.makeY
 rw [if_pos (show Sc.allOuts y2.l [] = true from rfl)]
theorem os : (y2.makeP []).os = [([98],[88,10,89])] := by
 unfold Bf.Yd.makeP
 rw [made]
 show Bf.outP Lb.l d1 ((Ru.order Lb.l allB1).getD []) [] = _
 rw [order0]
 kernel_rfl
theorem ans4 : Sc.ans (y2.makeP []) ln4 = [88,59,89] := by
 have e : Sc.ans (y2.makeP []) ln4 = Sc.told (Sc.showA (y2.makeP []) [98]) := by
  have hc : Lib.cut ln4 [32] = ([115,104,111,119],[98],true) := by kernel_rfl
  have hp : pathB [98] = true := by rw [pathB_R];decide
  unfold Sc.ans
  rw [hc]
  show Sc.told (Sc.ofA (y2.makeP []) [115,104,111,119] [98]) = _
  unfold Sc.ofA
  rw [if_neg (by decide),if_neg (by decide),if_neg (by decide),if_neg (by decide),if_pos rfl,if_pos hp]
 rw [e]
 unfold Sc.showA
 rw [os]
 rfl
theorem answers : Sc.answers Sc.y0 [ln1,ln2,ln3,ln4] = [Sc.ok,Sc.ok,[49,32,48,32,48,32,48],[88,59,89]] := by
 show [Sc.ans Sc.y0 ln1,Sc.ans (Sc.step Sc.y0 ln1) ln2,Sc.ans (Sc.step (Sc.step Sc.y0 ln1) ln2) ln3,Sc.ans (Sc.step (Sc.step (Sc.step Sc.y0 ln1) ln2) ln3) ln4] = _
 rw [step1,step2,step3,ans1,ans2,ans3,ans4]
theorem fit : ∀ x ∈ [ln1,ln2,ln3,ln4],x.length ≤ 900 := by decide
end Lh
end Go.Proofs.YtdljhggillgpfaaGreatDoor
namespace Go.Proofs.YtdljhggillgpfaaGreatDoor
open Go.RowKit Go.Shelf Go.Lib
variable {es : Nat → Addr} {At : (Nat → Prop) → World → Value → Nat → Cf.Ens → Prop} {BAt : (Nat → Prop) → World → Value → Value → Bf.Bd → Prop}
structure SrS (At : (Nat → Prop) → World → Value → Nat → Cf.Ens → Prop) (B : Nat) (W : World) (pb yb : Nat) (y : Bf.Yd) (ps : List (List UInt8)) (out : Value) (wr : World) : Prop where
 player : ∃ L sw RS,ScAt At B wr pb yb L (Sc.run y ps) sw RS ∧ ∀ b,out.ownBlock = some b → L.k b = 9 ∧ ¬ RS b
 size : W.heap.size ≤ wr.heap.size
 base : Below B W wr
 own : wr.ownsRow W.heap.size 9 1 out ps.length ((Sc.answers y ps).map sv)
theorem SrS.next (HC : Caches0 es At) {B : Nat} {W : World} {pb yb : Nat} {y : Bf.Yd} {ps : List (List UInt8)} {out : Value} {wr : World} (hBW : B ≤ W.heap.size) (hpb : pb < W.heap.size) {L : YL} {RS : Nat → Prop} (hfar : ∀ b,out.ownBlock = some b → L.k b = 9 ∧ ¬ RS b) (hsz : W.heap.size ≤ wr.heap.size) (hbase : Below B W wr) (hown0 : wr.ownsRow W.heap.size 9 1 out ps.length ((Sc.answers y ps).map sv)) {x : List UInt8} {w2 : World} (hg : Goes At B wr pb yb L RS (Sc.step (Sc.run y ps) x) w2) {a : List UInt8} (ea : a = Sc.ans (Sc.run y ps) x) {w3 : World} {g cap : Nat}
  (hown : w3.ownsRow W.heap.size 9 1 (.slice (some ⟨g,0,none⟩) (ps.length + 1) cap) (ps.length + 1) ((Sc.answers y ps).map sv ++ [sv a])) (hgrow : (w2.alloc (.cells #[sv a] 9)).grownBy w3 out.ownBlock) (hlies : out.ownBlock = some g ∨ g = (w2.alloc (.cells #[sv a] 9)).heap.size) :
  SrS At B W pb yb y (ps ++ [x]) (.slice (some ⟨g,0,none⟩) (ps.length + 1) cap) w3 := by
 obtain ⟨hb,L2,sw2,RS2,h2,hs,hsub⟩ := hg
 have e1 : (w2.alloc (.cells #[sv a] 9)).heap.size = w2.heap.size + 1 := by simp
 have hlt : ∀ b,out.ownBlock = some b → b < wr.heap.size ∧ W.heap.size ≤ b := fun b hb => by
  refine ⟨?_,row_low4 hown0 b hb⟩
  rcases hown0.2 with ⟨e,_⟩ | ⟨g,c,cu,e,_,hbb,_⟩
  ·rw [e] at hb;cases hb
  ·rw [e] at hb;cases hb
   exact (Array.getElem?_eq_some_iff.1 hbb).1
 have hz2 := hs.size
 have hz3 : w2.heap.size ≤ w3.heap.size := by have := hgrow.size;omega
 have hk2 : ∀ b,out.ownBlock = some b → L2.k b = 9 := fun b hb => (hs.kk b (hlt b hb).1).trans (hfar b hb).1
 have hk9 : ∀ b,out.ownBlock = some b → L2.more w2.heap.size 9 b = 9 := fun b hb => by
  have h1 := (hlt b hb).1
  rw [L2.more_old (by omega)]
  exact hk2 b hb
 have hnR : ∀ b,out.ownBlock = some b → ¬ RS2 b := fun b hb hR => (hfar b hb).2 (hsub b hR (hlt b hb).1)
 have hsame : ∀ j,j < w2.heap.size → out.ownBlock ≠ some j → w3.heap[j]? = w2.heap[j]? := fun j hj hn => by
  have h1 : (w2.alloc (.cells #[sv a] 9)).heap[j]? = w2.heap[j]? := ((Below.refl _ w2).alloc (o := .cells #[sv a] 9) (Nat.le_refl _)).block j hj
  exact (hgrow.block j (by omega) fun e => hn e.symm).trans h1
 have hK : Kept (fun j => L2.more w2.heap.size 9 j = 9) w2 w3 := ⟨hz3,fun j hj hn => hsame j hj fun e => hn (hk9 j e)⟩
 have hpb2 : pb < w2.heap.size := h2.lt
 refine ⟨⟨{ L2 with k := L2.more w2.heap.size 9 },sw2,RS2,?_,fun b hb' => ?_⟩,by omega,?_,?_⟩
 ·rw [Sc.run_snoc]
  refine ⟨(h2.yard.retag HC 9).aside HC hK,h2.ok,(hsame pb hpb2 fun e => by have := (hlt pb e).2;omega).trans h2.row,h2.low,fun V hz hV => h2.rows V (by omega) fun j hj => (hV j hj).trans (hsame j (h2.rlt j hj) fun e => hnR j e hj),fun j hj => by have := h2.rlt j hj;omega,(L2.more_old hpb2).trans h2.kp,fun j hj => (L2.more_old (h2.rlt j hj)).trans (h2.kr j hj),fun j hj => L2.more_new (by omega),h2.np⟩
 ·have hb'' : g = b := Option.some.inj hb'
  subst hb''
  rcases hlies with h1 | h1
  ·exact ⟨hk9 g h1,hnR g h1⟩
  ·exact ⟨L2.more_new (by omega),fun hR => by have := h2.rlt g hR;omega⟩
 ·refine ((hbase.trans hb).alloc (by omega) _).grown hgrow (by rw [e1];omega) fun k hk => ?_
  have := (hlt k hk).2
  omega
 ·rw [Sc.answers_snoc,← ea,List.map_append,List.length_append]
  exact hown
theorem ownsRow_lower {w : World} {B B' : Nat} {e : TypeId} {s n : Nat} {v : Value} {xs : List Value} (h : w.ownsRow B e s v n xs) (hb : B' ≤ B) : w.ownsRow B' e s v n xs := by
 refine ⟨h.1,?_⟩
 rcases h.2 with h2 | ⟨g,c,cu,e1,hbg,h3⟩
 ·exact .inl h2
 ·exact .inr ⟨g,c,cu,e1,Nat.le_trans hb hbg,h3⟩
theorem scRun_calls (HC : Caches0 es At) (HB : Builds es Af.actO At BAt) {W : World} {m : Int} (hB : ScB W.heap.size W es m) (v : Value) (l : List (List UInt8)) (hv : IRow W v l) (hl : l.length ≤ 100) (hf : ∀ x ∈ l,Sc.Fit x) :
  Calls Tryz.prog 6 #[v] W fun e w' => ∃ u,e = .returned (.tuple #[u,.nilIface]) ∧ w'.ownsRow W.heap.size 9 1 u l.length ((Sc.answers Sc.y0 l).map sv) ∧ Below W.heap.size W w' := by
 obtain ⟨i0,hi,hz0,hz1,hz2⟩ := info_parts Tryz.infoStr
 have HN := hid1 (newPlayer_calls HC W)
 have HBs := hid1 hB
 have HCs := hid1 HC
 have HBu := hid1 HB
 have HFt := hid1 hf
 obtain ⟨pv,cv,rfl,hin⟩ := hv
 have HI := hid1 hin
 have zl : (l.length : Int) ≤ 100 := by omega
 clear hB HC HB hf hin
 go_enter Tryz.func6,Tryz.ntmps6
 go_wp2_with fail
 refine HN.out.mono ?_
 rintro e w1 ⟨pb,yb,L1,rfl,g1,h1⟩
 have HS0 : Hid (SrS At W.heap.size w1 pb yb Sc.y0 [] (.slice none 0 0) w1) := hid1 ⟨⟨L1,_,_,h1,fun b hb => (by cases hb)⟩,Nat.le_refl _,Below.refl _ _,World.ownsRow_nil _ _ _ _⟩
 have hpb := h1.lt
 have HG1 := hid1 g1
 have zz1 := g1.size
 clear HN h1 g1
 go_wp2
 go_loopw [5,15] (fun out iv wr => ∃ k : Nat,k ≤ l.length ∧ iv = .int .i64 k ∧ SrS At W.heap.size w1 pb yb Sc.y0 (l.take k) out wr) (fun _ iv _ => l.length - (intOf iv).toNat)
 case atStart => exact ⟨0,Nat.zero_le _,rfl,HS0.out⟩
 case round =>
  clear HS0
  obtain ⟨k,hk,rfl,hS⟩ := hrel
  have k0 : (0 : Int) ≤ (k : Int) := by omega
  by_cases hlt : k < l.length
  ·have k1 : (k : Int) < (l.length : Int) := by omega
   have hne : l ≠ [] := by intro e;rw [e] at hlt;simp at hlt
   obtain ⟨gs,os,rfl,hgs,hcs⟩ := HI.out hne
   have gb : Below W.heap.size W wr := HG1.out.trans hS.base
   have dk := cell_below' (hcs k hlt) gb
   have HTk : Hid (l.take (k + 1) = l.take k ++ [l[k]]) := hid1 (List.take_succ_eq_append_getElem hlt)
   have hx := HFt.out _ (List.getElem_mem hlt)
   have hkl : (l.take k).length = k := by simp;omega
   clear hcs HI hne
   generalize l[k] = x at *
   obtain ⟨⟨L,sw,RS,hAt,hfar⟩,hsz,hbase,hown⟩ := hS
   have HA := hid1 (answer_calls HCs.out HBu.out hAt (HBs.out.trans gb) x hx)
   have HSt := hid1 (And.intro hAt (And.intro hfar (And.intro hsz (And.intro hbase hown))))
   have hml : (l.take k).length + 1 ≤ maxLen := by unfold maxLen;omega
   clear hx hAt hfar hbase hown HFt gb
   go_wp2_with fail
   refine HA.out.mono ?_
   rintro e w2 ⟨rfl,hgo⟩
   have hown2 : w2.ownsRow w1.heap.size 9 1 u5 (l.take k).length ((Sc.answers Sc.y0 (l.take k)).map sv) := by
    obtain ⟨hAt,hfar,hsz,hbase,hown⟩ := HSt.out
    obtain ⟨-,L2,sw2,RS2,-,hs,-⟩ := hgo
    exact owns_same hown fun b hb hlt => hs.rest b hlt (hfar b hb).1 fun e => by have := row_low4 hown b hb;omega
   have hzw : w1.heap.size ≤ w2.heap.size := by
    obtain ⟨-,L2,sw2,RS2,-,hs,-⟩ := hgo
    have := hs.size
    omega
   have HE := hid1 hgo
   clear HA hgo
   generalize hga : Sc.ans (Sc.run Sc.y0 (l.take k)) x = a at *
   have HGa := hid1 hga
   have hkn : ((l.take k).length + 1) * 16 ≤ 140737488355328 := by omega
   clear hga
   go_wp2_with (at_builtin;refine wpList_append_lies _ rfl _ _ 22 rfl w1.heap.size 9 i0 (.string ⟨#[]⟩) 1 16 Tryz.underlying22 hi hz0 hz1 hz2 rfl (by decide) u5 (l.take k).length ((Sc.answers Sc.y0 (l.take k)).map sv) rfl (hown2.alloc _) ⟨w2.heap.size,0,none⟩ 1 1 [sv a] rfl rfl (cell_one_new _ _ _) (by simp [Value.oneCell']) (by decide) hml hkn (by simp;omega) _ rfl ?_;intro g5 cap5 w5 hown5 hgrow5 hlies5 hlt5)
   go_wp2
   have h3 : SrS At W.heap.size w1 pb yb Sc.y0 (l.take k ++ [x]) (.slice (some ⟨g5,0,none⟩) ((l.take k).length + 1) cap5) w5 := by
    obtain ⟨-,hfar,hsz,hbase,hown⟩ := HSt.out
    exact SrS.next HCs.out zz1 hpb hfar hsz hbase hown HE.out HGa.out.symm hown5 hgrow5 hlies5
   rw [← HTk.out,hkl] at h3
   exact ⟨⟨k + 1,by omega,by go_num,h3⟩,by simp [intOf];omega⟩
  ·have k1 : (l.length : Int) ≤ (k : Int) := by omega
   obtain rfl : k = l.length := by omega
   rw [List.take_length] at hS
   have HS := hid1 hS
   obtain ⟨pu,cu,rfl⟩ := own_slice hS.own
   clear HI hS HFt
   go_wp2
   go_ret2
   exact ⟨_,rfl,ownsRow_lower HS.out.own zz1,HG1.out.trans HS.out.base⟩
end Go.Proofs.YtdljhggillgpfaaGreatDoor
namespace Go.Proofs.YtdljhggillgpfaaGreatDoor
open Go.RowKit Go.Shelf Go.Lib
theorem SameTexts_any {w : World} (a b : Value) (la lb : List (List UInt8)) (ha : IRow w a la) (hb : IRow w b lb) (hl : la.length ≤ 1000) (hl2 : lb.length ≤ 1000) :
  Calls Tryz.prog 13 #[a,b] w fun e w' => e = .returned (.bool (decide (la = lb))) ∧ ∃ q,w' = w.drewN q := by
 obtain ⟨pa,ca,rfl,ha⟩ := ha
 obtain ⟨pb,cb,rfl,hb⟩ := hb
 have HA := hid1 ha
 have HB := hid1 hb
 clear ha hb
 have zl2 : (lb.length : Int) ≤ 1000 := by omega
 by_cases hlen : la.length = lb.length
 ·have HEq : Hid (∀ k,la.length ≤ k → la.take k = lb.take k → decide (la = lb) = true) := hid1 fun k hk h => by
   rw [List.take_of_length_le hk,List.take_of_length_le (by omega)] at h
   simpa using h
  have HNe : Hid (∀ k (h1 : k < la.length) (h2 : k < lb.length),la[k] ≠ lb[k] → decide (la = lb) = false) := hid1 fun k h1 h2 h => by
   rw [decide_eq_false_iff_not]
   rintro rfl
   exact h rfl
  generalize decide (la = lb) = dd at *
  rw [← hlen]
  have HLen := hid1 hlen
  clear hlen
  go_enter Tryz.func13,Tryz.ntmps13
  go_wp2
  go_loopw [5] (fun i wr => ∃ k : Nat,k ≤ la.length ∧ i = .int .i64 k ∧ la.take k = lb.take k ∧ ∃ q,wr = w.drewN q) (fun i _ => la.length - (intOf i).toNat)
  case atStart => exact ⟨0,Nat.zero_le _,rfl,by simp,0,rfl⟩
  case round =>
   obtain ⟨k,hk,rfl,ht,q,rfl⟩ := hrel
   have HT := hid1 ht
   clear ht
   have c0 : (0 : Int) ≤ (k : Int) := by omega
   by_cases hlt : k < la.length
   ·have c1 : (k : Int) < (la.length : Int) := by omega
    have hlt2 : k < lb.length := by rw [← HLen.out];exact hlt
    obtain ⟨ga,oa,rfl,_,h1⟩ := HA.out (by intro e;rw [e] at hlt;simp at hlt)
    obtain ⟨gb,ob,rfl,_,h2⟩ := HB.out (by intro e;rw [e] at hlt2;simp at hlt2)
    have d1 := h1 k hlt
    have d2 := h2 k hlt2
    have HS : Hid (la[k] = lb[k] → la.take (k + 1) = lb.take (k + 1)) := hid1 fun h => by
     rw [List.take_succ_eq_append_getElem hlt,List.take_succ_eq_append_getElem hlt2,HT.out,h]
    have HN := hid1 (HNe.out k hlt hlt2)
    clear h1 h2 HA HB HNe
    generalize la[k] = x at *
    generalize lb[k] = y at *
    by_cases he : x = y
    ·subst he
     have HSS := hid1 (HS.out rfl)
     clear HS HN
     go_wp2
     go_region
     go_wp2
     exact ⟨⟨k + 1,by omega,by go_num,HSS.out,q + 1,rfl⟩,by simp [intOf];omega⟩
    ·have e1 : (x == y) = false := by simpa using he
     have e2 := HN.out he
     subst e2
     clear HS HN
     go_wp2
     go_region
     go_wp2
     go_ret
     exact ⟨rfl,q + 1,rfl⟩
   ·have c1 : (la.length : Int) ≤ (k : Int) := by omega
    have e2 := HEq.out k (by omega) HT.out
    subst e2
    clear HA HB HT HEq HNe
    go_wp2
    go_ret
    exact ⟨rfl,q,rfl⟩
 ·have e1 : decide (la = lb) = false := by
   rw [decide_eq_false_iff_not]
   rintro rfl
   exact hlen rfl
  have e2 : ((la.length : Int) == (lb.length : Int)) = false := by simp;omega
  rw [e1]
  clear HA HB e1
  go_enter Tryz.func13,Tryz.ntmps13
  go_wp2
  go_ret
  exact ⟨rfl,0,rfl⟩
end Go.Proofs.YtdljhggillgpfaaGreatDoor
namespace Go.Proofs.YtdljhggillgpfaaGreatDoor
open Go.RowKit Go.Shelf Go.Lib
variable {es : Nat → Addr} {At : (Nat → Prop) → World → Value → Nat → Cf.Ens → Prop} {BAt : (Nat → Prop) → World → Value → Value → Bf.Bd → Prop}
theorem ScB.top {B : Nat} {W : World} {m : Int} (h : ScB B W es m) : ScB W.heap.size W es m := by
 obtain ⟨w0,rfl,a,b,c,d,e,f,g⟩ := h
 exact ⟨W,rfl,a.below g,b.below g,c.below g,d.below g,kpow_below e g,cell_below' f g,Below.refl _ _⟩
theorem irow_owns {w : World} {B : Nat} {u : Value} {l : List (List UInt8)} {n : Nat} (hn : n = l.length) (h : w.ownsRow B 9 1 u n (l.map sv)) : IRow w u l := by
 subst hn
 exact (HRow.of_owns h).ir
theorem hello_calls (HC : Caches0 es At) (HB : Builds es Af.actO At BAt) {W : World} {m : Int} (hB : ScB W.heap.size W es m) :
  Calls Tryz.prog 5 #[] W fun e w' => e = .returned (.bool true) ∧ Below W.heap.size W w' := by
 have gA : Below W.heap.size W (W.alloc (.cells #[.string ⟨#[112,117,116,32,97,32,120,59,121]⟩,.string ⟨#[114,117,108,101,32,98,32,61,32,117,112,112,101,114,32,97]⟩,.string ⟨#[109,97,107,101]⟩,.string ⟨#[115,104,111,119,32,98]⟩] 9)) := (Below.refl _ W).alloc (Nat.le_refl _) _
 have rA := row_newW W (.cells #[.string ⟨#[112,117,116,32,97,32,120,59,121]⟩,.string ⟨#[114,117,108,101,32,98,32,61,32,117,112,112,101,114,32,97]⟩,.string ⟨#[109,97,107,101]⟩,.string ⟨#[115,104,111,119,32,98]⟩] 9)
 have HR := hid1 (scRun_calls HC HB (hB.trans gA).top (.slice (some ⟨W.heap.size,0,none⟩) 4 4) [Lh.ln1,Lh.ln2,Lh.ln3,Lh.ln4] (xrow_lit (l := [Lh.ln1,Lh.ln2,Lh.ln3,Lh.ln4]) rA).irow (by decide) fun x hx => ⟨by have := Lh.fit x hx;omega,fun _ => Lh.fit x hx⟩)
 rw [Lh.answers] at HR
 have HG := hid1 gA
 clear hB gA rA HC HB
 go_enter Tryz.func5,Tryz.ntmps5
 go_wp2_with fail
 refine HR.out.mono ?_
 rintro e w1 ⟨u,rfl,ho,g1⟩
 have hr := irow_owns (by decide) ho
 obtain ⟨pu,cu,rfl⟩ := own_slice ho
 have G1 := below_then HG.out g1
 have gB : Below w1.heap.size w1 (w1.alloc (.cells #[.string ⟨#[111,107]⟩,.string ⟨#[111,107]⟩,.string ⟨#[49,32,48,32,48,32,48]⟩,.string ⟨#[88,59,89]⟩] 9)) := (Below.refl _ w1).alloc (Nat.le_refl _) _
 have rB := row_newW w1 (.cells #[.string ⟨#[111,107]⟩,.string ⟨#[111,107]⟩,.string ⟨#[49,32,48,32,48,32,48]⟩,.string ⟨#[88,59,89]⟩] 9)
 have HS := hid1 (SameTexts_any (w := w1.alloc (.cells #[.string ⟨#[111,107]⟩,.string ⟨#[111,107]⟩,.string ⟨#[49,32,48,32,48,32,48]⟩,.string ⟨#[88,59,89]⟩] 9)) (.slice pu 4 cu) (.slice (some ⟨w1.heap.size,0,none⟩) 4 4) [Sc.ok,Sc.ok,[49,32,48,32,48,32,48],[88,59,89]] [Sc.ok,Sc.ok,[49,32,48,32,48,32,48],[88,59,89]] (hr.below gB) (xrow_lit (l := [Sc.ok,Sc.ok,[49,32,48,32,48,32,48],[88,59,89]]) rB).irow (by decide) (by decide))
 rw [show decide ([Sc.ok,Sc.ok,[49,32,48,32,48,32,48],[88,59,89]] = [Sc.ok,Sc.ok,[49,32,48,32,48,32,48],[88,59,89]]) = true from decide_eq_true rfl] at HS
 have HG2 := hid1 (below_then G1 gB)
 clear HR HG ho g1 hr G1 gB rB
 go_wp2_with fail
 refine HS.out.mono ?_
 rintro e w2 ⟨rfl,q,rfl⟩
 have HG3 := hid1 (below_draws HG2.out q)
 clear HS HG2
 go_wp2
 go_ret
 exact ⟨rfl,HG3.out⟩
end Go.Proofs.YtdljhggillgpfaaGreatDoor
