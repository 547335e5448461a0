import Derived.Test.YtdljhggillgpfaaGreatDoorSA47
set_option maxRecDepth 100000
set_option maxHeartbeats 32000000
namespace Go.Proofs.YtdljhggillgpfaaGreatDoor
open Go.RowKit Go.Shelf Go.Lib
variable {es : Nat → Addr} {At : (Nat → Prop) → World → Value → Nat → Cf.Ens → Prop} {BAt : (Nat → Prop) → World → Value → Value → Bf.Bd → Prop}
theorem own_shape {w : World} {B : Nat} {u : Value} {n : Nat} {xs : List Value} (h : w.ownsRow B 9 1 u n xs) : u = .slice none 0 0 ∨ ∃ a n c,u = .slice (some a) n c := by
 rcases h.2 with ⟨rfl,_⟩ | ⟨g,c,cu,rfl,_⟩
 ·exact .inl rfl
 ·exact .inr ⟨_,_,_,rfl⟩
theorem own_cap {w : World} {B : Nat} {p : Option Addr} {n c : Nat} {xs : List Value} (h : w.ownsRow B 9 1 (.slice p n c) n xs) : n ≤ c := by
 rcases h.2 with ⟨e,h0⟩ | ⟨g,c',cu,e,_,_,h1,_⟩
 ·cases e;exact Nat.le_refl _
 ·cases e;exact h1
theorem irow_take {w : World} {p : Option Addr} {n c q : Nat} {l : List (List UInt8)} (h : IRow w (.slice p n c) l) (hq : q ≤ l.length) : IRow w (.slice p q c) (l.take q) := by
 obtain ⟨p',c',e,hin⟩ := h
 simp only [Value.slice.injEq] at e
 obtain ⟨rfl,-,rfl⟩ := e
 refine ⟨p,c,by rw [List.length_take,Nat.min_eq_left hq],fun hne => ?_⟩
 obtain ⟨g,o,e,hg,hc⟩ := hin (by rintro rfl;simp at hne)
 refine ⟨g,o,e,hg,fun j hj => ?_⟩
 rw [List.getElem_take]
 exact hc j (by rw [List.length_take] at hj;omega)
theorem app_copyS {w : World} {ops : Array Oper} {rest : List Oper} {o : Oper} {a : Act} {Q : Exit → Act → World → Prop} (hgd : o.guard = none) (s x : Operand) (ho : o.op = .call { callee := .builtin .append,args := #[s,x],argTypes := #[22,22] }) (i : TypeInfo) (hi : Tryz.prog.info? 9 = some i) (hz0 : i.zero = some (.string ⟨#[]⟩)) (hz1 : i.size = 1) (hz2 : i.bytes = 16)
  (hs : a.eval s = .slice none 0 0) {vp : Value} {ps : List (List UInt8)} (hx : a.eval x = vp) (hZ : IRow w vp ps) (hvp : vp = .slice none 0 0 ∨ ∃ a n c,vp = .slice (some a) n c) (hl : ps.length ≤ 1000)
  (h : ∀ v' w',w'.ownsRow w.heap.size 9 1 v' ps.length (ps.map sv) → Below w.heap.size w w' → wpList Tryz.prog ops Q rest (a.put o.dst v') w') : wpList Tryz.prog ops Q (o :: rest) a w := by
 have n1 : World.ownsRow w w.heap.size 9 1 (.slice none 0 0) 0 [] := World.ownsRow_nil _ _ _ _
 obtain ⟨q,c',e1,hin⟩ := hZ
 rcases hvp with e | ⟨ad,n,c,e⟩
 ·rw [e] at e1
  simp only [Value.slice.injEq] at e1
  have h0 : ps = [] := List.length_eq_zero_iff.1 e1.2.1.symm
  subst h0
  exact wpList_append_own_none hgd s x 22 ho w.heap.size 9 i 1 Tryz.underlying22 hi _ _ _ hs n1 (hx.trans e) (h _ w n1 (Below.refl _ _))
 ·rw [e] at e1
  simp only [Value.slice.injEq] at e1
  obtain ⟨e2,rfl,rfl⟩ := e1
  have hsrc : ∀ j u,(ps.map sv)[j]? = some u → w.cell? (ad.add j) = some u := fun j u hj => by
   have hjl : j < ps.length := by simpa using (List.getElem?_eq_some_iff.1 hj).1
   obtain ⟨g,o,e3,hg,hcur⟩ := hin (by intro e;rw [e] at hjl;simp at hjl)
   rw [e3] at e2
   obtain rfl := Option.some.inj e2
   rw [List.getElem?_map,List.getElem?_eq_getElem hjl] at hj
   simp only [Option.map_some,Option.some.injEq] at hj
   rw [← hj,add_at2]
   exact hcur j hjl
  refine wpList_append_own _ hgd s x 22 ho w.heap.size 9 i (.string ⟨#[]⟩) 1 16 Tryz.underlying22 hi hz0 hz1 hz2 rfl (by decide) _ _ _ hs n1 ad ps.length c (ps.map sv) (hx.trans e) (by simp) hsrc one_sv (by unfold maxLen;omega) (by omega) (Nat.le_refl _) ?_
  intro v1 w1 hown hgrow _
  exact h v1 w1 (by simpa using hown) (below_more (Below.refl _ w) (Nat.le_refl _) n1 hgrow)
theorem ScriptAgain_calls (HC : Caches0 es At) (HB : Builds es Af.actO At BAt) {W : World} {m : Int} (hB : ScB W.heap.size W es m) (v : Value) (l : List Ln) (hv : LnRow W v l) (n : Int) (hn1 : -9223372036854775808 ≤ n) (hn2 : n ≤ 9223372036854775807) :
  Calls Tryz.prog 4 #[v,.int .i64 n] W fun e w' => e = .returned (.bool true) ∧ Below W.heap.size W w' := by
 obtain ⟨i0,hi,hz0,hz1,hz2⟩ := info_parts Tryz.infoStr
 have HH := hid1 (hello_calls HC HB hB)
 have HBs := hid1 fun (V : World) (g : Below W.heap.size W V) => (hB.trans g).top
 have HCs := hid1 HC
 have HBu := hid1 HB
 obtain ⟨pv,cv,rfl,hin⟩ := hv
 have HI := hid1 hin
 clear hB HC HB hin
 go_enter Tryz.func4,Tryz.ntmps4
 go_wp2_with fail
 refine HH.out.mono ?_
 rintro e w1 ⟨rfl,g1⟩
 have HG1 := hid1 g1
 have zz1 := g1.size
 clear HH g1
 by_cases h40 : 40 < l.length
 ·have z : (40 : Int) < (l.length : Int) := by omega
  clear HBs HI
  go_wp2
  go_ret
  exact ⟨rfl,HG1.out⟩
 have z40 : (l.length : Int) ≤ 40 := by omega
 by_cases hn0 : n < 0
 ·clear HBs HI
  go_wp2
  go_ret
  exact ⟨rfl,HG1.out⟩
 have n0 : 0 ≤ n := by omega
 by_cases hnl : (l.length : Int) < n
 ·clear HBs HI
  go_wp2
  go_ret
  exact ⟨rfl,HG1.out⟩
 have nl : n ≤ (l.length : Int) := by omega
 have q40 : decide ((40 : Int) < (l.length : Int)) = false := by rw [decide_eq_false_iff_not];omega
 have q0 : decide (n < 0) = false := by rw [decide_eq_false_iff_not];omega
 have ql : decide ((l.length : Int) < n) = false := by rw [decide_eq_false_iff_not];omega
 clear hn1 hn2 hn0 hnl h40
 go_wp2
 go_loopw [6,7,8] (fun ov av iv wr => ∃ (k q : Nat) (o : List (List UInt8)),k ≤ l.length ∧ iv = .int .i64 k ∧ o.length ≤ k ∧ q ≤ o.length ∧ av = .int .i64 q ∧ (∀ x ∈ o,Sc.Fit x) ∧ wr.ownsRow w1.heap.size 9 1 ov o.length (o.map sv) ∧ Below w1.heap.size w1 wr) (fun _ _ iv _ => l.length - (intOf iv).toNat)
 case atStart => exact ⟨0,0,[],Nat.zero_le _,rfl,Nat.le_refl _,Nat.le_refl _,rfl,by simp,World.ownsRow_nil _ _ _ _,Below.refl _ _⟩
 case round =>
  obtain ⟨k,q,o,hk,rfl,hok,hqo,rfl,hfit,hown,gB⟩ := hrel
  have HFit := hid1 hfit
  have k0 : (0 : Int) ≤ (k : Int) := by omega
  clear hfit
  by_cases hlt : k < l.length
  ·have k1 : (k : Int) < (l.length : Int) := by omega
   obtain ⟨gs,os,rfl,hgs,hcs⟩ := HI.out (by intro e;rw [e] at hlt;simp at hlt)
   have hln := ((hcs k hlt).below HG1.out).below gB
   clear hcs HI
   generalize l[k] = x at *
   obtain ⟨lw,lp,lt,lr⟩ := x
   obtain ⟨d0,⟨u,d1,hxp⟩,d2,d3,d4,d5,iv,d6,hxi⟩ := hln
   simp only at d0 d1 hxp d2 d3 d4 d5 d6 hxi
   have HLg := hid1 (longLine_calls lw u lt lr iv lp hxp hxi)
   have HLo := hid1 fun (V : World) (g : Below wr.heap.size wr V) (h : lt.length ≤ 300 ∧ lp.length ≤ 6 ∧ (∀ x ∈ lp,x.length ≤ 300) ∧ lr.Small) => lineOf_calls (W := V) lw u lt lr iv lp (hxp.below g) (hxi.below g) h.1 h.2.1 h.2.2.1 h.2.2.2
   have HB0 := hid1 gB
   obtain ⟨pu,cu,rfl⟩ : ∃ p c,u = .slice p lp.length c := by obtain ⟨p,c,e,-⟩ := hxp;exact ⟨p,c,e⟩
   obtain ⟨pi,ci,rfl⟩ : ∃ p c,iv = .slice p lr.ins.length c := by obtain ⟨p,c,e,-⟩ := hxi;exact ⟨p,c,e⟩
   clear hxp hxi
   go_wp2_with fail
   refine HLg.out.mono ?_
   rintro e w2 ⟨b,rfl,g2,hb⟩
   have HHb := hid1 hb
   have G2 := below_then HB0.out g2
   have HG2 := hid1 (below_then HG1.out G2)
   cases b with
   | true =>
    clear HLg HLo hb HFit hown
    go_wp2
    go_ret
    exact ⟨rfl,HG2.out⟩
   | false =>
    have HL2 := hid1 (HLo.out w2 g2 (HHb.out rfl))
    have f0 := cell_below' d0 g2
    have f1 := cell_below' d1 g2
    have f2 := cell_below' d2 g2
    have f3 := cell_below' d3 g2
    have f4 := cell_below' d4 g2
    have f5 := cell_below' d5 g2
    have f6 := cell_below' d6 g2
    clear HLg HLo hb HHb d0 d1 d2 d3 d4 d5 d6
    go_wp2_with fail
    refine HL2.out.mono ?_
    rintro e w3 ⟨vv,rfl,⟨s,is,rfl,hs⟩,g3⟩
    have G3 := below_then G2 g3
    have HS := hid1 hs
    have hown3 := owns_same hown fun b hb hl => (below_then g2 g3).block b hl
    have HO := hid1 hown3
    have HG3 := hid1 G3
    have hbz := G3.size
    clear HL2 hs f0 f1 f2 f3 f4 f5 f6 hown g2 g3 G2 HG2 HB0 gB
    obtain ⟨po,co,rfl⟩ := own_slice hown3
    cases is with
    | false =>
     clear hown3
     by_cases hkn : (k : Int) < n
     ·go_wp2
      exact ⟨⟨k + 1,o.length,o,by omega,by go_num,by omega,Nat.le_refl _,rfl,HFit.out,HO.out,HG3.out⟩,by simp [intOf];omega⟩
     ·have hkn' : n ≤ (k : Int) := by omega
      go_wp2
      exact ⟨⟨k + 1,q,o,by omega,by go_num,by omega,hqo,rfl,HFit.out,HO.out,HG3.out⟩,by simp [intOf];omega⟩
    | true =>
     have hml : o.length + 1 ≤ maxLen := by unfold maxLen;omega
     have HFo : Hid (∀ x ∈ o ++ [s],Sc.Fit x) := hid1 fun x hx => by
      rcases List.mem_append.1 hx with h1 | h1
      ·exact HFit.out x h1
      ·rw [List.mem_singleton.1 h1];exact HS.out
     have hoe : (o ++ [s]).length = o.length + 1 := by simp
     have HOe := hid1 hoe
     clear hoe HS HFit
     by_cases hkn : (k : Int) < n
     ·go_wp2_with (at_builtin;refine wpList_append_lies _ rfl _ _ 22 rfl w1.heap.size 9 i0 (.string ⟨#[]⟩) 1 16 Tryz.underlying22 hi hz0 hz1 hz2 rfl (by decide) (.slice po o.length co) o.length (o.map sv) rfl (hown3.alloc _) ⟨w3.heap.size,0,none⟩ 1 1 [sv s] rfl rfl (cell_one_new _ _ _) (by simp [Value.oneCell']) (by decide) hml (by omega) (by simp;omega) _ rfl ?_;intro g5 cap5 w5 hown5 hgrow5 hlies5 hlt5)
      have HF5 := hid1 (below_appended HG3.out hbz hown3 hgrow5)
      have HO5 := hid1 hown5
      clear hown5 hgrow5 hlies5 hown3 HO
      go_wp2
      exact ⟨⟨k + 1,o.length + 1,o ++ [s],by omega,by go_num,by rw [HOe.out];omega,by rw [HOe.out];exact Nat.le_refl _,by go_num,HFo.out,by rw [HOe.out,List.map_append];exact HO5.out,HF5.out⟩,by simp [intOf];omega⟩
     ·have hkn' : n ≤ (k : Int) := by omega
      go_wp2_with (at_builtin;refine wpList_append_lies _ rfl _ _ 22 rfl w1.heap.size 9 i0 (.string ⟨#[]⟩) 1 16 Tryz.underlying22 hi hz0 hz1 hz2 rfl (by decide) (.slice po o.length co) o.length (o.map sv) rfl (hown3.alloc _) ⟨w3.heap.size,0,none⟩ 1 1 [sv s] rfl rfl (cell_one_new _ _ _) (by simp [Value.oneCell']) (by decide) hml (by omega) (by simp;omega) _ rfl ?_;intro g5 cap5 w5 hown5 hgrow5 hlies5 hlt5)
      have HF5 := hid1 (below_appended HG3.out hbz hown3 hgrow5)
      have HO5 := hid1 hown5
      clear hown5 hgrow5 hlies5 hown3 HO
      go_wp2
      exact ⟨⟨k + 1,q,o ++ [s],by omega,by go_num,by rw [HOe.out];omega,by rw [HOe.out];omega,rfl,HFo.out,by rw [HOe.out,List.map_append];exact HO5.out,HF5.out⟩,by simp [intOf];omega⟩
  ·have k1 : (l.length : Int) ≤ (k : Int) := by omega
   have HGB := hid1 (below_then HG1.out gB)
   have ho40 : o.length ≤ 40 := by omega
   have hrow := irow_owns rfl hown
   have hshape := own_shape hown
   obtain ⟨po,co,ec⟩ := own_slice hown
   subst ec
   have hqc : q ≤ co := by have := own_cap hown;omega
   have HRw := hid1 hrow
   have zq : (q : Int) ≤ (o.length : Int) := by omega
   have zqc : (q : Int) ≤ (co : Int) := by omega
   have q0 : (0 : Int) ≤ (q : Int) := by omega
   clear hlt hk k0 zz1 hown HI gB
   go_wp2_with (at_builtin;refine app_copyS rfl _ _ rfl i0 hi hz0 hz1 hz2 rfl rfl hrow hshape (by omega) ?_;intro v2 w2 hown2 g2)
   have G2 := below_then HGB.out g2
   have HR1 := hid1 (scRun_calls HCs.out HBu.out (HBs.out w2 G2) v2 o (irow_owns rfl hown2) (by omega) HFit.out)
   have HRw2 := hid1 (HRw.out.below g2)
   have HG2 := hid1 G2
   obtain ⟨p2,c2,rfl⟩ := own_slice hown2
   clear hrow hown2 g2 G2 HRw HGB
   go_wp2_with fail
   refine HR1.out.mono ?_
   rintro e w3 ⟨ua,rfl,hoa,g3⟩
   have ha := irow_owns (Sc.answers_len o Sc.y0).symm hoa
   obtain ⟨pa,ca,ea⟩ := own_slice hoa
   subst ea
   have hca := own_cap hoa
   have G3 := below_then HG2.out g3
   have HTk : Hid (IRow w3 (.slice po q co) (o.take q)) := hid1 (irow_take (HRw2.out.below g3) hqo)
   have HR2 := hid1 (scRun_calls HCs.out HBu.out (HBs.out w3 G3) (.slice po q co) (o.take q) HTk.out (by simp;omega) fun x hx => HFit.out x (List.mem_of_mem_take hx))
   have hql : (o.take q).length = q := by simp;omega
   rw [hql,Sc.answers_take] at HR2
   have HA := hid1 ha
   have HG3 := hid1 G3
   have zca : (q : Int) ≤ (ca : Int) := by omega
   have HQl := hid1 hqo
   clear HR1 HRw2 HG2 hoa ha G3 g3 HFit HBs HTk hql
   go_wp2_with fail
   refine HR2.out.mono ?_
   rintro e w4 ⟨ub,rfl,hob,g4⟩
   have hal : ((Sc.answers Sc.y0 o).take q).length = q := by rw [List.length_take,Sc.answers_len];omega
   have hb := irow_owns hal.symm hob
   obtain ⟨pb,cb,eb⟩ := own_slice hob
   subst eb
   have HG4 := hid1 (below_then HG3.out g4)
   have HSm := hid1 (SameTexts_any (w := w4) (.slice pa q ca) (.slice pb q cb) ((Sc.answers Sc.y0 o).take q) ((Sc.answers Sc.y0 o).take q) (irow_take (HA.out.below g4) (by rw [Sc.answers_len];exact HQl.out)) hb (by omega) (by omega))
   rw [show decide ((Sc.answers Sc.y0 o).take q = (Sc.answers Sc.y0 o).take q) = true from decide_eq_true rfl] at HSm
   clear HR2 HA HG3 hob hb g4 hal
   go_wp2_with fail
   refine HSm.out.mono ?_
   rintro e w5 ⟨rfl,qq,rfl⟩
   have HG5 := hid1 (below_draws HG4.out qq)
   clear HSm HG4
   go_wp2
   go_ret
   exact ⟨rfl,HG5.out⟩
end Go.Proofs.YtdljhggillgpfaaGreatDoor
