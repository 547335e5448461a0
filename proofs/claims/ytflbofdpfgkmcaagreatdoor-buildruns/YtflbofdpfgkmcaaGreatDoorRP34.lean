import Derived.Test.YtflbofdpfgkmcaaGreatDoorRP33
set_option maxRecDepth 100000
set_option maxHeartbeats 32000000
namespace Go.Proofs.YtflbofdpfgkmcaaGreatDoor
open Go.RowKit Go.Shelf Go.Lib
abbrev FailO (gs gw : Nat) (W w : World) : Prop := Only (fun j => j = gs ∨ j = gw) W w
theorem FailO.drew {gs gw : Nat} {W w : World} (h : FailO gs gw W w) (q : Nat) : FailO gs gw W (w.drewN q) := ⟨h.os,h.tape,h.output,h.size,h.block⟩
theorem FailO.set {gs gw : Nat} {W w : World} (h : FailO gs gw W w) (i : Nat) (v : Value) : FailO gs gw W (w.setCell ⟨gs,i,none⟩ v) :=
 ⟨h.os,h.tape,h.output,by rw [size_setCell];exact h.size,fun j hj hn => (Below.heap_setCell w ⟨gs,i,none⟩ v j (fun e => hn (.inl e))).trans (h.block j hj hn)⟩
theorem MBr.drew {w0 W : World} {mb tb : Nat} {tv lv cv : Value} {gs go gh gw : Nat} {l : List Ru} {fs : Tf.Fs} {vS vO vH vW : Nat → Value} (h : MBr w0 W mb tb tv lv cv gs go gh gw l fs vS vO vH vW) (q : Nat) : MBr w0 (W.drewN q) mb tb tv lv cv gs go gh gw l fs vS vO vH vW :=
 h.same (below_draws h.base q) (Nat.le_refl _) fun _ _ => rfl
theorem mbfail_calls {w0 W : World} {mb tb : Nat} {tv lv cv : Value} {gs go gh gw : Nat} {d : Bf.Bd} (h : MB w0 W mb tb tv lv cv gs go gh gw d) (hn : d.l.length ≤ 1000) (hI : ∀ x ∈ d.l,x.ins.length ≤ 1000000) (i c : Nat) (hi : i < d.l.length) (hst : d.st i = .waits) :
  Calls Tryz.prog 116 #[.pointer (some ⟨mb,0,none⟩),.int .i64 i,.int .i64 c] W fun e w' => e = .returned (.tuple #[]) ∧ MB w0 w' mb tb tv lv cv gs go gh gw (d.fail i c) ∧ FailO gs gw W w' := by
 obtain ⟨p,cap,rfl,-⟩ := h.row
 have c1 := h.c1
 have c2 := h.c2
 have c5 := h.c5
 have i0 : (0 : Int) ≤ (i : Int) := by omega
 have i1 : (i : Int) < (d.l.length : Int) := by omega
 have zn : (d.l.length : Int) ≤ 1000 := by omega
 have cs := (h.rs.2 i hi)
 have cs1 := cs.1
 have cs2 := cs.2
 have m1 := h.setS hi (.string ⟨#[102,97,105,108,101,100]⟩)
 have m2 := m1.setW hi (.int .i64 (c : Nat))
 have d5 := m1.c5
 have cw := (m1.rw.2 i hi)
 have cw1 := cw.1
 have cw2 := cw.2
 have o2 : FailO gs gw W ((W.setCell ⟨gs,i,none⟩ (.string ⟨#[102,97,105,108,101,100]⟩)).setCell ⟨gw,i,none⟩ (.int .i64 (c : Nat))) := by
  refine ⟨rfl,rfl,rfl,by rw [size_setCell,size_setCell];exact Nat.le_refl _,fun j hj hs => ?_⟩
  exact (Below.heap_setCell _ ⟨gw,i,none⟩ _ j (fun e => hs (.inr e))).trans (Below.heap_setCell W ⟨gs,i,none⟩ _ j (fun e => hs (.inl e)))
 have M2 : Hid (MBr w0 ((W.setCell ⟨gs,i,none⟩ (.string ⟨#[102,97,105,108,101,100]⟩)).setCell ⟨gw,i,none⟩ (.int .i64 (c : Nat))) mb tb tv (.slice p d.l.length cap) cv gs go gh gw d.l d.fs (nameV (Bf.setS d.st i (.failed c))) (outV (Bf.setS d.st i (.failed c))) (hitV (Bf.setS d.st i (.failed c))) (whyV (Bf.setS d.st i (.failed c)))) := hid1 (by
  rw [← upd_name,out_keep (by rw [hst];rfl),hit_keep (by rw [hst];rfl),← upd_why]
  exact m2)
 have HO2 := hid1 o2
 have HF : Hid (∀ cur,(∀ k,cur k = Bf.spread d.l (Bf.setS d.st i (.failed c)) k) → ∀ V,MBr w0 V mb tb tv (.slice p d.l.length cap) cv gs go gh gw d.l d.fs (nameV cur) (outV (Bf.setS d.st i (.failed c))) (hitV (Bf.setS d.st i (.failed c))) (whyV (Bf.setS d.st i (.failed c))) → MB w0 V mb tb tv (.slice p d.l.length cap) cv gs go gh gw (d.fail i c)) := hid1 fun cur hc V hV => by
  have e0 : cur = (d.fail i c).st := funext hc
  have keep : ∀ k,((d.fail i c).st k).out = (Bf.setS d.st i (.failed c) k).out ∧ ((d.fail i c).st k).hit = (Bf.setS d.st i (.failed c) k).hit ∧ ((d.fail i c).st k).why = (Bf.setS d.st i (.failed c) k).why := fun k => by
   show (Bf.spread d.l (Bf.setS d.st i (.failed c)) k).out = _ ∧ (Bf.spread d.l (Bf.setS d.st i (.failed c)) k).hit = _ ∧ (Bf.spread d.l (Bf.setS d.st i (.failed c)) k).why = _
   unfold Bf.spread
   split
   ·rename_i hx
    rw [Bf.St.waits_eq hx.1]
    exact ⟨rfl,rfl,rfl⟩
   ·exact ⟨rfl,rfl,rfl⟩
  have e1 : outV (d.fail i c).st = outV (Bf.setS d.st i (.failed c)) := funext fun k => by unfold outV;rw [(keep k).1]
  have e2 : hitV (d.fail i c).st = hitV (Bf.setS d.st i (.failed c)) := funext fun k => by unfold hitV;rw [(keep k).2.1]
  have e3 : whyV (d.fail i c).st = whyV (Bf.setS d.st i (.failed c)) := funext fun k => by unfold whyV;rw [(keep k).2.2]
  show MBr w0 V mb tb tv (.slice p d.l.length cap) cv gs go gh gw d.l d.fs (nameV (d.fail i c).st) (outV (d.fail i c).st) (hitV (d.fail i c).st) (whyV (d.fail i c).st)
  rw [e1,e2,e3,← e0]
  exact hV
 have hs0 : (Bf.setS d.st i (.failed c) i).isWaits = false := by rw [Bf.setS_same];rfl
 clear h cs cw m1 m2 o2 hst
 generalize Bf.setS d.st i (.failed c) = s0 at *
 have HRE : Hid (∀ cur,Bf.Round d.l s0 cur d.l.length → ∀ k,cur k = Bf.spread d.l s0 k) := hid1 fun cur hr => hr.end hi hs0
 clear hs0
 go_enter Tryz.func116,Tryz.ntmps116
 go_wp2
 clear cs1 cs2 cw1 cw2 d5 c1 c2 c5
 generalize hWW : (W.setCell ⟨gs,i,none⟩ (.string ⟨#[102,97,105,108,101,100]⟩)).setCell ⟨gw,i,none⟩ (.int .i64 (c : Nat)) = W2 at *
 clear hWW
 go_loopw [6] (fun rv wr => ∃ (r : Nat) (cur : Nat → Bf.St),r ≤ d.l.length ∧ rv = .int .i64 r ∧ Bf.Round d.l s0 cur r ∧ MBr w0 wr mb tb tv (.slice p d.l.length cap) cv gs go gh gw d.l d.fs (nameV cur) (outV s0) (hitV s0) (whyV s0) ∧ FailO gs gw W wr) (fun rv _ => d.l.length - (intOf rv).toNat)
 case atStart => exact ⟨0,s0,Nat.zero_le _,rfl,Bf.Round.start _ _,M2.out,HO2.out⟩
 case round =>
  clear M2 HO2
  obtain ⟨r,cur,hr,rfl,hR,hM,hO⟩ := hrel
  have c1 := hM.c1
  have r0 : (0 : Int) ≤ (r : Int) := by omega
  by_cases hrl : r < d.l.length
  ·have r1 : (r : Int) < (d.l.length : Int) := by omega
   have HM0 := hid1 hM
   have HO0 := hid1 hO
   have HR0 := hid1 hR
   clear hM hO hR
   go_wp2
   clear c1
   generalize wr = wa at *
   go_loopw [7] (fun kv wr => ∃ (k : Nat) (cu : Nat → Bf.St),k ≤ d.l.length ∧ kv = .int .i64 k ∧ Bf.Sweep d.l s0 cur cu k 0 ∧ MBr w0 wr mb tb tv (.slice p d.l.length cap) cv gs go gh gw d.l d.fs (nameV cu) (outV s0) (hitV s0) (whyV s0) ∧ FailO gs gw W wr) (fun kv _ => d.l.length - (intOf kv).toNat)
   case atStart => exact ⟨0,cur,Nat.zero_le _,rfl,Bf.Sweep.start HR0.out.mid,HM0.out,HO0.out⟩
   case round =>
    clear HM0 HO0
    obtain ⟨k,cu,hk,rfl,hSw,hM,hO⟩ := hrel
    have c1 := hM.c1
    have k0 : (0 : Int) ≤ (k : Int) := by omega
    by_cases hkl : k < d.l.length
    ·have k1 : (k : Int) < (d.l.length : Int) := by omega
     have HM1 := hid1 hM
     have HO1 := hid1 hO
     have HS1 := hid1 hSw
     clear hM hO hSw
     go_wp2
     clear c1
     generalize wr = wb at *
     go_loopw [8] (fun jv wr => ∃ (j : Nat) (cv' : Nat → Bf.St),j ≤ d.l.length ∧ jv = .int .i64 j ∧ Bf.Sweep d.l s0 cur cv' k j ∧ MBr w0 wr mb tb tv (.slice p d.l.length cap) cv gs go gh gw d.l d.fs (nameV cv') (outV s0) (hitV s0) (whyV s0) ∧ FailO gs gw W wr) (fun jv _ => d.l.length - (intOf jv).toNat)
     case atStart => exact ⟨0,cu,Nat.zero_le _,rfl,HS1.out,HM1.out,HO1.out⟩
     case round =>
      clear HM1 HO1 HS1
      obtain ⟨j,x,hj,rfl,hSw,hM,hO⟩ := hrel
      have c1 := hM.c1
      have c2 := hM.c2
      have j0 : (0 : Int) ≤ (j : Int) := by omega
      by_cases hjl : j < d.l.length
      ·have j1 : (j : Int) < (d.l.length : Int) := by omega
       have cj := (hM.rs.2 j hjl).1
       have ck := (hM.rs.2 k hkl).1
       have fk := (hM.rs.2 k hkl).2
       have HC := hid1 (NeedsRule_calls (.slice p d.l.length cap) d.l hM.row hI k j hkl hjl)
       have q1 := Bf.St.name_failed (x j)
       have q2 := Bf.St.name_left (x j)
       have q3 := Bf.St.name_waits (x k)
       have HB : Hid ((x j).isBad = ((x j).isFailed || (x j).isLeft)) := hid1 (Bf.St.bad_eq (x j))
       have HM := hid1 hM
       have HO := hid1 hO
       have HS := hid1 hSw
       clear hM hO hSw
       cases hf : (x j).isFailed with
       | true =>
        rw [hf] at q1 HB
        clear q2
        have hbd : (x j).isBad = true := by rw [HB.out];rfl
        have HBD := hid1 hbd
        clear hbd HB
        cases hw : (x k).isWaits with
        | false =>
         rw [hw] at q3
         have HQ := hid1 (HS.out.miss (by rw [hw];rfl))
         clear HC HS
         go_wp2
         exact ⟨⟨j + 1,x,by omega,by go_num,HQ.out,HM.out,HO.out⟩,by simp [intOf];omega⟩
        | true =>
         have HW := hid1 hw
         rw [hw] at q3
         cases hnd : Ru.needs d.l k j with
         | false =>
          have HQ := hid1 (HS.out.miss (by rw [hnd];simp))
          rw [hnd] at HC
          clear HS
          go_wp2_with fail
          refine HC.out.mono ?_
          rintro e w1 ⟨rfl,q,rfl⟩
          clear HC
          go_wp2
          exact ⟨⟨j + 1,x,by omega,by go_num,HQ.out,HM.out.drew q,HO.out.drew q⟩,by simp [intOf];omega⟩
         | true =>
          have HQ := hid1 (HS.out.hit hw HBD.out hnd)
          have HM4 := hid1 fun q => (HM.out.drew q).setS hkl (.string (ba Bf.St.left.name))
          have HO4 := hid1 fun q => (HO.out.drew q).set k (.string (ba Bf.St.left.name))
          rw [upd_name] at HM4
          rw [hnd] at HC
          clear HS
          go_wp2_with fail
          refine HC.out.mono ?_
          rintro e w1 ⟨rfl,q,rfl⟩
          clear HC
          go_wp2
          exact ⟨⟨j + 1,_,by omega,by go_num,HQ.out,HM4.out q,HO4.out q⟩,by simp [intOf];omega⟩
       | false =>
        cases hlf : (x j).isLeft with
        | true =>
         rw [hf] at q1
         rw [hf,hlf] at HB
         rw [hlf] at q2
         have hbd : (x j).isBad = true := by rw [HB.out];rfl
         have HBD := hid1 hbd
         clear hbd HB
         cases hw : (x k).isWaits with
         | false =>
          rw [hw] at q3
          have HQ := hid1 (HS.out.miss (by rw [hw];rfl))
          clear HC HS
          go_wp2
          exact ⟨⟨j + 1,x,by omega,by go_num,HQ.out,HM.out,HO.out⟩,by simp [intOf];omega⟩
         | true =>
          have HW := hid1 hw
          rw [hw] at q3
          cases hnd : Ru.needs d.l k j with
          | false =>
           have HQ := hid1 (HS.out.miss (by rw [hnd];simp))
           rw [hnd] at HC
           clear HS
           go_wp2_with fail
           refine HC.out.mono ?_
           rintro e w1 ⟨rfl,q,rfl⟩
           clear HC
           go_wp2
           exact ⟨⟨j + 1,x,by omega,by go_num,HQ.out,HM.out.drew q,HO.out.drew q⟩,by simp [intOf];omega⟩
          | true =>
           have HQ := hid1 (HS.out.hit hw HBD.out hnd)
           have HM4 := hid1 fun q => (HM.out.drew q).setS hkl (.string (ba Bf.St.left.name))
           have HO4 := hid1 fun q => (HO.out.drew q).set k (.string (ba Bf.St.left.name))
           rw [upd_name] at HM4
           rw [hnd] at HC
           clear HS
           go_wp2_with fail
           refine HC.out.mono ?_
           rintro e w1 ⟨rfl,q,rfl⟩
           clear HC
           go_wp2
           exact ⟨⟨j + 1,_,by omega,by go_num,HQ.out,HM4.out q,HO4.out q⟩,by simp [intOf];omega⟩
        | false =>
         rw [hf] at q1
         rw [hf,hlf] at HB
         rw [hlf] at q2
         cases hw : (x k).isWaits with
         | false =>
          rw [hw] at q3
          have HQ := hid1 (HS.out.miss (by rw [hw];rfl))
          clear HC HS
          go_wp2
          exact ⟨⟨j + 1,x,by omega,by go_num,HQ.out,HM.out,HO.out⟩,by simp [intOf];omega⟩
         | true =>
          rw [hw] at q3
          have HQ := hid1 (HS.out.miss (by rw [hw,HB.out];rfl))
          clear HC HS
          go_wp2
          exact ⟨⟨j + 1,x,by omega,by go_num,HQ.out,HM.out,HO.out⟩,by simp [intOf];omega⟩
      ·have j1 : (d.l.length : Int) ≤ (j : Int) := by omega
       obtain rfl : j = d.l.length := by omega
       have HM := hid1 hM
       have HO := hid1 hO
       have HS := hid1 hSw
       clear hM hO hSw c2
       go_wp2
       exact ⟨⟨k + 1,x,by omega,by go_num,HS.out.row,HM.out,HO.out⟩,by simp [intOf];omega⟩
    ·have k1 : (d.l.length : Int) ≤ (k : Int) := by omega
     obtain rfl : k = d.l.length := by omega
     have HM := hid1 hM
     have HO := hid1 hO
     have HS := hid1 hSw
     clear hM hO hSw
     go_wp2
     exact ⟨⟨r + 1,cu,by omega,by go_num,HR0.out.next HS.out,HM.out,HO.out⟩,by simp [intOf];omega⟩
  ·have r1 : (d.l.length : Int) ≤ (r : Int) := by omega
   obtain rfl : r = d.l.length := by omega
   have HM := hid1 hM
   have HO := hid1 hO
   have HR := hid1 hR
   clear hM hO hR
   go_wp2
   go_end0
   exact ⟨rfl,HF.out cur (HRE.out cur HR.out) _ HM.out,HO.out⟩
theorem mbRun_out {w0 W : World} {mb tb : Nat} {tv lv cv : Value} {gs go gh gw : Nat} {d : Bf.Bd} (h : MB w0 W mb tb tv lv cv gs go gh gw d) (i : Int) (hi : i < 0 ∨ (d.l.length : Int) ≤ i) :
  Calls Tryz.prog 66 #[.pointer (some ⟨mb,0,none⟩),.int .i64 i] W fun e w' => e = .returned (.tuple #[.bool false,.int .i64 6]) ∧ Below W.heap.size W w' := by
 obtain ⟨p,cap,rfl,-⟩ := h.row
 have c1 := h.c1
 clear h
 by_cases hneg : i < 0
 ·go_enter Tryz.func66,Tryz.ntmps66
  go_wp2
  go_ret2
  exact ⟨rfl,Below.refl _ _⟩
 ·have i0 : 0 ≤ i := by omega
  have i1 : (d.l.length : Int) ≤ i := by omega
  go_enter Tryz.func66,Tryz.ntmps66
  go_wp2
  go_ret2
  exact ⟨rfl,Below.refl _ _⟩
theorem mbRun_not {w0 W : World} {mb tb : Nat} {tv lv cv : Value} {gs go gh gw : Nat} {d : Bf.Bd} (h : MB w0 W mb tb tv lv cv gs go gh gw d) (hn : d.l.length ≤ 1000) (hI : ∀ x ∈ d.l,x.ins.length ≤ 1000000) (i : Nat) (hi : i < d.l.length) (hr : d.isReady i = false) (act : Bf.Act) (c : Bf.Ca) :
  Calls Tryz.prog 66 #[.pointer (some ⟨mb,0,none⟩),.int .i64 i] W fun e w' => e = .returned (.tuple #[.bool (Bf.runN act c d i).hit,.int .i64 ((Bf.runN act c d i).code : Nat)]) ∧ (Bf.runN act c d i).d = d ∧ (Bf.runN act c d i).c = c ∧ Below W.heap.size W w' := by
 have HR := hid1 (mbIsReady_calls h hn hI i hi)
 rw [hr] at HR
 obtain ⟨p,cap,rfl,-⟩ := h.row
 have c1 := h.c1
 have c2 := h.c2
 have cs := (h.rs.2 i hi).1
 have i0 : (0 : Int) ≤ (i : Int) := by omega
 have i1 : (i : Int) < (d.l.length : Int) := by omega
 have q1 := Bf.St.name_no (d.st i)
 have q2 := Bf.St.name_waits (d.st i)
 have q3 : (d.st i).name.isEmpty = (d.st i).isNo := by cases d.st i <;> rfl
 clear h
 cases h1 : (d.st i).isNo with
 | true =>
  rw [h1] at q1 q3
  have HE : Hid (Bf.runN act c d i = ⟨false,6,d,c⟩) := hid1 (by unfold Bf.runN;rw [if_pos h1])
  rw [HE.out]
  go_enter Tryz.func66,Tryz.ntmps66
  go_wp2
  go_ret2
  exact ⟨rfl,trivial,trivial,Below.refl _ _⟩
 | false =>
  rw [h1] at q1 q3
  cases h2 : (d.st i).isWaits with
  | false =>
   rw [h2] at q2
   have HE : Hid (Bf.runN act c d i = ⟨false,12,d,c⟩) := hid1 (by unfold Bf.runN;rw [if_neg (by rw [h1];simp),if_pos h2])
   rw [HE.out]
   go_enter Tryz.func66,Tryz.ntmps66
   go_wp2
   go_ret2
   exact ⟨rfl,trivial,trivial,Below.refl _ _⟩
  | true =>
   rw [h2] at q2
   have HE : Hid (Bf.runN act c d i = ⟨false,11,d,c⟩) := hid1 (by unfold Bf.runN;rw [if_neg (by rw [h1];simp),if_neg (by rw [h2];simp),if_pos hr])
   rw [HE.out]
   go_enter Tryz.func66,Tryz.ntmps66
   go_wp2_with fail
   refine HR.out.mono ?_
   rintro e w1 ⟨rfl,g1⟩
   clear HR
   go_wp2
   go_ret2
   exact ⟨rfl,trivial,trivial,g1⟩
theorem LongTexts_any {w : World} (v : Value) (ls : List (List UInt8)) (many most : Nat) (hmany : many ≤ 1000000) (hmost : most ≤ 1000000) (hrow : IRow w v ls) :
  Calls Tryz.prog 29 #[v,.int .i64 many,.int .i64 most] w fun e w' => ∃ r : Int,e = .returned (.int .i64 r) ∧ w' = w ∧ (r = 1 ∨ (r = 0 ∧ ls.length ≤ many ∧ ∀ x ∈ ls,x.length ≤ most)) := by
 obtain ⟨p,cap,rfl,hin⟩ := hrow
 have zM : (most : Int) ≤ 1000000 := by omega
 have zN : (many : Int) ≤ 1000000 := by omega
 have HI := hid1 hin
 clear hin
 by_cases h12 : ls.length ≤ many
 ·have z12 : (ls.length : Int) ≤ (many : Int) := by omega
  go_enter Tryz.func29,Tryz.ntmps29
  go_wp2
  go_loopw [7,8] (fun n i wr => ∃ k m : Nat,k ≤ ls.length ∧ m ≤ most ∧ n = .int .i64 m ∧ i = .int .i64 k ∧ (∀ j (hj : j < ls.length),j < k → ls[j].length ≤ most) ∧ w = wr) (fun _ i _ => ls.length - (intOf i).toNat)
  case atStart => exact ⟨0,0,Nat.zero_le _,Nat.zero_le _,rfl,rfl,fun j hj h => by omega,rfl⟩
  case round =>
   obtain ⟨k,m,hk,hm,rfl,rfl,hall,rfl⟩ := hrel
   have HA := hid1 hall
   clear hall
   have c0 : (0 : Int) ≤ (k : Int) := by omega
   have zm : (m : Int) ≤ (most : Int) := by omega
   have q8 : IntKind.i64.wrap (k : Int) = (k : Int) := by rw [IntKind.wrap_i64];omega
   by_cases hlt : k < ls.length
   ·have c1 : (k : Int) < (ls.length : Int) := by omega
    obtain ⟨g,o,rfl,hg,hcur⟩ := HI.out (by intro e;rw [e] at hlt;simp at hlt)
    have hcell := hcur k hlt
    have HS : Hid (ls[k].length ≤ most → ∀ j (hj : j < ls.length),j < k + 1 → ls[j].length ≤ most) := by
     refine hid1 fun h j hj hjk => ?_
     by_cases e : j = k
     ·subst e;exact h
     ·exact HA.out j hj (by omega)
    clear hcur HI HA
    generalize ls[k] = y at *
    by_cases hy : y.length ≤ most
    ·have zy : (y.length : Int) ≤ (most : Int) := by omega
     have HN := hid1 (HS.out hy)
     clear HS
     have q7 : IntKind.i64.wrap ((m : Int) + (y.length : Int)) = ((m + y.length : Nat) : Int) := by rw [IntKind.wrap_i64];omega
     by_cases hs : m + y.length ≤ most
     ·have zs : ((m + y.length : Nat) : Int) ≤ (most : Int) := by omega
      generalize hmy : m + y.length = m1 at *
      clear hmy
      go_wp2
      exact ⟨⟨k + 1,m1,by omega,hs,rfl,by go_num,HN.out,trivial⟩,by simp [intOf];omega⟩
     ·have zs : (most : Int) < ((m + y.length : Nat) : Int) := by omega
      generalize hmy : m + y.length = m1 at *
      clear hmy
      go_wp2
      go_ret
      exact ⟨1,rfl,rfl,.inl rfl⟩
    ·have zy : (most : Int) < (y.length : Int) := by omega
     clear HS
     go_wp2
     go_ret
     exact ⟨1,rfl,rfl,.inl rfl⟩
   ·obtain rfl : k = ls.length := by omega
    have c1 : ¬ (ls.length : Int) < (ls.length : Int) := by omega
    have HF : Hid (∀ x ∈ ls,x.length ≤ most) := by
     refine hid1 fun x hx => ?_
     obtain ⟨j,hj,rfl⟩ := List.getElem_of_mem hx
     exact HA.out j hj hj
    clear HI HA
    go_wp2
    go_ret
    exact ⟨0,rfl,rfl,.inr ⟨rfl,HF.out⟩⟩
 ·have z12 : (many : Int) < (ls.length : Int) := by omega
  go_enter Tryz.func29,Tryz.ntmps29
  go_wp2
  go_ret
  exact ⟨1,rfl,rfl,.inl rfl⟩
theorem OwnTexts_nil (w : World) :
  Calls Tryz.prog 31 #[.slice none 0 0] w fun e w' => ∃ v',e = .returned v' ∧ XRow w' v' [] ∧ TRow w' v' [] ∧ Below w.heap.size w w' := by
 obtain ⟨i0,hi,hz0,hz1,hz2⟩ := info_parts Tryz.infoStr
 have n1 : World.ownsRow w w.heap.size 9 1 (.slice none 0 0) 0 [] := World.ownsRow_nil _ _ _ _
 go_enter Tryz.func31,Tryz.ntmps31
 go_wp2_with (first
  | (at_builtin;refine wpList_append_own_none rfl _ _ 45 rfl w.heap.size 9 i0 1 Tryz.underlying45 hi _ _ _ rfl n1 rfl ?_)
  | go_in)
 go_ret
 exact ⟨_,rfl,XRow.of_owns (l := []) n1,TRow.of_owns (l := []) n1,Below.refl _ _⟩
theorem OwnTexts_some (w : World) (a : Addr) (cap : Nat) (ls : List (List UInt8)) (hn : ls.length ≤ 12) (hsrc : ∀ j u,(ls.map sv)[j]? = some u → w.cell? (a.add j) = some u) :
  Calls Tryz.prog 31 #[.slice (some a) ls.length cap] w fun e w' => ∃ v',e = .returned v' ∧ XRow w' v' ls ∧ TRow w' v' ls ∧ Below w.heap.size w w' := by
 obtain ⟨i0,hi,hz0,hz1,hz2⟩ := info_parts Tryz.infoStr
 have n1 : World.ownsRow w w.heap.size 9 1 (.slice none 0 0) 0 [] := World.ownsRow_nil _ _ _ _
 go_enter Tryz.func31,Tryz.ntmps31
 go_wp2_with (first
  | (at_builtin;refine wpList_append_own _ rfl _ _ 45 rfl w.heap.size 9 i0 (.string ⟨#[]⟩) 1 16 Tryz.underlying45 hi hz0 hz1 hz2 rfl (by decide) _ _ _ rfl n1 a ls.length cap (ls.map sv) rfl (by simp) hsrc one_sv (by unfold maxLen;omega) (by omega) (Nat.le_refl _) ?_;intro v1 w1 hown1 hgrow1 _;have b1 := lay_b1 n1 hgrow1;clear hsrc n1 hgrow1)
  | go_in)
 go_ret
 exact ⟨_,rfl,XRow.of_owns hown1,TRow.of_owns hown1,b1⟩
theorem OwnTexts_x {w : World} (v : Value) (ls : List (List UInt8)) (hrow : XRow w v ls) (h12 : ls.length ≤ 12) :
  Calls Tryz.prog 31 #[v] w fun e w' => ∃ v',e = .returned v' ∧ XRow w' v' ls ∧ TRow w' v' ls ∧ Below w.heap.size w w' := by
 have hx := hrow.irow
 have hv := hrow.shape
 obtain ⟨p,cap,rfl,hin⟩ := hx
 rcases hv with e | ⟨a,n,c,e⟩
 ·obtain ⟨rfl,e2,rfl⟩ : p = none ∧ ls.length = 0 ∧ cap = 0 := by simpa using e
  obtain rfl := List.length_eq_zero_iff.1 e2
  exact OwnTexts_nil w
 ·obtain ⟨rfl,rfl,rfl⟩ : p = some a ∧ ls.length = n ∧ cap = c := by simpa using e
  refine OwnTexts_some w a cap ls h12 fun j u hj => ?_
  have hjl : j < ls.length := by simpa using (List.getElem?_eq_some_iff.1 hj).1
  obtain ⟨g,o,e1,hg,hcur⟩ := hin (by intro e;rw [e] at hjl;simp at hjl)
  obtain rfl := Option.some.inj e1
  rw [List.getElem?_map,List.getElem?_eq_getElem hjl] at hj
  simp only [Option.map_some,Option.some.injEq] at hj
  rw [← hj,add_at2]
  exact hcur j hjl
theorem kadd (a b : List UInt8) (h : a.length + b.length ≤ 100000000) (W : World) : (Op.stringOp .add (ba a) (ba b)).run Tryz.prog W = .ok (.string (ba (a ++ b))) W := by
 rw [run_string_add_sum (P := Tryz.prog) W (ba a) (ba b) (by rw [ba_size,ba_size];omega),ba_append]
theorem piece_len (x : List UInt8) (h : x.length ≤ 5000) : (Kp.piece x).length ≤ x.length + 22 := by
 unfold Kp.piece
 have := digits_len x.length (by omega)
 simp
 omega
theorem KeyOf_calls {W : World} (kind word : List UInt8) (v : Value) (ins : List (List UInt8)) (hrow : IRow W v ins) (hk : kind.length ≤ 200) (hw : word.length ≤ 200) (hn : ins.length ≤ 12) (hx : ∀ x ∈ ins,x.length ≤ 3000) :
  Calls Tryz.prog 117 #[.string (ba kind),.string (ba word),v] W fun e w' => e = .returned (.string (ba (Kp.key kind word ins))) ∧ Below W.heap.size W w' := by
 obtain ⟨p,cap,rfl,hin⟩ := hrow
 have HI := hid1 hin
 clear hin
 have zl : (ins.length : Int) ≤ 12 := by omega
 have HD := hid1 fun (n : Nat) (h : n ≤ 1000000) (X : World) => Decimal_calls n h X
 have l1 := digits_len kind.length (by omega)
 have l2 := digits_len word.length (by omega)
 have zk : (kind.length : Int) ≤ 200 := by omega
 have zw : (word.length : Int) ≤ 200 := by omega
 obtain ⟨A1,hA1⟩ : ∃ x,x = Lib.decDigits kind.length := ⟨_,rfl⟩
 obtain ⟨A2,hA2⟩ : ∃ x,x = A1 ++ [58] := ⟨_,rfl⟩
 obtain ⟨A3,hA3⟩ : ∃ x,x = A2 ++ kind := ⟨_,rfl⟩
 obtain ⟨D2,hD2⟩ : ∃ x,x = Lib.decDigits word.length := ⟨_,rfl⟩
 obtain ⟨A4,hA4⟩ : ∃ x,x = A3 ++ D2 := ⟨_,rfl⟩
 obtain ⟨A5,hA5⟩ : ∃ x,x = A4 ++ [58] := ⟨_,rfl⟩
 obtain ⟨A6,hA6⟩ : ∃ x,x = A5 ++ word := ⟨_,rfl⟩
 rw [← hA1] at l1
 rw [← hD2] at l2
 have m2 : A2.length = A1.length + 1 := by rw [hA2];simp
 have m3 : A3.length = A2.length + kind.length := by rw [hA3];simp
 have m4 : A4.length = A3.length + D2.length := by rw [hA4];simp
 have m5 : A5.length = A4.length + 1 := by rw [hA5];simp
 have m6 : A6.length = A5.length + word.length := by rw [hA6];simp
 have s2 : ∀ X,(Op.stringOp .add (ba A1) ⟨#[58]⟩).run Tryz.prog X = .ok (.string (ba A2)) X := fun X => by rw [hA2];exact kadd A1 [58] (by simp;omega) X
 have s3 : ∀ X,(Op.stringOp .add (ba A2) (ba kind)).run Tryz.prog X = .ok (.string (ba A3)) X := fun X => by rw [hA3];exact kadd A2 kind (by omega) X
 have s4 : ∀ X,(Op.stringOp .add (ba A3) (ba D2)).run Tryz.prog X = .ok (.string (ba A4)) X := fun X => by rw [hA4];exact kadd A3 D2 (by omega) X
 have s5 : ∀ X,(Op.stringOp .add (ba A4) ⟨#[58]⟩).run Tryz.prog X = .ok (.string (ba A5)) X := fun X => by rw [hA5];exact kadd A4 [58] (by simp;omega) X
 have s6 : ∀ X,(Op.stringOp .add (ba A5) (ba word)).run Tryz.prog X = .ok (.string (ba A6)) X := fun X => by rw [hA6];exact kadd A5 word (by omega) X
 have HA : Hid (A6 = Kp.piece kind ++ Kp.piece word) := hid1 (by rw [hA6,hA5,hA4,hA3,hA2,hA1,hD2];unfold Kp.piece;simp)
 have hA6l : A6.length ≤ 500 := by omega
 have H1 := hid1 (HD.out kind.length (by omega) W)
 rw [← hA1] at H1
 have H2 := hid1 (HD.out word.length (by omega))
 rw [← hD2] at H2
 have HKey : Hid (Kp.key kind word ins = A6 ++ ins.flatMap Kp.piece) := hid1 (by rw [HA.out];rfl)
 have HX := hid1 hx
 clear hA1 hA2 hA3 hA4 hA5 hA6 hD2 HA hx
 go_enter Tryz.func117,Tryz.ntmps117
 go_wp2_with fail
 refine H1.out.mono ?_
 rintro e w1 ⟨rfl,g1⟩
 clear H1
 go_wp2_with fail
 refine (H2.out w1).mono ?_
 rintro e w2 ⟨rfl,g2⟩
 have g3 := below_then g1 g2
 clear H2 g1 g2
 go_wp2
 clear s2 s3 s4 s5 s6
 go_loopw [7,8] (fun ov iv wr => ∃ j : Nat,j ≤ ins.length ∧ iv = .int .i64 j ∧ ov = .string (ba (A6 ++ (ins.take j).flatMap Kp.piece)) ∧ Below W.heap.size W wr) (fun _ iv _ => ins.length - (intOf iv).toNat)
 case atStart => exact ⟨0,Nat.zero_le _,rfl,by simp,g3⟩
 case round =>
  obtain ⟨j,hj,rfl,rfl,B⟩ := hrel
  have j0 : (0 : Int) ≤ (j : Int) := by omega
  by_cases hlt : j < ins.length
  ·have j1 : (j : Int) < (ins.length : Int) := by omega
   obtain ⟨g,o,rfl,hg,hc⟩ := HI.out (by intro e;rw [e] at hlt;simp at hlt)
   have d0 := (B.cell (p := ⟨g,o + j,none⟩) hg).trans (hc j hlt)
   have hxl := HX.out _ (List.getElem_mem hlt)
   have hacc : ((ins.take j).flatMap Kp.piece).length ≤ j * 3022 := by
    have key : ∀ k,k ≤ ins.length → ((ins.take k).flatMap Kp.piece).length ≤ k * 3022 := by
     intro k
     induction k with
     | zero => intro _;simp
     | succ k ih =>
      intro hk
      have h1 := ih (by omega)
      have h2 := piece_len ins[k] (by have := HX.out _ (List.getElem_mem (show k < ins.length by omega));omega)
      have h3 := HX.out _ (List.getElem_mem (show k < ins.length by omega))
      rw [List.take_succ_eq_append_getElem (by omega),List.flatMap_append,List.length_append]
      simp only [List.flatMap_cons,List.flatMap_nil,List.append_nil]
      omega
    exact key j (by omega)
   have HS : Hid (A6 ++ (ins.take (j + 1)).flatMap Kp.piece = A6 ++ (ins.take j).flatMap Kp.piece ++ Lib.decDigits ins[j].length ++ [58] ++ ins[j]) := hid1 (by
    rw [List.take_succ_eq_append_getElem hlt,List.flatMap_append]
    simp [Kp.piece])
   have hlx := digits_len ins[j].length (by omega)
   have HDx := hid1 fun X => HD.out ins[j].length (by omega) X
   clear hc HI
   have hj10 : j * 3022 ≤ 36264 := by omega
   generalize ins[j] = y at *
   have hout : (A6 ++ (ins.take j).flatMap Kp.piece).length ≤ 40000 := by rw [List.length_append];omega
   generalize A6 ++ (ins.take j).flatMap Kp.piece = t at *
   obtain ⟨D,hD⟩ : ∃ x,x = Lib.decDigits y.length := ⟨_,rfl⟩
   obtain ⟨T1,hT1⟩ : ∃ x,x = t ++ D := ⟨_,rfl⟩
   obtain ⟨T2,hT2⟩ : ∃ x,x = T1 ++ [58] := ⟨_,rfl⟩
   obtain ⟨T3,hT3⟩ : ∃ x,x = T2 ++ y := ⟨_,rfl⟩
   rw [← hD] at hlx HDx HS
   have n1 : T1.length = t.length + D.length := by rw [hT1];simp
   have n2 : T2.length = T1.length + 1 := by rw [hT2];simp
   have s1 : ∀ X,(Op.stringOp .add (ba t) (ba D)).run Tryz.prog X = .ok (.string (ba T1)) X := fun X => by rw [hT1];exact kadd t D (by omega) X
   have s2 : ∀ X,(Op.stringOp .add (ba T1) ⟨#[58]⟩).run Tryz.prog X = .ok (.string (ba T2)) X := fun X => by rw [hT2];exact kadd T1 [58] (by simp;omega) X
   have s3 : ∀ X,(Op.stringOp .add (ba T2) (ba y)).run Tryz.prog X = .ok (.string (ba T3)) X := fun X => by rw [hT3];exact kadd T2 y (by omega) X
   rw [← hT1,← hT2,← hT3] at HS
   clear hD hT1 hT2 hT3
   go_wp2
   go_region_held3 (fun w' => w'.cell? ⟨g,o + j,none⟩ = some (.string (ba y))) (first | go_keep | fail)
    (first | (go_at_call 77;refine (HDx.out _).mono ?_;rintro e w5 ⟨rfl,g5⟩;have e0 := cell_below' (w := wr.drew) d0 g5;have B5 := below_then B.drew g5) | fail)
   all_goals
    go_wp2
    exact ⟨⟨j + 1,by omega,by go_num,by rw [HS.out],B5⟩,by simp [intOf];omega⟩
  ·have j1 : (ins.length : Int) ≤ (j : Int) := by omega
   obtain rfl : j = ins.length := by omega
   clear HI
   rw [List.take_length]
   go_wp2
   go_ret
   exact ⟨ret_eq (by rw [HKey.out];rfl),B⟩
end Go.Proofs.YtflbofdpfgkmcaaGreatDoor
