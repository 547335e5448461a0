import Derived.Test.YtdljhggillgpfaaGreatDoorSR46
set_option maxRecDepth 100000
set_option maxHeartbeats 32000000
namespace Go.Proofs.YtdljhggillgpfaaGreatDoor
open Go.RowKit Go.Shelf Go.Lib
variable {es : Nat → Addr} {At : (Nat → Prop) → World → Value → Nat → Cf.Ens → Prop} {BAt : (Nat → Prop) → World → Value → Value → Bf.Bd → Prop}
theorem index_det {W : World} (v : Value) (l : List (List UInt8)) (x : List UInt8) (hr : IRow W v l) (hl : l.length ≤ 1000000) :
  ∃ r : Int,(∀ V,Below W.heap.size W V → Calls Tryz.prog 9 #[v,.string (ba x)] V fun e w' => e = .returned (.int .i64 r) ∧ w' = V) ∧ ((r = -1 ∧ x ∉ l) ∨ ∃ k : Nat,r = k ∧ ∃ h : k < l.length,l[k] = x) := by
 by_cases h : ∃ k : Nat,∃ h : k < l.length,l[k] = x ∧ x ∉ l.take k
 ·obtain ⟨k,hk,h1,h2⟩ := h
  refine ⟨k,fun V g => (rIndex_calls v l x (hr.below g) hl).mono ?_,.inr ⟨k,rfl,hk,h1⟩⟩
  rintro e w' ⟨r,rfl,rfl,⟨-,h3⟩ | ⟨j,rfl,hj,h3,h4⟩⟩
  ·exact absurd (h1 ▸ List.getElem_mem hk) h3
  ·have : k = j := by
    rcases Nat.lt_trichotomy k j with h5 | h5 | h5
    ·exact absurd (List.mem_take_iff_getElem.2 ⟨k,by omega,h1⟩) h4
    ·exact h5
    ·exact absurd (List.mem_take_iff_getElem.2 ⟨j,by omega,h3⟩) h2
   subst this
   exact ⟨rfl,rfl⟩
 ·refine ⟨-1,fun V g => (rIndex_calls v l x (hr.below g) hl).mono ?_,.inl ⟨rfl,fun hx => ?_⟩⟩
  ·rintro e w' ⟨r,rfl,rfl,⟨rfl,-⟩ | ⟨j,rfl,hj,h3,h4⟩⟩
   ·exact ⟨rfl,rfl⟩
   ·exact absurd ⟨j,hj,h3,h4⟩ h
  ·refine h ⟨l.findIdx (· == x),List.findIdx_lt_length_of_exists ⟨x,hx,by simp⟩,?_,fun h6 => ?_⟩
   ·have := List.findIdx_getElem (xs := l) (p := (· == x)) (w := List.findIdx_lt_length_of_exists ⟨x,hx,by simp⟩)
    simpa using this
   ·obtain ⟨j,hj,e⟩ := List.mem_take_iff_getElem.1 h6
    have := List.not_of_lt_findIdx (p := (· == x)) (xs := l) (i := j) (by omega)
    simp [e] at this
theorem ScriptReads_calls (HC : Caches0 es At) (HB : Builds es Af.actO At BAt) {W : World} {m : Int} (hB : ScB W.heap.size W es m) (v : Value) (l : List (List UInt8)) (hv : IRow W v l) :
  Calls Tryz.prog 3 #[v] W fun e w' => e = .returned (.bool true) ∧ Below W.heap.size W w' := by
 obtain ⟨i0,hi,hz0,hz1,hz2⟩ := info_parts Tryz.infoStr
 have HH := hid1 (hello_calls HC HB hB)
 have HBs := hid1 fun (V : World) (g : Below W.heap.size W V) => (hB.trans g).top
 have HCs := hid1 HC
 have HBu := hid1 HB
 obtain ⟨pv,cv,rfl,hin⟩ := hv
 have HI := hid1 hin
 clear hB HC HB hin
 go_enter Tryz.func3,Tryz.ntmps3
 go_wp2_with fail
 refine HH.out.mono ?_
 rintro e w1 ⟨rfl,g1⟩
 have HG1 := hid1 g1
 have zz1 := g1.size
 clear HH g1
 by_cases h110 : 110 < l.length
 ·have z : (110 : Int) < (l.length : Int) := by omega
  clear HBs HI
  go_wp2
  go_ret
  exact ⟨rfl,HG1.out⟩
 have z110 : (l.length : Int) ≤ 110 := by omega
 go_wp2
 go_loopw [4,5] (fun ov iv wr => ∃ k : Nat,k ≤ l.length ∧ iv = .int .i64 k ∧ (∀ x ∈ l.take k,x.length ≤ 100) ∧ wr.ownsRow w1.heap.size 9 1 ov k ((l.take k).map sv) ∧ Below w1.heap.size w1 wr) (fun _ iv _ => l.length - (intOf iv).toNat)
 case atStart => exact ⟨0,Nat.zero_le _,rfl,by simp,World.ownsRow_nil _ _ _ _,Below.refl _ _⟩
 case round =>
  obtain ⟨k,hk,rfl,hsm,hown,gB⟩ := hrel
  have HSm := hid1 hsm
  have k0 : (0 : Int) ≤ (k : Int) := by omega
  clear hsm
  by_cases hlt : k < l.length
  ·have k1 : (k : Int) < (l.length : Int) := by omega
   obtain ⟨gs,os,rfl,hgs,hcs⟩ := HI.out (by intro e;rw [e] at hlt;simp at hlt)
   have dk := cell_below' (cell_below' (hcs k hlt) HG1.out) gB
   have HTk : Hid (l[k].length ≤ 100 → ∀ x ∈ l.take (k + 1),x.length ≤ 100) := hid1 fun h x hx => by
    rw [List.take_succ_eq_append_getElem hlt] at hx
    rcases List.mem_append.1 hx with h1 | h1
    ·exact HSm.out x h1
    ·rw [List.mem_singleton.1 h1];exact h
   have HTl : Hid ((l.take (k + 1)).map sv = (l.take k).map sv ++ [sv l[k]]) := hid1 (by rw [List.take_succ_eq_append_getElem hlt,List.map_append];rfl)
   have hsx : (ba l[k]).size = l[k].length := ba_size _
   clear hcs HI HSm
   generalize l[k] = x at *
   by_cases hx : 100 < x.length
   ·have x1 : (100 : Int) < (((ba x).size : Nat) : Int) := by omega
    have HF := hid1 (below_then HG1.out gB)
    clear HTk HTl hown HBs
    go_wp2
    go_ret
    exact ⟨rfl,HF.out⟩
   ·have x1 : (((ba x).size : Nat) : Int) ≤ 100 := by omega
    have hml : k + 1 ≤ maxLen := by unfold maxLen;omega
    have hbz := gB.size
    have HN := hid1 (HTk.out (by omega))
    have HB0 := hid1 gB
    have hrow := hown
    clear HTk hsx
    go_wp2_with (at_builtin;refine wpList_append_own _ rfl _ _ 22 rfl w1.heap.size 9 i0 (.string ⟨#[]⟩) 1 16 Tryz.underlying22 hi hz0 hz1 hz2 rfl (by decide) _ _ _ rfl (hrow.alloc _) ⟨wr.heap.size,0,none⟩ 1 1 [sv x] rfl rfl (cell_one_new _ _ _) (by simp [Value.oneCell']) hml (by omega) (by simp;omega) ?_;intro v' w4 hown' hgrow _)
    exact ⟨⟨k + 1,by omega,by go_num,HN.out,by rw [HTl.out];exact hown',below_appended HB0.out hbz hrow hgrow⟩,by simp [intOf];omega⟩
  ·have k1 : (l.length : Int) ≤ (k : Int) := by omega
   obtain rfl : k = l.length := by omega
   rw [List.take_length] at hown HSm
   have GB := below_then HG1.out gB
   have hrow := irow_owns rfl hown
   obtain ⟨pw,cw,rfl⟩ := own_slice hown
   by_cases h100 : 100 < l.length
   ·have z : (100 : Int) < (l.length : Int) := by omega
    have HR := hid1 (scRun_many (HBs.out wr GB) _ l hrow h100)
    have HE := hid1 fun (V : World) (g : Below W.heap.size W V) => coded3_es 1 (by omega) es V (HBs.out V g).e12
    have HGB := hid1 GB
    clear HBs HI HSm hown hrow GB gB
    simp only [erOf] at HR
    go_wp2_with fail
    refine HR.out.mono ?_
    rintro e w3 ⟨rfl,g3⟩
    have HE3 := hid1 (HE.out w3 (below_then HGB.out g3))
    have HG3 := hid1 (below_then HGB.out g3)
    clear HE HR g3
    go_wp2_with fail
    refine HE3.out.mono ?_
    rintro e w4 ⟨rfl,g4⟩
    have HG4 := hid1 (below_then HG3.out g4)
    clear HE3 g4
    go_wp2
    go_ret
    exact ⟨rfl,HG4.out⟩
   ·have z : (l.length : Int) ≤ 100 := by omega
    have HR := hid1 (scRun_calls HCs.out HBu.out (HBs.out wr GB) _ l hrow (by omega) fun x hx => ⟨by have := HSm.out x hx;omega,fun _ => by have := HSm.out x hx;omega⟩)
    have HGB := hid1 GB
    clear HBs hown hrow GB gB HCs HBu
    go_wp2_with fail
    refine HR.out.mono ?_
    rintro e w3 ⟨u,rfl,ho,g3⟩
    have hu := irow_owns (Sc.answers_len l Sc.y0).symm ho
    obtain ⟨pu,cu,rfl⟩ := own_slice ho
    have G3 := below_then HGB.out g3
    have gA : Below w3.heap.size w3 (w3.alloc (.cells #[.string ⟨#[112,117,116]⟩,.string ⟨#[100,114,111,112]⟩,.string ⟨#[114,117,108,101]⟩,.string ⟨#[99,108,101,97,114]⟩,.string ⟨#[109,97,107,101]⟩,.string ⟨#[115,104,111,119]⟩,.string ⟨#[119,97,110,116]⟩,.string ⟨#[115,116,97,108,101]⟩,.string ⟨#[111,114,100,101,114]⟩,.string ⟨#[108,101,97,118,101,115]⟩,.string ⟨#[102,105,108,101,115]⟩] 9)) := (Below.refl _ w3).alloc (Nat.le_refl _) _
    have hW := xrow_lit (l := Sc.names) (row_newW w3 (.cells #[.string ⟨#[112,117,116]⟩,.string ⟨#[100,114,111,112]⟩,.string ⟨#[114,117,108,101]⟩,.string ⟨#[99,108,101,97,114]⟩,.string ⟨#[109,97,107,101]⟩,.string ⟨#[115,104,111,119]⟩,.string ⟨#[119,97,110,116]⟩,.string ⟨#[115,116,97,108,101]⟩,.string ⟨#[111,114,100,101,114]⟩,.string ⟨#[108,101,97,118,101,115]⟩,.string ⟨#[102,105,108,101,115]⟩] 9))
    have HG3 := hid1 G3
    have HGA := hid1 (And.intro gA (below_then G3 gA))
    have HU := hid1 (hu.below gA)
    have HW := hid1 hW
    have HAn := hid1 (Sc.answers_len l Sc.y0)
    clear HR ho hu g3 G3 gA hW
    go_wp2
    generalize hwA : w3.alloc (.cells #[.string ⟨#[112,117,116]⟩,.string ⟨#[100,114,111,112]⟩,.string ⟨#[114,117,108,101]⟩,.string ⟨#[99,108,101,97,114]⟩,.string ⟨#[109,97,107,101]⟩,.string ⟨#[115,104,111,119]⟩,.string ⟨#[119,97,110,116]⟩,.string ⟨#[115,116,97,108,101]⟩,.string ⟨#[111,114,100,101,114]⟩,.string ⟨#[108,101,97,118,101,115]⟩,.string ⟨#[102,105,108,101,115]⟩] 9) = wA at *
    go_loopw [9] (fun iv wq => ∃ k : Nat,k ≤ l.length ∧ iv = .int .i64 k ∧ Below wA.heap.size wA wq) (fun iv _ => l.length - (intOf iv).toNat)
    case atStart => exact ⟨0,Nat.zero_le _,rfl,Below.refl _ _⟩
    case round =>
     obtain ⟨k,hk,rfl,gq⟩ := hrel
     have k0 : (0 : Int) ≤ (k : Int) := by omega
     by_cases hlt : k < l.length
     ·have k1 : (k : Int) < (l.length : Int) := by omega
      have hne : l ≠ [] := by intro e;rw [e] at hlt;simp at hlt
      obtain ⟨gs,os,rfl,hgs,hcs⟩ := HI.out hne
      have dl := cell_below' (cell_below' (hcs k hlt) HGA.out.2) gq
      have hka : k < (Sc.answers Sc.y0 l).length := by rw [HAn.out];exact hlt
      have hu := HU.out
      obtain ⟨p7,c7,e7,hin7⟩ := hu
      simp only [Value.slice.injEq] at e7
      obtain ⟨rfl,-,rfl⟩ := e7
      obtain ⟨go,oo,rfl,hgo,hco⟩ := hin7 (by intro e;rw [e] at hka;simp at hka)
      have da := cell_below' (hco k hka) gq
      have hx100 := HSm.out _ (List.getElem_mem hlt)
      have HWd := hid1 (wordOf_calls l[k] (by omega) wr)
      obtain ⟨r,hIx,hr⟩ := index_det (W := wr) _ Sc.names (Lib.cut l[k] [32]).1 (HW.out.below gq).irow (by decide)
      have HIx := hid1 hIx
      have HA : Hid ((r = -1 → (Sc.answers Sc.y0 l)[k] = Sc.errT 1) ∧ (6 < r → (Lib.cut l[k] [32]).1 ≠ l[k] → (Sc.answers Sc.y0 l)[k] = Sc.errT 1)) := hid1 (by
       rw [Sc.answers_get l Sc.y0 k hlt hka]
       refine ⟨fun h => ?_,fun h hn => ?_⟩
       ·rcases hr with ⟨-,h1⟩ | ⟨j,h1,-⟩
        ·exact Sc.ans_none h1
        ·omega
       ·rcases hr with ⟨h1,-⟩ | ⟨j,rfl,hj,h1⟩
        ·omega
        ·exact Sc.ans_tail hj (by omega) h1 hn)
      have hr' : r = -1 ∨ (0 ≤ r ∧ r ≤ 6) ∨ 6 < r := by
       rcases hr with ⟨h1,-⟩ | ⟨j,h1,-⟩ <;> omega
      have HE := hid1 fun (V : World) => errorText1_calls V
      clear hcs hin7 hco hr hIx HI HU HW HAn HSm
      generalize (Sc.answers Sc.y0 l)[k] = a at *
      generalize (Lib.cut l[k] [32]).1 = n at *
      generalize l[k] = x at *
      go_wp2_with fail
      refine HWd.out.mono ?_
      rintro e w5 ⟨rfl,g5⟩
      have dl5 := cell_below' dl g5
      have da5 := cell_below' da g5
      clear HWd dl da
      rcases hr' with rfl | ⟨hr0,hr6⟩ | hr6
      ·have ea := HA.out.1 rfl
       subst ea
       clear HA
       go_wp2
       go_region_held3 (fun w' => w'.cell? ⟨go,oo + k,none⟩ = some (.string (ba (Sc.errT 1)))) (first | go_keep | fail)
        (first
         | (go_at_call 10;refine (HE.out _).mono ?_;rintro e w6 ⟨rfl,g6'⟩;have g6 := below_then (g5.trans (Below.refl _ w5).drew) g6';have da6 := cell_below' (w := w5.drew) da5 g6')
         | (go_at_call 9;refine (HIx.out _ (by exact g5.drew)).mono ?_;rintro e w7 ⟨rfl,rfl⟩)
         | fail)
       go_wp2
       go_quiet (first | (go_at_call 9;refine Calls.quiet_of_same (HIx.out _ ?_);first | exact g6 | exact g6.drew | exact below_draws g6 _) | fail)
       go_wp2
       exact ⟨⟨k + 1,by omega,by go_num,below_then gq (below_draws g6 nq)⟩,by simp [intOf];omega⟩
      ·have q0 : decide (r < 0) = false := by rw [decide_eq_false_iff_not];omega
       have q6 : decide (6 < r) = false := by rw [decide_eq_false_iff_not];omega
       clear HA HE
       go_wp2
       go_quiet (first | (go_at_call 9;refine Calls.quiet_of_same (HIx.out _ ?_);first | exact g5 | exact g5.drew | exact below_draws g5 _) | fail)
       have g6 := below_draws g5 nq
       generalize w5.drewN nq = w6 at *
       go_wp2
       go_quiet (first | (go_at_call 9;refine Calls.quiet_of_same (HIx.out _ ?_);first | exact g6 | exact g6.drew | exact below_draws g6 _) | fail)
       go_wp2
       exact ⟨⟨k + 1,by omega,by go_num,below_then gq (below_draws g6 nq)⟩,by simp [intOf];omega⟩
      ·have hr0 : 0 ≤ r := by omega
       have q0 : decide (r < 0) = false := by rw [decide_eq_false_iff_not];omega
       have q6 : decide (6 < r) = true := by rw [decide_eq_true_iff];omega
       by_cases hn : n = x
       ·subst hn
        clear HA HE
        go_wp2
        go_quiet (first | (go_at_call 9;refine Calls.quiet_of_same (HIx.out _ ?_);first | exact g5 | exact g5.drew | exact below_draws g5 _) | fail)
        have g6 := below_draws g5 nq
        have dl6 : (w5.drewN nq).cell? ⟨gs,os + k,none⟩ = some (.string (ba n)) := dl5
        generalize w5.drewN nq = w6 at *
        go_wp2
        go_quiet (first | (go_at_call 9;refine Calls.quiet_of_same (HIx.out _ ?_);first | exact g6 | exact g6.drew | exact below_draws g6 _) | fail)
        go_wp2
        exact ⟨⟨k + 1,by omega,by go_num,below_then gq (below_draws g6 nq)⟩,by simp [intOf];omega⟩
       ·have ea := HA.out.2 hr6 hn
        subst ea
        have hnx : (n == x) = false := by simpa using hn
        clear HA hn
        go_wp2
        go_quiet (first | (go_at_call 9;refine Calls.quiet_of_same (HIx.out _ ?_);first | exact g5 | exact g5.drew | exact below_draws g5 _) | fail)
        have g6 := below_draws g5 nq
        have dl6 : (w5.drewN nq).cell? ⟨gs,os + k,none⟩ = some (.string (ba x)) := dl5
        have da6 : (w5.drewN nq).cell? ⟨go,oo + k,none⟩ = some (.string (ba (Sc.errT 1))) := da5
        generalize w5.drewN nq = w6 at *
        go_wp2
        go_region_held3 (fun w' => w'.cell? ⟨gs,os + k,none⟩ = some (.string (ba x)) ∧ w'.cell? ⟨go,oo + k,none⟩ = some (.string (ba (Sc.errT 1)))) (first | go_keep | fail)
         (first
          | (go_at_call 10;refine (HE.out _).mono ?_;rintro e w8 ⟨rfl,g8'⟩;have g8 := below_then (g6.trans (Below.refl _ w6).drew) g8';have da8 := cell_below' (w := w6.drew) da6 g8';have dl8 := cell_below' (w := w6.drew) dl6 g8')
          | (go_at_call 9;refine (HIx.out _ (by exact g6.drew)).mono ?_;rintro e w7 ⟨rfl,rfl⟩)
          | fail)
        go_wp2
        exact ⟨⟨k + 1,by omega,by go_num,below_then gq g8⟩,by simp [intOf];omega⟩
     ·have k1 : (l.length : Int) ≤ (k : Int) := by omega
      have HF := hid1 (below_then HGA.out.2 gq)
      clear HI HU HW HAn HSm HGA gq HG3
      go_wp2
      go_ret
      exact ⟨rfl,HF.out⟩
end Go.Proofs.YtdljhggillgpfaaGreatDoor
