import Derived.Test.YtdljhggillgpfaaGreatDoorSR45
set_option maxRecDepth 100000
set_option maxHeartbeats 8000000
namespace Go.Proofs.YtdljhggillgpfaaGreatDoor
open Go.RowKit Go.Shelf Go.Lib
variable {es : Nat → Addr} {At : (Nat → Prop) → World → Value → Nat → Cf.Ens → Prop} {BAt : (Nat → Prop) → World → Value → Value → Bf.Bd → Prop}
structure SrS (At : (Nat → Prop) → World → Value → Nat → Cf.Ens → Prop) (B : Nat) (W : World) (pb yb : Nat) (y : Bf.Yd) (ps : List (List UInt8)) (out : Value) (wr : World) : Prop where
 player : ∃ L sw RS,ScAt At B wr pb yb L (Sc.run y ps) sw RS ∧ ∀ b,out.ownBlock = some b → L.k b = 9 ∧ ¬ RS b
 size : W.heap.size ≤ wr.heap.size
 base : Below B W wr
 own : wr.ownsRow W.heap.size 9 1 out ps.length ((Sc.answers y ps).map sv)
theorem SrS.next (HC : Caches0 es At) {B : Nat} {W : World} {pb yb : Nat} {y : Bf.Yd} {ps : List (List UInt8)} {out : Value} {wr : World} (hBW : B ≤ W.heap.size) (hpb : pb < W.heap.size) {L : YL} {RS : Nat → Prop} (hfar : ∀ b,out.ownBlock = some b → L.k b = 9 ∧ ¬ RS b) (hsz : W.heap.size ≤ wr.heap.size) (hbase : Below B W wr) (hown0 : wr.ownsRow W.heap.size 9 1 out ps.length ((Sc.answers y ps).map sv)) {x : List UInt8} {w2 : World} (hg : Goes At B wr pb yb L RS (Sc.step (Sc.run y ps) x) w2) {a : List UInt8} (ea : a = Sc.ans (Sc.run y ps) x) {w3 : World} {g cap : Nat}
  (hown : w3.ownsRow W.heap.size 9 1 (.slice (some ⟨g,0,none⟩) (ps.length + 1) cap) (ps.length + 1) ((Sc.answers y ps).map sv ++ [sv a])) (hgrow : (w2.alloc (.cells #[sv a] 9)).grownBy w3 out.ownBlock) (hlies : out.ownBlock = some g ∨ g = (w2.alloc (.cells #[sv a] 9)).heap.size) :
  SrS At B W pb yb y (ps ++ [x]) (.slice (some ⟨g,0,none⟩) (ps.length + 1) cap) w3 := by
 obtain ⟨hb,L2,sw2,RS2,h2,hs,hsub⟩ := hg
 have e1 : (w2.alloc (.cells #[sv a] 9)).heap.size = w2.heap.size + 1 := by simp
 have hlt : ∀ b,out.ownBlock = some b → b < wr.heap.size ∧ W.heap.size ≤ b := fun b hb => by
  refine ⟨?_,row_low4 hown0 b hb⟩
  rcases hown0.2 with ⟨e,_⟩ | ⟨g,c,cu,e,_,hbb,_⟩
  ·rw [e] at hb;cases hb
  ·rw [e] at hb;cases hb
   exact (Array.getElem?_eq_some_iff.1 hbb).1
 have hz2 := hs.size
 have hz3 : w2.heap.size ≤ w3.heap.size := by have := hgrow.size;omega
 have hk2 : ∀ b,out.ownBlock = some b → L2.k b = 9 := fun b hb => (hs.kk b (hlt b hb).1).trans (hfar b hb).1
 have hk9 : ∀ b,out.ownBlock = some b → L2.more w2.heap.size 9 b = 9 := fun b hb => by
  have h1 := (hlt b hb).1
  rw [L2.more_old (by omega)]
  exact hk2 b hb
 have hnR : ∀ b,out.ownBlock = some b → ¬ RS2 b := fun b hb hR => (hfar b hb).2 (hsub b hR (hlt b hb).1)
 have hsame : ∀ j,j < w2.heap.size → out.ownBlock ≠ some j → w3.heap[j]? = w2.heap[j]? := fun j hj hn => by
  have h1 : (w2.alloc (.cells #[sv a] 9)).heap[j]? = w2.heap[j]? := ((Below.refl _ w2).alloc (o := .cells #[sv a] 9) (Nat.le_refl _)).block j hj
  exact (hgrow.block j (by omega) fun e => hn e.symm).trans h1
 have hK : Kept (fun j => L2.more w2.heap.size 9 j = 9) w2 w3 := ⟨hz3,fun j hj hn => hsame j hj fun e => hn (hk9 j e)⟩
 have hpb2 : pb < w2.heap.size := h2.lt
 refine ⟨⟨{ L2 with k := L2.more w2.heap.size 9 },sw2,RS2,?_,fun b hb' => ?_⟩,by omega,?_,?_⟩
 ·rw [Sc.run_snoc]
  refine ⟨(h2.yard.retag HC 9).aside HC hK,h2.ok,(hsame pb hpb2 fun e => by have := (hlt pb e).2;omega).trans h2.row,h2.low,fun V hz hV => h2.rows V (by omega) fun j hj => (hV j hj).trans (hsame j (h2.rlt j hj) fun e => hnR j e hj),fun j hj => by have := h2.rlt j hj;omega,(L2.more_old hpb2).trans h2.kp,fun j hj => (L2.more_old (h2.rlt j hj)).trans (h2.kr j hj),fun j hj => L2.more_new (by omega),h2.np⟩
 ·have hb'' : g = b := Option.some.inj hb'
  subst hb''
  rcases hlies with h1 | h1
  ·exact ⟨hk9 g h1,hnR g h1⟩
  ·exact ⟨L2.more_new (by omega),fun hR => by have := h2.rlt g hR;omega⟩
 ·refine ((hbase.trans hb).alloc (by omega) _).grown hgrow (by rw [e1];omega) fun k hk => ?_
  have := (hlt k hk).2
  omega
 ·rw [Sc.answers_snoc,← ea,List.map_append,List.length_append]
  exact hown
theorem ownsRow_lower {w : World} {B B' : Nat} {e : TypeId} {s n : Nat} {v : Value} {xs : List Value} (h : w.ownsRow B e s v n xs) (hb : B' ≤ B) : w.ownsRow B' e s v n xs := by
 refine ⟨h.1,?_⟩
 rcases h.2 with h2 | ⟨g,c,cu,e1,hbg,h3⟩
 ·exact .inl h2
 ·exact .inr ⟨g,c,cu,e1,Nat.le_trans hb hbg,h3⟩
theorem scRun_calls (HC : Caches0 es At) (HB : Builds es Af.actO At BAt) {W : World} {m : Int} (hB : ScB W.heap.size W es m) (v : Value) (l : List (List UInt8)) (hv : IRow W v l) (hl : l.length ≤ 100) (hf : ∀ x ∈ l,Sc.Fit x) :
  Calls Tryz.prog 6 #[v] W fun e w' => ∃ u,e = .returned (.tuple #[u,.nilIface]) ∧ w'.ownsRow W.heap.size 9 1 u l.length ((Sc.answers Sc.y0 l).map sv) ∧ Below W.heap.size W w' := by
 obtain ⟨i0,hi,hz0,hz1,hz2⟩ := info_parts Tryz.infoStr
 have HN := hid1 (newPlayer_calls HC W)
 have HBs := hid1 hB
 have HCs := hid1 HC
 have HBu := hid1 HB
 have HFt := hid1 hf
 obtain ⟨pv,cv,rfl,hin⟩ := hv
 have HI := hid1 hin
 have zl : (l.length : Int) ≤ 100 := by omega
 clear hB HC HB hf hin
 go_enter Tryz.func6,Tryz.ntmps6
 go_wp2_with fail
 refine HN.out.mono ?_
 rintro e w1 ⟨pb,yb,L1,rfl,g1,h1⟩
 have HS0 : Hid (SrS At W.heap.size w1 pb yb Sc.y0 [] (.slice none 0 0) w1) := hid1 ⟨⟨L1,_,_,h1,fun b hb => (by cases hb)⟩,Nat.le_refl _,Below.refl _ _,World.ownsRow_nil _ _ _ _⟩
 have hpb := h1.lt
 have HG1 := hid1 g1
 have zz1 := g1.size
 clear HN h1 g1
 go_wp2
 go_loopw [5,15] (fun out iv wr => ∃ k : Nat,k ≤ l.length ∧ iv = .int .i64 k ∧ SrS At W.heap.size w1 pb yb Sc.y0 (l.take k) out wr) (fun _ iv _ => l.length - (intOf iv).toNat)
 case atStart => exact ⟨0,Nat.zero_le _,rfl,HS0.out⟩
 case round =>
  clear HS0
  obtain ⟨k,hk,rfl,hS⟩ := hrel
  have k0 : (0 : Int) ≤ (k : Int) := by omega
  by_cases hlt : k < l.length
  ·have k1 : (k : Int) < (l.length : Int) := by omega
   have hne : l ≠ [] := by intro e;rw [e] at hlt;simp at hlt
   obtain ⟨gs,os,rfl,hgs,hcs⟩ := HI.out hne
   have gb : Below W.heap.size W wr := HG1.out.trans hS.base
   have dk := cell_below' (hcs k hlt) gb
   have HTk : Hid (l.take (k + 1) = l.take k ++ [l[k]]) := hid1 (List.take_succ_eq_append_getElem hlt)
   have hx := HFt.out _ (List.getElem_mem hlt)
   have hkl : (l.take k).length = k := by simp;omega
   clear hcs HI hne
   generalize l[k] = x at *
   obtain ⟨⟨L,sw,RS,hAt,hfar⟩,hsz,hbase,hown⟩ := hS
   have HA := hid1 (answer_calls HCs.out HBu.out hAt (HBs.out.trans gb) x hx)
   have HSt := hid1 (And.intro hAt (And.intro hfar (And.intro hsz (And.intro hbase hown))))
   have hml : (l.take k).length + 1 ≤ maxLen := by unfold maxLen;omega
   clear hx hAt hfar hbase hown HFt gb
   go_wp2_with fail
   refine HA.out.mono ?_
   rintro e w2 ⟨rfl,hgo⟩
   have hown2 : w2.ownsRow w1.heap.size 9 1 u5 (l.take k).length ((Sc.answers Sc.y0 (l.take k)).map sv) := by
    obtain ⟨hAt,hfar,hsz,hbase,hown⟩ := HSt.out
    obtain ⟨-,L2,sw2,RS2,-,hs,-⟩ := hgo
    exact owns_same hown fun b hb hlt => hs.rest b hlt (hfar b hb).1 fun e => by have := row_low4 hown b hb;omega
   have hzw : w1.heap.size ≤ w2.heap.size := by
    obtain ⟨-,L2,sw2,RS2,-,hs,-⟩ := hgo
    have := hs.size
    omega
   have HE := hid1 hgo
   clear HA hgo
   generalize hga : Sc.ans (Sc.run Sc.y0 (l.take k)) x = a at *
   have HGa := hid1 hga
   have hkn : ((l.take k).length + 1) * 16 ≤ 140737488355328 := by omega
   clear hga
   go_wp2_with (at_builtin;refine wpList_append_lies _ rfl _ _ 22 rfl w1.heap.size 9 i0 (.string ⟨#[]⟩) 1 16 Tryz.underlying22 hi hz0 hz1 hz2 rfl (by decide) u5 (l.take k).length ((Sc.answers Sc.y0 (l.take k)).map sv) rfl (hown2.alloc _) ⟨w2.heap.size,0,none⟩ 1 1 [sv a] rfl rfl (cell_one_new _ _ _) (by simp [Value.oneCell']) (by decide) hml hkn (by simp;omega) _ rfl ?_;intro g5 cap5 w5 hown5 hgrow5 hlies5 hlt5)
   go_wp2
   have h3 : SrS At W.heap.size w1 pb yb Sc.y0 (l.take k ++ [x]) (.slice (some ⟨g5,0,none⟩) ((l.take k).length + 1) cap5) w5 := by
    obtain ⟨-,hfar,hsz,hbase,hown⟩ := HSt.out
    exact SrS.next HCs.out zz1 hpb hfar hsz hbase hown HE.out HGa.out.symm hown5 hgrow5 hlies5
   rw [← HTk.out,hkl] at h3
   exact ⟨⟨k + 1,by omega,by go_num,h3⟩,by simp [intOf];omega⟩
  ·have k1 : (l.length : Int) ≤ (k : Int) := by omega
   obtain rfl : k = l.length := by omega
   rw [List.take_length] at hS
   have HS := hid1 hS
   obtain ⟨pu,cu,rfl⟩ := own_slice hS.own
   clear HI hS HFt
   go_wp2
   go_ret2
   exact ⟨_,rfl,ownsRow_lower HS.out.own zz1,HG1.out.trans HS.out.base⟩
theorem scRun_many {W : World} {m : Int} (hB : ScB W.heap.size W es m) (v : Value) (l : List (List UInt8)) (hv : IRow W v l) (hl : 100 < l.length) :
  Calls Tryz.prog 6 #[v] W fun e w' => e = .returned (.tuple #[.slice none 0 0,erOf es 2]) ∧ Below W.heap.size W w' := by
 obtain ⟨pv,cv,rfl,hin⟩ := hv
 have zl : (100 : Int) < (l.length : Int) := by omega
 have hx : W.cell? ⟨0,0,none⟩ = some (erOf es 2) := hB.e12.c1
 have g1 := (Below.refl W.heap.size W).drew
 simp only [erOf] at hx ⊢
 clear hB hin hl
 go_enter Tryz.func6,Tryz.ntmps6
 go_wp2
 go_region
 go_wp2
 go_ret2
 exact ⟨rfl,g1⟩
end Go.Proofs.YtdljhggillgpfaaGreatDoor
namespace Go.Proofs.YtdljhggillgpfaaGreatDoor
open Go.RowKit Go.Shelf Go.Lib
theorem SameTexts_any {w : World} (a b : Value) (la lb : List (List UInt8)) (ha : IRow w a la) (hb : IRow w b lb) (hl : la.length ≤ 1000) (hl2 : lb.length ≤ 1000) :
  Calls Tryz.prog 13 #[a,b] w fun e w' => e = .returned (.bool (decide (la = lb))) ∧ ∃ q,w' = w.drewN q := by
 obtain ⟨pa,ca,rfl,ha⟩ := ha
 obtain ⟨pb,cb,rfl,hb⟩ := hb
 have HA := hid1 ha
 have HB := hid1 hb
 clear ha hb
 have zl2 : (lb.length : Int) ≤ 1000 := by omega
 by_cases hlen : la.length = lb.length
 ·have HEq : Hid (∀ k,la.length ≤ k → la.take k = lb.take k → decide (la = lb) = true) := hid1 fun k hk h => by
   rw [List.take_of_length_le hk,List.take_of_length_le (by omega)] at h
   simpa using h
  have HNe : Hid (∀ k (h1 : k < la.length) (h2 : k < lb.length),la[k] ≠ lb[k] → decide (la = lb) = false) := hid1 fun k h1 h2 h => by
   rw [decide_eq_false_iff_not]
   rintro rfl
   exact h rfl
  generalize decide (la = lb) = dd at *
  rw [← hlen]
  have HLen := hid1 hlen
  clear hlen
  go_enter Tryz.func13,Tryz.ntmps13
  go_wp2
  go_loopw [5] (fun i wr => ∃ k : Nat,k ≤ la.length ∧ i = .int .i64 k ∧ la.take k = lb.take k ∧ ∃ q,wr = w.drewN q) (fun i _ => la.length - (intOf i).toNat)
  case atStart => exact ⟨0,Nat.zero_le _,rfl,by simp,0,rfl⟩
  case round =>
   obtain ⟨k,hk,rfl,ht,q,rfl⟩ := hrel
   have HT := hid1 ht
   clear ht
   have c0 : (0 : Int) ≤ (k : Int) := by omega
   by_cases hlt : k < la.length
   ·have c1 : (k : Int) < (la.length : Int) := by omega
    have hlt2 : k < lb.length := by rw [← HLen.out];exact hlt
    obtain ⟨ga,oa,rfl,_,h1⟩ := HA.out (by intro e;rw [e] at hlt;simp at hlt)
    obtain ⟨gb,ob,rfl,_,h2⟩ := HB.out (by intro e;rw [e] at hlt2;simp at hlt2)
    have d1 := h1 k hlt
    have d2 := h2 k hlt2
    have HS : Hid (la[k] = lb[k] → la.take (k + 1) = lb.take (k + 1)) := hid1 fun h => by
     rw [List.take_succ_eq_append_getElem hlt,List.take_succ_eq_append_getElem hlt2,HT.out,h]
    have HN := hid1 (HNe.out k hlt hlt2)
    clear h1 h2 HA HB HNe
    generalize la[k] = x at *
    generalize lb[k] = y at *
    by_cases he : x = y
    ·subst he
     have HSS := hid1 (HS.out rfl)
     clear HS HN
     go_wp2
     go_region
     go_wp2
     exact ⟨⟨k + 1,by omega,by go_num,HSS.out,q + 1,rfl⟩,by simp [intOf];omega⟩
    ·have e1 : (x == y) = false := by simpa using he
     have e2 := HN.out he
     subst e2
     clear HS HN
     go_wp2
     go_region
     go_wp2
     go_ret
     exact ⟨rfl,q + 1,rfl⟩
   ·have c1 : (la.length : Int) ≤ (k : Int) := by omega
    have e2 := HEq.out k (by omega) HT.out
    subst e2
    clear HA HB HT HEq HNe
    go_wp2
    go_ret
    exact ⟨rfl,q,rfl⟩
 ·have e1 : decide (la = lb) = false := by
   rw [decide_eq_false_iff_not]
   rintro rfl
   exact hlen rfl
  have e2 : ((la.length : Int) == (lb.length : Int)) = false := by simp;omega
  rw [e1]
  clear HA HB e1
  go_enter Tryz.func13,Tryz.ntmps13
  go_wp2
  go_ret
  exact ⟨rfl,0,rfl⟩
end Go.Proofs.YtdljhggillgpfaaGreatDoor
namespace Go.Proofs.YtdljhggillgpfaaGreatDoor
open Go.RowKit Go.Shelf Go.Lib
variable {es : Nat → Addr} {At : (Nat → Prop) → World → Value → Nat → Cf.Ens → Prop} {BAt : (Nat → Prop) → World → Value → Value → Bf.Bd → Prop}
theorem ScB.top {B : Nat} {W : World} {m : Int} (h : ScB B W es m) : ScB W.heap.size W es m := by
 obtain ⟨w0,rfl,a,b,c,d,e,f,g⟩ := h
 exact ⟨W,rfl,a.below g,b.below g,c.below g,d.below g,kpow_below e g,cell_below' f g,Below.refl _ _⟩
theorem irow_owns {w : World} {B : Nat} {u : Value} {l : List (List UInt8)} {n : Nat} (hn : n = l.length) (h : w.ownsRow B 9 1 u n (l.map sv)) : IRow w u l := by
 subst hn
 exact (HRow.of_owns h).ir
theorem hello_calls (HC : Caches0 es At) (HB : Builds es Af.actO At BAt) {W : World} {m : Int} (hB : ScB W.heap.size W es m) :
  Calls Tryz.prog 5 #[] W fun e w' => e = .returned (.bool true) ∧ Below W.heap.size W w' := by
 have gA : Below W.heap.size W (W.alloc (.cells #[.string ⟨#[112,117,116,32,97,32,120,59,121]⟩,.string ⟨#[114,117,108,101,32,98,32,61,32,117,112,112,101,114,32,97]⟩,.string ⟨#[109,97,107,101]⟩,.string ⟨#[115,104,111,119,32,98]⟩] 9)) := (Below.refl _ W).alloc (Nat.le_refl _) _
 have rA := row_newW W (.cells #[.string ⟨#[112,117,116,32,97,32,120,59,121]⟩,.string ⟨#[114,117,108,101,32,98,32,61,32,117,112,112,101,114,32,97]⟩,.string ⟨#[109,97,107,101]⟩,.string ⟨#[115,104,111,119,32,98]⟩] 9)
 have HR := hid1 (scRun_calls HC HB (hB.trans gA).top (.slice (some ⟨W.heap.size,0,none⟩) 4 4) [Lh.ln1,Lh.ln2,Lh.ln3,Lh.ln4] (xrow_lit (l := [Lh.ln1,Lh.ln2,Lh.ln3,Lh.ln4]) rA).irow (by decide) fun x hx => ⟨by have := Lh.fit x hx;omega,fun _ => Lh.fit x hx⟩)
 rw [Lh.answers] at HR
 have HG := hid1 gA
 clear hB gA rA HC HB
 go_enter Tryz.func5,Tryz.ntmps5
 go_wp2_with fail
 refine HR.out.mono ?_
 rintro e w1 ⟨u,rfl,ho,g1⟩
 have hr := irow_owns (by decide) ho
 obtain ⟨pu,cu,rfl⟩ := own_slice ho
 have G1 := below_then HG.out g1
 have gB : Below w1.heap.size w1 (w1.alloc (.cells #[.string ⟨#[111,107]⟩,.string ⟨#[111,107]⟩,.string ⟨#[49,32,48,32,48,32,48]⟩,.string ⟨#[88,59,89]⟩] 9)) := (Below.refl _ w1).alloc (Nat.le_refl _) _
 have rB := row_newW w1 (.cells #[.string ⟨#[111,107]⟩,.string ⟨#[111,107]⟩,.string ⟨#[49,32,48,32,48,32,48]⟩,.string ⟨#[88,59,89]⟩] 9)
 have HS := hid1 (SameTexts_any (w := w1.alloc (.cells #[.string ⟨#[111,107]⟩,.string ⟨#[111,107]⟩,.string ⟨#[49,32,48,32,48,32,48]⟩,.string ⟨#[88,59,89]⟩] 9)) (.slice pu 4 cu) (.slice (some ⟨w1.heap.size,0,none⟩) 4 4) [Sc.ok,Sc.ok,[49,32,48,32,48,32,48],[88,59,89]] [Sc.ok,Sc.ok,[49,32,48,32,48,32,48],[88,59,89]] (hr.below gB) (xrow_lit (l := [Sc.ok,Sc.ok,[49,32,48,32,48,32,48],[88,59,89]]) rB).irow (by decide) (by decide))
 rw [show decide ([Sc.ok,Sc.ok,[49,32,48,32,48,32,48],[88,59,89]] = [Sc.ok,Sc.ok,[49,32,48,32,48,32,48],[88,59,89]]) = true from decide_eq_true rfl] at HS
 have HG2 := hid1 (below_then G1 gB)
 clear HR HG ho g1 hr G1 gB rB
 go_wp2_with fail
 refine HS.out.mono ?_
 rintro e w2 ⟨rfl,q,rfl⟩
 have HG3 := hid1 (below_draws HG2.out q)
 clear HS HG2
 go_wp2
 go_ret
 exact ⟨rfl,HG3.out⟩
end Go.Proofs.YtdljhggillgpfaaGreatDoor
namespace Go.Proofs.YtdljhggillgpfaaGreatDoor
open Go.RowKit Go.Shelf Go.Lib
theorem wordOf_calls (s : List UInt8) (hs : s.length ≤ 100000) (w : World) :
  Calls Tryz.prog 8 #[.string (ba s)] w fun e w' => e = .returned (.string (ba (Lib.cut s [32]).1)) ∧ Below w.heap.size w w' := by
 have HCt := hid1 (rCut_calls s (by omega) 32 32 rfl w)
 obtain ⟨⟨r,hr⟩,-⟩ := Sc.cut_head s
 have hne : cutB 32 s ≠ [] := by rw [hr];simp
 have HX : Hid (∀ (w' : World) (v : Value),w'.ownsRow w.heap.size 9 1 v (cutB 32 s).length ((cutB 32 s).map sv) → ∃ g c,v = .slice (some ⟨g,0,none⟩) (r.length + 1) c ∧ w'.cell? ⟨g,0,none⟩ = some (.string (ba (Lib.cut s [32]).1))) := hid1 fun w' v ho => by
  have hi := irow_owns rfl ho
  rcases ho.2 with ⟨-,h0⟩ | ⟨g,c,cu,rfl,-,-,-⟩
  ·exact absurd (List.length_eq_zero_iff.1 h0) hne
  ·obtain ⟨p,c',e,hin⟩ := hi
   obtain ⟨g',o',e2,-,hc⟩ := hin hne
   cases e
   cases e2
   have h0 := hc 0 (by rw [hr];simp)
   have e0 : (cutB 32 s)[0]'(by rw [hr];simp) = (Lib.cut s [32]).1 := by simp [hr]
   rw [e0] at h0
   refine ⟨g,c,?_,by simpa using h0⟩
   rw [hr]
   rfl
 clear hr hne
 generalize (Lib.cut s [32]).1 = x at *
 have c0 : (0 : Int) < ((r.length : Int) + 1) := by omega
 go_enter Tryz.func8,Tryz.ntmps8
 go_wp2_with fail
 refine HCt.out.mono ?_
 rintro e w1 ⟨v,rfl,ho,g1⟩
 obtain ⟨g,c,rfl,hc⟩ := HX.out w1 v ho
 clear HX HCt ho
 go_wp2
 go_ret
 exact ⟨rfl,g1⟩
theorem errorText1_calls (w : World) :
  Calls Tryz.prog 10 #[.int .i64 1] w fun e w' => e = .returned (.string (ba (Sc.errT 1))) ∧ Below w.heap.size w w' := by
 have g1 : Below w.heap.size w (w.alloc (.cells #[.string ⟨#[116,101,120,116]⟩,.string ⟨#[98,111,117,110,100]⟩,.string ⟨#[115,104,97,112,101]⟩,.string ⟨#[110,97,109,101]⟩,.string ⟨#[107,105,110,100]⟩,.string ⟨#[110,111,110,101]⟩,.string ⟨#[101,120,105,115,116]⟩,.string ⟨#[102,117,108,108]⟩,.string ⟨#[99,121,99,108,101]⟩,.string ⟨#[108,111,110,103]⟩,.string ⟨#[116,117,114,110]⟩,.string ⟨#[100,111,110,101]⟩] 9)) := (Below.refl _ w).alloc (Nat.le_refl _) _
 go_enter Tryz.func10,Tryz.ntmps10
 go_wp2
 go_ret
 exact ⟨rfl,g1⟩
end Go.Proofs.YtdljhggillgpfaaGreatDoor
namespace Go.Proofs.YtdljhggillgpfaaGreatDoor
open Go.RowKit Go.Shelf Go.Lib
theorem coded3_ptr (c : Int) (x : Addr) (es : Nat → Addr) (cx : Array Value) (tx : TypeId) (w : World) (hE : E12 w es) (hx : w.heap[x.block]? = some (.cells cx tx (0,0))) :
  Calls Tryz.prog 7 #[.iface 357 (.pointer (some x)),.int .i64 c] w fun e w' => e = .returned (.bool (decide (codeOf es x = c))) ∧ Below w.heap.size w w' := by
 have HC : Hid (Calls Tryz.prog 16 #[.iface 357 (.pointer (some x))] w fun e w' => e = .returned (.tuple #[.int .i64 (codeOf es x),.int .i64 (-1)]) ∧ Below w.heap.size w w') := Code_ptr x es cx tx w hE hx
 generalize codeOf es x = y at *
 clear hE hx
 by_cases h : y = c
 ·subst h
  have hd : decide (y = y) = true := by simp
  rw [hd]
  go_enter Tryz.func7,Tryz.ntmps7
  go_wp2_with fail
  refine HC.out.mono ?_
  rintro e w' ⟨rfl,hb⟩
  go_wp2
  go_ret
  exact ⟨rfl,hb⟩
 ·have hb : (y == c) = false := by simpa using h
  have hd : decide (y = c) = false := by simpa using h
  rw [hd]
  go_enter Tryz.func7,Tryz.ntmps7
  go_wp2_with fail
  refine HC.out.mono ?_
  rintro e w' ⟨rfl,hb⟩
  go_wp2
  go_ret
  exact ⟨rfl,hb⟩
theorem coded3_es (k : Nat) (hk : k < 12) (es : Nat → Addr) (w : World) (hE : E12 w es) :
  Calls Tryz.prog 7 #[.iface 357 (.pointer (some (es k))),.int .i64 ((k : Int) + 1)] w fun e w' => e = .returned (.bool true) ∧ Below w.heap.size w w' := by
 obtain ⟨c,t,hr⟩ := hE.rows k hk
 have := coded3_ptr ((k : Int) + 1) (es k) es c t w hE hr
 rwa [codeOf_es hE k hk,show decide ((k : Int) + 1 = (k : Int) + 1) = true from decide_eq_true rfl] at this
end Go.Proofs.YtdljhggillgpfaaGreatDoor
