import Derived.Test.YtbgkfmodbofalaaGreatDoorPR07
import Derived.Lib.SlicesCompact
set_option maxRecDepth 100000
set_option maxHeartbeats 16000000
namespace Go.Proofs.YtbgkfmodbofalaaGreatDoor
section
open Go.RowKit Go.Shelf Go.Lib
def nxV : Option Nat -> Value
 | none => .int .i64 (-1)
 | some i => .int .i64 (i : Int)
theorem Zwd (o : List Nat) (i j : Nat) : (if j = i then true else Ru.isIn o j) = Ru.isIn (o ++ [i]) j := by
 unfold Ru.isIn;by_cases e : j = i
 ·simp [e]
 ·simp [e]
theorem Zqu {w : World} {base base' : Nat} {e e' : TypeId} {size size' : Nat} {v : Value} {g m c n n' : Nat} {xs xs' : List Value} (h : w.ownsRow base e size v n xs) (hu : w.ownsRow base' e' size' (.slice (some ⟨g,0,none⟩) m c) n' xs') (he : e ≠ e') : v.ownBlock ≠ some g := by
 rcases h.2 with ⟨rfl,_⟩ | ⟨b,cap,cur,rfl,_,hb,_⟩
 ·simp [Value.ownBlock]
 ·rcases hu.2 with ⟨h',_⟩ | ⟨g',cap',cur',h',_,hb',_⟩
  ·cases h'
  ·cases h'
   simp only [Value.ownBlock,ne_eq,Option.some.injEq];rintro rfl;rw [hb] at hb';simp at hb';exact he hb'.2
theorem len_le : ∀ {n : Nat} {o : List Nat},o.Nodup -> (∀ i ∈ o,i < n) -> o.length <= n
 | 0,o,_,hb => by
  cases o with
  | nil => simp
  | cons a r => exact absurd (hb a (by simp)) (by omega)
 | n + 1,o,hd,hb => by
  have h1 := len_le (n := n) (hd.erase n) (fun i hi => by
   obtain ⟨hne,hm⟩ := (List.Nodup.mem_erase_iff hd).1 hi;have := hb i hm;omega)
  by_cases hm : n ∈ o
  ·rw [List.length_erase_of_mem hm] at h1;omega
  ·rw [List.erase_of_not_mem hm] at h1;omega
theorem Zlv {w : World} (v : Value) (l : List Ru) (hrow : RRow w v l) (hn : l.length <= 1000) (hl : ∀ x ∈ l,x.ins.length <= 1000000) (gs cs : Nat) (sm : Nat -> Bool) (hs : ∀ j,j < l.length -> w.cell? ⟨gs,j,none⟩ = some (.bool (sm j))) :
  Calls Tryz.prog 49 #[v,.slice (some ⟨gs,0,none⟩) l.length cs] w fun e w' => ∃ u b,e = .returned (.tuple #[u,.bool b]) /\ Below w.heap.size w w' /\ ((b = false /\ u = .slice none 0 0 /\ Ru.order l sm = none) \/ ∃ o,b = true /\ Ru.order l sm = some o /\ NRow w' u o /\ o.Nodup /\ ∀ i ∈ o,i < l.length) := by
 obtain ⟨i0,hi,hz0,hz1,hz2⟩ := info_parts Tryz.infoBool;obtain ⟨i1,hI,hI0,hI1,hI2⟩ := info_parts Tryz.infoInt;have HNeed := hid1 fun W (hW : Below w.heap.size w W) i k (hi : i < l.length) (hk : k < l.length) => Zbf v l (hrow.below hW) hl i k hi hk
 have HSm := hid1 fun W (hW : Below w.heap.size w W) j (hj : j < l.length) => Zaa (hs j hj) hW
 obtain ⟨p,cap,rfl,-⟩ := hrow;have hml : l.length <= maxLen := by unfold maxLen;omega
 have hby : i0.bytes * l.length <= 281474976710656 := by rw [hz2];omega
 have zn : (l.length : Int) <= 1000 := by omega
 have n1 : World.ownsRow w w.heap.size 3 1 (.slice none 0 0) 0 (([] : List Nat).map nv) := World.ownsRow_nil _ _ _ _;clear hs;go_enter Tryz.func49,Tryz.ntmps49
 go_wp2_with (at_make;refine wpList_make_full _ rfl _ _ 80 rfl w.heap.size 4 i0 (.bool false) 1 Tryz.underlying80 hi hz0 hz1 .i64 .i64 _ _ l.length rfl rfl (by omega) (by omega) hby hml (Nat.le_refl _) ?_;intro w1 hown hgrow;have O1 := Zqz hown)
 have B1 : Below w.heap.size w w1 := Zhz (Below.refl _ w) (Nat.le_refl _) hgrow;have N1 : World.ownsRow w1 w.heap.size 3 1 (.slice none 0 0) 0 (([] : List Nat).map nv) := World.ownsRow_nil _ _ _ _;have O2 : Own w1 w.heap.size w.heap.size l.length (Ru.isIn []) := by
  have e : Ru.isIn [] = fun _ => false := by funext j;simp [Ru.isIn]
  rw [e];exact O1
 clear hown hgrow O1 n1;go_loopw [6] (fun out wr => ∃ o : List Nat,wr.ownsRow w.heap.size 3 1 out o.length (o.map nv) /\ Own wr w.heap.size w.heap.size l.length (Ru.isIn o) /\ o.Nodup /\ (∀ i ∈ o,i < l.length) /\ Ru.orderF l sm (l.length + 1 - o.length) o = Ru.order l sm /\ Below w.heap.size w wr) (fun out _ => l.length + 1 - slen out)
 case atStart => exact ⟨[],N1,O2,List.nodup_nil,by simp,rfl,B1⟩
 case round =>
  obtain ⟨o,hout,O,hnd,hlt,hord,B⟩ := hrel;have HOut := hid1 hout;have HO := hid1 O;have Hnd := hid1 hnd;have Hlt := hid1 hlt;have Hord := hid1 hord;clear N1 O2 B1 hout O hnd hlt hord;have hlen := len_le Hnd.out Hlt.out;generalize wr = w2 at *;have HCd : Hid (∀ W q,W = w2.drewN q -> ∀ j,j < l.length -> W.cell? ⟨w.heap.size,j,none⟩ = some (.bool (Ru.isIn o j))) := hid1 fun W q e j hj => by
   subst e;exact HO.out.cell hj
  go_wp2;go_loopw [8,9,10] (fun nx lf i wx => ∃ k q : Nat,k <= l.length /\ i = .int .i64 k /\ lf = .bool (Ru.leftTo sm (Ru.isIn o) k) /\ nx = nxV (Ru.nextTo l sm (Ru.isIn o) k) /\ wx = w2.drewN q) (fun _ _ i _ => l.length - (intOf i).toNat)
  case atStart => exact ⟨0,0,Nat.zero_le _,rfl,rfl,rfl,rfl⟩
  case round =>
   obtain ⟨k,q,hk,rfl,rfl,rfl,rfl⟩ := hrel;have c0 : (0 : Int) <= (k : Int) := by omega
   by_cases hkl : k < l.length
   ·have c1 : (k : Int) < (l.length : Int) := by omega
    have hdk := HCd.out _ q rfl k hkl;have hsk := HSm.out (w2.drewN q) (Zad B q) k hkl;have HL := hid1 (Ru.leftTo_succ sm (Ru.isIn o) k);have HN := hid1 (Ru.nextTo_succ l sm (Ru.isIn o) k);have HM : Hid (Ru.may l sm (Ru.isIn o) k = (sm k && !Ru.isIn o k && Ru.freeTo l (Ru.isIn o) k l.length)) := hid1 rfl;cases hd : Ru.isIn o k with
    | true =>
     rw [hd] at hdk HL HM;have HL2 : Hid (Ru.leftTo sm (Ru.isIn o) (k + 1) = Ru.leftTo sm (Ru.isIn o) k) := hid1 (by rw [HL.out];simp)
     have HN2 : Hid (Ru.nextTo l sm (Ru.isIn o) (k + 1) = Ru.nextTo l sm (Ru.isIn o) k) := hid1 (by rw [HN.out,HM.out];simp)
     clear HL HN HM hd hsk;go_wp2;exact ⟨⟨k + 1,q,by omega,by go_num,by rw [HL2.out],by rw [HN2.out],rfl⟩,by simp [intOf];omega⟩
    | false =>
     rw [hd] at hdk HL HM;cases hsm : sm k with
     | false =>
      rw [hsm] at hsk HL HM;have HL2 : Hid (Ru.leftTo sm (Ru.isIn o) (k + 1) = Ru.leftTo sm (Ru.isIn o) k) := hid1 (by rw [HL.out];simp)
      have HN2 : Hid (Ru.nextTo l sm (Ru.isIn o) (k + 1) = Ru.nextTo l sm (Ru.isIn o) k) := hid1 (by rw [HN.out,HM.out];simp)
      clear HL HN HM hd hsm;go_wp2;exact ⟨⟨k + 1,q,by omega,by go_num,by rw [HL2.out],by rw [HN2.out],rfl⟩,by simp [intOf];omega⟩
     | true =>
      rw [hsm] at hsk HL HM;have HL2 : Hid (Ru.leftTo sm (Ru.isIn o) (k + 1) = true) := hid1 (by rw [HL.out];simp)
      clear HL hd hsm;generalize hnx : Ru.nextTo l sm (Ru.isIn o) k = nx at *;clear hnx;go_wp2;go_loopw [11,12] (fun fr kk wy => ∃ m q' : Nat,m <= l.length /\ kk = .int .i64 m /\ fr = .bool (Ru.freeTo l (Ru.isIn o) k m) /\ wy = w2.drewN q') (fun _ kk _ => l.length - (intOf kk).toNat)
      case atStart => exact ⟨0,q,Nat.zero_le _,rfl,rfl,rfl⟩
      case round =>
       clear hdk hsk;obtain ⟨m,q',hm,rfl,rfl,rfl⟩ := hrel;have m0 : (0 : Int) <= (m : Int) := by omega
       by_cases hml2 : m < l.length
       ·have m1 : (m : Int) < (l.length : Int) := by omega
        have hdm := HCd.out _ q' rfl m hml2;have HF := hid1 (Ru.freeTo_succ l (Ru.isIn o) k m);cases hdd : Ru.isIn o m with
        | true =>
         rw [hdd] at hdm HF;have HF2 : Hid (Ru.freeTo l (Ru.isIn o) k (m + 1) = Ru.freeTo l (Ru.isIn o) k m) := hid1 (by rw [HF.out];simp)
         clear HF hdd;go_wp2;exact ⟨⟨m + 1,q',by omega,by go_num,by rw [HF2.out],rfl⟩,by simp [intOf];omega⟩
        | false =>
         rw [hdd] at hdm HF;have HC := HNeed.out _ (Zad B q') k m hkl hml2;cases hnd : Ru.needs l k m with
         | true =>
          rw [hnd] at HC HF;have HF2 : Hid (Ru.freeTo l (Ru.isIn o) k (m + 1) = false) := hid1 (by rw [HF.out];simp)
          clear HF hdd hnd;go_wp2_with fail;refine Calls.mono HC ?_;rintro e w3 ⟨rfl,q3,rfl⟩;clear HC;go_wp2;exact ⟨⟨m + 1,q' + q3,by omega,by go_num,by rw [HF2.out],by simp [World.drewN]⟩,by simp [intOf];omega⟩
         | false =>
          rw [hnd] at HC HF;have HF2 : Hid (Ru.freeTo l (Ru.isIn o) k (m + 1) = Ru.freeTo l (Ru.isIn o) k m) := hid1 (by rw [HF.out];simp)
          clear HF hdd hnd;go_wp2_with fail;refine Calls.mono HC ?_;rintro e w3 ⟨rfl,q3,rfl⟩;clear HC;go_wp2;exact ⟨⟨m + 1,q' + q3,by omega,by go_num,by rw [HF2.out],by simp [World.drewN]⟩,by simp [intOf];omega⟩
       ·have m1 : (l.length : Int) <= (m : Int) := by omega
        obtain rfl : m = l.length := by omega
        simp only [Bool.not_false,Bool.and_true,Bool.true_and] at HM;rw [HM.out] at HN;generalize Ru.freeTo l (Ru.isIn o) k l.length = fr at *;clear HM;cases fr with
        | true =>
         cases nx with
         | none =>
          have HN2 : Hid (Ru.nextTo l sm (Ru.isIn o) (k + 1) = some k) := hid1 (by rw [HN.out];rfl)
          clear HN;simp only [nxV];go_wp2;exact ⟨⟨k + 1,q',by omega,by go_num,by rw [HL2.out],by rw [HN2.out];rfl,rfl⟩,by simp [intOf];omega⟩
         | some j =>
          have HN2 : Hid (Ru.nextTo l sm (Ru.isIn o) (k + 1) = some j) := hid1 (by rw [HN.out];rfl)
          have j0 : (0 : Int) <= (j : Int) := by omega
          clear HN;simp only [nxV];go_wp2;exact ⟨⟨k + 1,q',by omega,by go_num,by rw [HL2.out],by rw [HN2.out];rfl,rfl⟩,by simp [intOf];omega⟩
        | false =>
         have HN2 : Hid (Ru.nextTo l sm (Ru.isIn o) (k + 1) = nx) := hid1 (by rw [HN.out];cases nx <;> rfl)
         clear HN;go_wp2;exact ⟨⟨k + 1,q',by omega,by go_num,by rw [HL2.out],by rw [HN2.out],rfl⟩,by simp [intOf];omega⟩
   ·have c1 : (l.length : Int) <= (k : Int) := by omega
    obtain rfl : k = l.length := by omega
    have HStep : Hid (Ru.orderF l sm (l.length + 1 - o.length) o = if Ru.leftTo sm (Ru.isIn o) l.length = true then (match Ru.nextTo l sm (Ru.isIn o) l.length with | none => none | some i => Ru.orderF l sm (l.length - o.length) (o ++ [i])) else some o) := hid1 (by
     rw [show l.length + 1 - o.length = (l.length - o.length) + 1 by omega]
     rfl)
    have HNx := hid1 fun i => Ru.nextTo_some (l := l) (some := sm) (done := Ru.isIn o) (m := l.length) (i := i)
    cases hlf : Ru.leftTo sm (Ru.isIn o) l.length with
    | false =>
     have HR : Hid (Ru.order l sm = some o) := hid1 (by rw [<- Hord.out,HStep.out,hlf];rfl)
     have hN : NRow (w2.drewN q) u6 o := NRow.of_owns (w := w2.drewN q) HOut.out;clear HStep HNx hlf;go_wp2;go_ret2;exact ⟨_,true,rfl,Zad B q,.inr ⟨o,rfl,HR.out,hN,Hnd.out,Hlt.out⟩⟩
    | true =>
     cases hnx : Ru.nextTo l sm (Ru.isIn o) l.length with
     | none =>
      have HR : Hid (Ru.order l sm = none) := hid1 (by rw [<- Hord.out,HStep.out,hlf,hnx];rfl)
      clear HStep HNx hlf hnx;simp only [nxV];go_wp2;go_ret2;exact ⟨_,false,rfl,Zad B q,.inl ⟨rfl,rfl,HR.out⟩⟩
     | some j =>
      obtain ⟨hjl,hjm⟩ := HNx.out j hnx;have HR : Hid (Ru.orderF l sm (l.length - o.length) (o ++ [j]) = Ru.order l sm) := hid1 (by rw [<- Hord.out,HStep.out,hlf,hnx];rfl)
      have hjo : j ∉ o := by
       intro hm
       simp [Ru.may,Ru.isIn,hm] at hjm
      have hnd' : (o ++ [j]).Nodup := by
       rw [List.nodup_append];exact ⟨Hnd.out,by simp,fun a ha b hb => by
        rw [List.mem_singleton.1 hb];rintro rfl;exact hjo ha⟩
      have hlt' : ∀ i ∈ o ++ [j],i < l.length := fun i hi => by
       rcases List.mem_append.1 hi with h | h
       ·exact Hlt.out i h
       ·rw [List.mem_singleton.1 h];exact hjl
      have Hnd2 := hid1 hnd';have Hlt2 := hid1 hlt';have hlen2 := len_le hnd' hlt';rw [List.length_append,List.length_singleton] at hlen2;have O3 : Own (w2.drewN q) w.heap.size w.heap.size l.length (Ru.isIn o) := HO.out;have R3 : (w2.drewN q).ownsRow w.heap.size 3 1 u6 o.length (o.map nv) := HOut.out;have hcj := O3.cell hjl;have hfj := World.ownsRow.frozenAt O3 j
      have O4 : Own ((w2.drewN q).setCell ⟨w.heap.size,j,none⟩ (.bool true)) w.heap.size w.heap.size l.length (Ru.isIn (o ++ [j])) := O3.set j true fun i _ => Zwd o j i
      have R4 : ((w2.drewN q).setCell ⟨w.heap.size,j,none⟩ (.bool true)).ownsRow w.heap.size 3 1 u6 o.length (o.map nv) := ownsRow_setCell_other R3 (by
       have := Zqu R3 O3 (by decide)
       simpa using this) (.bool true)
      have B4 := (Zad B q).setCell (p := ⟨w.heap.size,j,none⟩) (Nat.le_refl _) (.bool true);have hs4 := Zes R4;have hml3 : o.length + 1 <= maxLen := by unfold maxLen;omega
      have hbz : w.heap.size <= ((w2.drewN q).setCell ⟨w.heap.size,j,none⟩ (.bool true)).heap.size := B4.size;have hbz2 : w.heap.size <= w2.heap.size := B.size;have j0 : (0 : Int) <= (j : Int) := by omega
      have j1 : (j : Int) < (l.length : Int) := by omega
      clear HStep HNx hlf hnx O3 R3 hnd' hlt' hjo hjm;simp only [nxV];go_wp2_with (at_builtin;refine wpList_append_own _ rfl _ _ 68 rfl w.heap.size 3 i1 (.int .i64 0) 1 8 Tryz.underlying68 hI hI0 hI1 hI2 rfl (by decide) _ _ _ rfl (R4.alloc _) ⟨w2.heap.size,0,none⟩ 1 1 [nv j] rfl rfl (Zcz _ _ _ _ (by simp)) (by simp [Value.oneCell']) hml3 (by omega) (by simp;omega) ?_;intro v' w4 hown' hgrow _)
      have hs5 := Zes hown';refine ⟨⟨o ++ [j],by simpa using hown',?_,Hnd2.out,Hlt2.out,?_,Zak B4 hbz R4 hgrow⟩,by rw [hs5,hs4];omega⟩
      ·exact Zcc (World.ownsRow.alloc O4 _) (R4.alloc _) (by decide) hgrow
      ·rw [List.length_append,List.length_singleton,show l.length + 1 - (o.length + 1) = l.length - o.length by omega]
       exact HR.out
namespace Ru
inductive Walk (l : List Ru) : Nat -> Nat -> Nat -> Prop
 | zero (i : Nat) : Walk l i i 0
 | step {i j k t : Nat} : needs l i j = true -> Walk l j k t -> Walk l i k (t + 1)
def Topo (l : List Ru) (o : List Nat) : Prop := ∀ j (hj : j < o.length) k,needs l o[j] k = true -> k ∈ o.take j
theorem Zha {l : List Ru} {some : Nat -> Bool} : ∀ {f : Nat} {o r : List Nat},orderF l some f o = Option.some r -> Topo l o -> Topo l r /\ ∀ i,i < l.length -> some i = true -> i ∈ r
 | 0,_,_,h,_ => by cases h
 | f + 1,o,r,h,ht => by
  unfold orderF at h;split at h
  ·split at h
   ·cases h
   ·rename_i i hi
    refine Zha h ?_;have hm := (nextTo_some hi).2;simp only [may,Bool.and_eq_true,freeTo,List.all_eq_true,Bool.or_eq_true,Bool.not_eq_true'] at hm;intro j hj k hn
    rw [List.length_append,List.length_singleton] at hj;by_cases e : j < o.length
    ·rw [List.getElem_append_left e] at hn;rw [List.take_append_of_le_length (by omega)]
     exact ht j e k hn
    ·obtain rfl : j = o.length := by omega
     rw [List.getElem_append_right (Nat.le_refl _)] at hn;simp only [Nat.sub_self,List.getElem_cons_zero] at hn;rw [List.take_append_of_le_length (Nat.le_refl _),List.take_length];rcases hm.2 k (List.mem_range.2 (needs_lt hn).2) with h1 | h1
     ·simpa [isIn] using h1
     ·rw [hn] at h1;cases h1
  ·rename_i hl
   cases h
   refine ⟨ht,fun i hi hs => ?_⟩
   simp only [leftTo,List.any_eq_true,Bool.and_eq_true,Bool.not_eq_true'] at hl;refine Classical.byContradiction fun hno => hl ⟨i,List.mem_range.2 hi,hs,?_⟩
   simpa [isIn] using hno
theorem order_some {l : List Ru} {some : Nat -> Bool} {o : List Nat} (h : order l some = Option.some o) : Topo l o /\ ∀ i,i < l.length -> some i = true -> i ∈ o :=
 Zha h fun j hj => by simp at hj
theorem Zfw {l : List Ru} {some : Nat -> Bool} : ∀ {f : Nat} {o r : List Nat},orderF l some f o = Option.some r -> o.Nodup -> (∀ i ∈ o,i < l.length) -> r.Nodup /\ ∀ i ∈ r,i < l.length
 | 0,_,_,h,_,_ => by cases h
 | f + 1,o,r,h,hd,hb => by
  unfold orderF at h;split at h
  ·split at h
   ·cases h
   ·rename_i i hi
    obtain ⟨hil,hm⟩ := nextTo_some hi;have hio : i ∉ o := by
     simp only [may,Bool.and_eq_true,Bool.not_eq_true',isIn,decide_eq_false_iff_not] at hm;exact hm.1.2
    refine Zfw h ?_ ?_
    ·rw [List.nodup_append];exact ⟨hd,by simp,fun a ha b hb => by
      rw [List.mem_singleton.1 hb];rintro rfl;exact hio ha⟩
    ·intro j hj
     rcases List.mem_append.1 hj with h1 | h1
     ·exact hb j h1
     ·rw [List.mem_singleton.1 h1];exact hil
  ·cases h
   exact ⟨hd,hb⟩
theorem order_nodup {l : List Ru} {some : Nat -> Bool} {o : List Nat} (h : order l some = Option.some o) : o.Nodup /\ ∀ i ∈ o,i < l.length :=
 Zfw h List.nodup_nil (by simp)
theorem Zvn {α : Type} [DecidableEq α] {a : List α} : ∀ {b : List α},a.Nodup -> a ⊆ b -> a.length <= b.length := by
 induction a with
 | nil => intro b _ _;simp
 | cons x r ih =>
  intro b hd hs
  obtain ⟨hx,hr⟩ := List.nodup_cons.1 hd;have hxb : x ∈ b := hs (by simp)
  have := ih (b := b.erase x) hr fun y hy => by
   have hne : y ≠ x := fun e => hx (e ▸ hy)
   exact (List.mem_erase_of_ne hne).2 (hs (List.mem_cons_of_mem _ hy))
  rw [List.length_erase_of_mem hxb] at this;have hp := List.length_pos_of_mem hxb;simp
  omega
end Ru
end
section
namespace Bf
theorem rank_of {l : List Ru} {o : List Nat} (h : Ru.Topo l o) {i k : Nat} (hi : i ∈ o) (hn : Ru.needs l i k = true) : k ∈ o /\ o.idxOf k < o.idxOf i := by
 have hj : o.idxOf i < o.length := List.idxOf_lt_length_of_mem hi;have hg : o[o.idxOf i] = i := List.getElem_idxOf hj;have hk := h (o.idxOf i) hj k (by rw [hg];exact hn)
 refine ⟨List.mem_of_mem_take hk,?_⟩;obtain ⟨q,hq,e⟩ := List.getElem_of_mem hk;rw [List.length_take] at hq;rw [List.getElem_take] at e;have : o.idxOf k <= q := by
  refine Nat.le_of_not_lt fun hlt => ?_
  have := List.not_of_lt_findIdx (p := fun y => y == k) (xs := o) hlt
  rw [e] at this;simp at this
 omega
end Bf
end
section
open Go.RowKit Go.Shelf Go.Lib
namespace Af
def lines : List UInt8 -> List (List UInt8)
 | [] => []
 | c :: r => if c = 10 then [] :: lines r else match lines r with
  | [] => [[c]]
  | p :: ps => (c :: p) :: ps
def told (l : List (List UInt8)) : List UInt8 := l.flatMap fun x => x ++ [10]
def all (l : List (List UInt8)) : List (List UInt8) := l.flatMap lines
def srt (l : List (List UInt8)) : List (List UInt8) := l.mergeSort fun x y => decide (x <= y)
theorem Zob (s : List UInt8) : cutB 10 s = (if s = [] then [[]] else if s.getLast? = some 10 then lines s ++ [[]] else lines s) := by
 induction s with
 | nil => rfl
 | cons c r ih =>
  rw [if_neg (List.cons_ne_nil c r)];by_cases hr : r = []
  ·subst hr;by_cases hc : c = 10 <;> simp [hc,cutB,lines]
  ·rw [if_neg hr] at ih;have hg : (c :: r).getLast? = r.getLast? := by
    cases r with
    | nil => exact absurd rfl hr
    | cons x y => exact List.getLast?_cons_cons
   rw [hg];have hl : lines r ≠ [] := by
    cases r with
    | nil => exact absurd rfl hr
    | cons x y =>
     unfold lines;split
     ·simp
     ·split <;> simp
   by_cases hc : c = 10
   ·simp only [cutB,lines,if_pos hc,ih];split <;> simp
   ·simp only [cutB,lines,if_neg hc];by_cases h10 : r.getLast? = some 10
    ·rw [if_pos h10] at ih;simp only [ih,if_pos h10];cases hL : lines r with
     | nil => exact absurd hL hl
     | cons p ps => simp
    ·rw [if_neg h10] at ih;simp only [ih,if_neg h10];cases lines r <;> rfl
theorem Zyb {s : List UInt8} (h : s ≠ []) : lines s ≠ [] := by
 cases s with
 | nil => exact absurd rfl h
 | cons x y =>
  unfold lines;split
  ·simp
  ·split <;> simp
theorem Zjv : ∀ {s : List UInt8},s ≠ [] -> s.getLast? ≠ some 10 -> ∃ o l,lines s = o ++ [l] /\ l ≠ []
 | [],h,_ => absurd rfl h
 | [c],_,h1 => by
  have hc : c ≠ 10 := by simpa using h1
  exact ⟨[],[c],by simp [lines,hc],by simp⟩
 | c :: x :: r,_,h1 => by
  obtain ⟨o,l,e,hl⟩ := Zjv (s := x :: r) (by simp) (by simpa using h1)
  unfold lines;rw [e];by_cases hc : c = 10
  ·exact ⟨[] :: o,l,by simp [hc],hl⟩
  ·cases o with
   | nil => exact ⟨[],c :: l,by simp [hc],by simp⟩
   | cons p ps => exact ⟨(c :: p) :: ps,l,by simp [hc],hl⟩
theorem lines_of_cut (s : List UInt8) : ∃ o l,cutB 10 s = o ++ [l] /\ lines s = (if l = [] then o else o ++ [l]) := by
 by_cases hs : s = []
 ·subst hs;exact ⟨[],[],rfl,rfl⟩
 ·by_cases h1 : s.getLast? = some 10
  ·exact ⟨lines s,[],by rw [Zob,if_neg hs,if_pos h1],by simp⟩
  ·obtain ⟨o,l,e,hl⟩ := Zjv hs h1;exact ⟨o,l,by rw [Zob,if_neg hs,if_neg h1,e],by rw [if_neg hl,e]⟩
theorem Zgm : ∀ (l : List (List UInt8)),(told l).length = (l.map fun x => x.length + 1).sum
 | [] => rfl
 | x :: r => by
  have e : told (x :: r) = x ++ 10 :: told r := by simp [told]
  rw [e,List.length_append,List.length_cons,Zgm r,List.map_cons,List.sum_cons];omega
theorem Zfj : ∀ (s : List UInt8),told (lines s) = s \/ told (lines s) = s ++ [10]
 | [] => .inl rfl
 | c :: r => by
  have ih := Zfj r;unfold lines;by_cases hc : c = 10
  ·rw [if_pos hc];have e : told ([] :: lines r) = 10 :: told (lines r) := by simp [told]
   rw [e,hc];rcases ih with ih | ih <;> rw [ih] <;> simp
  ·rw [if_neg hc];cases hL : lines r with
   | nil =>
    have hr : r = [] := Classical.byContradiction fun h => Zyb h hL
    subst hr;right
    simp [told]
   | cons p ps =>
    rw [hL] at ih;have e : told ((c :: p) :: ps) = c :: told (p :: ps) := by simp [told]
    simp only [e];rcases ih with ih | ih <;> rw [ih] <;> simp
theorem told_lines_len (s : List UInt8) : s.length <= (told (lines s)).length /\ (told (lines s)).length <= s.length + 1 := by
 rcases Zfj s with h | h <;> rw [h] <;> simp
theorem lines_len (s : List UInt8) : (lines s).length <= s.length := by
 induction s with
 | nil => simp [lines]
 | cons c r ih =>
  unfold lines;split
  ·simp;omega
  ·split
   ·simp
   ·next h => rw [h] at ih;simp at ih ⊢;omega
theorem Zjt : ∀ {l : List Nat} {n : Nat},n ∈ l -> n <= l.sum
 | [],_,h => by simp at h
 | x :: r,n,h => by
  rw [List.sum_cons];rcases List.mem_cons.1 h with rfl | h
  ·omega
  ·have := Zjt h;omega
theorem line_len {s x : List UInt8} (h : x ∈ lines s) : x.length <= s.length := by
 have h1 := Zfj s;have h2 : x.length + 1 <= (told (lines s)).length := by
  rw [Zgm];have : x.length + 1 ∈ (lines s).map fun x => x.length + 1 := List.mem_map.2 ⟨x,h,rfl⟩
  exact Zjt this
 have := told_lines_len s;omega
theorem srt_perm (l : List (List UInt8)) : (srt l).Perm l := List.mergeSort_perm _ _
theorem srt_sorted (l : List (List UInt8)) : (srt l).Pairwise (fun x y => x <= y) := by
 have := List.pairwise_mergeSort (le := fun (x y : List UInt8) => decide (x <= y)) (by intro a b c h1 h2;simp at *;exact List.le_trans h1 h2) (by intro a b;simp;exact List.le_total a b) l
 exact this.imp (by intro a b h;simpa using h)
theorem srt_eq {l l' : List (List UInt8)} (h : l.Perm l') : srt l = srt l' := by
 refine List.Perm.eq_of_pairwise (le := fun x y : List UInt8 => x <= y) ?_ (srt_sorted l) (srt_sorted l') ((srt_perm l).trans (h.trans (srt_perm l').symm))
 intro a b _ _ h1 h2
 exact List.le_antisymm h1 h2
theorem srt_of_sorted {l : List (List UInt8)} (h : l.Pairwise (fun x y => x <= y)) : srt l = l := by
 refine List.Perm.eq_of_pairwise (le := fun x y : List UInt8 => x <= y) ?_ (srt_sorted l) h (srt_perm l)
 intro a b _ _ h1 h2
 exact List.le_antisymm h1 h2
theorem srt_len (l : List (List UInt8)) : (srt l).length = l.length := (srt_perm l).length_eq
theorem told_perm {l l' : List (List UInt8)} (h : l.Perm l') : (told l).length = (told l').length := by
 rw [Zgm,Zgm];exact (h.map _).sum_nat
theorem told_append (a b : List (List UInt8)) : told (a ++ b) = told a ++ told b := by simp [told]
theorem told_all_len : ∀ (l : List (List UInt8)),(told (all l)).length <= (l.map fun x => x.length + 1).sum
 | [] => by simp [all,told]
 | x :: r => by
  have h1 := told_all_len r;have h2 := (told_lines_len x).2;have e : all (x :: r) = lines x ++ all r := by simp [all]
  rw [e,told_append];simp
  omega
theorem compact_succ (zs : List (List UInt8)) (m : Nat) : compactUpTo zs.toArray (m + 1) = compactUpTo zs.toArray m ++ (if keeps zs.toArray m then [zs.toArray[m]!] else []) := compactUpTo_succ _ m
theorem compact_told_len (zs : List (List UInt8)) : ∀ m,m <= zs.length -> (told (compactUpTo zs.toArray m)).length <= (told (zs.take m)).length
 | 0,_ => by simp [compactUpTo,told]
 | m + 1,h => by
  have ih := compact_told_len zs m (by omega)
  have hm : m < zs.length := by omega
  rw [compact_succ,told_append,List.take_succ_eq_append_getElem hm,told_append];simp only [List.length_append];split
  ·have e : zs.toArray[m]! = zs[m] := by simp [hm]
   rw [e];omega
  ·simp [told] at ih ⊢;omega
end Af
end
section
open Go.RowKit Go.Shelf Go.Lib
def byteOk (stars : Bool) (c : Nat) : Bool := letter c || (stars && c == 42)
def nameR (stars : Bool) (s : List UInt8) : Bool := !(decide (s = [])) && decide (s.length <= 12) && !(decide (s = [46])) && !(decide (s = [46,46])) && s.all (fun b => byteOk stars b.toNat)
theorem Zor (stars : Bool) (bs : ByteArray) (s : List UInt8) (T : Txt bs s) (hs : s.length <= 12) (h1 : ¬ s = []) (h3 : ¬ s = [46]) (h4 : ¬ s = [46,46]) (w : World) :
  Calls Tryz.prog 162 #[.string bs,.bool stars] w fun e w' => e = .returned (.bool (s.all (fun b => byteOk stars b.toNat))) /\ ∃ q,w' = w.drewN q := by
 have hz := T.size;have hpos : 0 < s.length := List.length_pos_iff.2 h1;have c0 : ¬ (bs.size : Int) < 1 := by omega
 have c1 : (bs.size : Int) <= 12 := by omega
 have e1 : bs.toList = s := by rw [T.eq,Zia]
 have c3 : (bs.toList == [46]) = false := by rw [e1];simpa using h3
 have c4 : (bs.toList == [46,46]) = false := by rw [e1];simpa using h4
 have c0' : (1 : Int) <= (bs.size : Int) := by omega
 clear e1 h1 h3 h4;go_enter Tryz.func162,Tryz.ntmps162
 go_wp2;go_loopw [5] (fun i wr => ∃ k : Nat,k <= s.length /\ i = .int .i64 k /\ (s.take k).all (fun b => byteOk stars b.toNat) = true /\ ∃ q,wr = w.drewN q) (fun i _ => s.length - (intOf i).toNat)
 case atStart => exact ⟨0,by omega,rfl,by simp,0,rfl⟩
 case round =>
  obtain ⟨k,hk,rfl,hall,q,rfl⟩ := hrel;have HA : Hid ((s.take k).all (fun b => byteOk stars b.toNat) = true) := hall
  clear hall;by_cases hlt : k < s.length
  ·have hlt2 : k < bs.size := by omega
   obtain ⟨c,hc⟩ : ∃ c : Nat,bs[k].toNat = c := ⟨_,rfl⟩
   have hsk : s[k].toNat = c := by rw [<- hc,T.get k hlt hlt2]
   have hok : byteOk stars c = true -> (s.take (k + 1)).all (fun b => byteOk stars b.toNat) = true := fun h => by
    rw [List.take_succ_eq_append_getElem hlt,List.all_append,HA.out];simp [hsk,h]
   have hno : byteOk stars c = false -> s.all (fun b => byteOk stars b.toNat) = false := fun h => by
    rw [List.all_eq_false];exact ⟨s[k],List.getElem_mem hlt,by rw [hsk,h];simp⟩
   have HOK : Hid (byteOk stars c = true -> (s.take (k + 1)).all (fun b => byteOk stars b.toNat) = true) := hok
   have HNO : Hid (byteOk stars c = false -> s.all (fun b => byteOk stars b.toNat) = false) := hno
   clear hok hno hsk HA;by_cases hA : 97 <= c /\ c <= 122
   ·have a1 : (97 : Int) <= (c : Int) := by omega
    have a2 : (c : Int) <= 122 := by omega
    have hl : byteOk stars c = true := by simp [byteOk,letter];omega
    have HK : Hid ((s.take (k + 1)).all (fun b => byteOk stars b.toNat) = true) := HOK.out hl
    clear hl HOK HNO hA;go_wp2;exact ⟨⟨k + 1,by omega,by go_num,HK.out,q,rfl⟩,by simp [intOf];omega⟩
   by_cases hB : 48 <= c /\ c <= 57
   ·have a0 : ¬ (97 : Int) <= (c : Int) := by omega
    have a1 : (48 : Int) <= (c : Int) := by omega
    have a2 : (c : Int) <= 57 := by omega
    have hl : byteOk stars c = true := by simp [byteOk,letter];omega
    have HK : Hid ((s.take (k + 1)).all (fun b => byteOk stars b.toNat) = true) := HOK.out hl
    clear hl HOK HNO hA hB;go_wp2;exact ⟨⟨k + 1,by omega,by go_num,HK.out,q,rfl⟩,by simp [intOf];omega⟩
   by_cases h45 : c = 45
   ·subst h45;have HK : Hid ((s.take (k + 1)).all (fun b => byteOk stars b.toNat) = true) := HOK.out (by simp [byteOk,letter])
    clear HOK HNO hA hB;go_wp2;exact ⟨⟨k + 1,by omega,by go_num,HK.out,q,rfl⟩,by simp [intOf];omega⟩
   by_cases h46 : c = 46
   ·subst h46;have HK : Hid ((s.take (k + 1)).all (fun b => byteOk stars b.toNat) = true) := HOK.out (by simp [byteOk,letter])
    clear HOK HNO hA hB;go_wp2;exact ⟨⟨k + 1,by omega,by go_num,HK.out,q,rfl⟩,by simp [intOf];omega⟩
   by_cases h95 : c = 95
   ·subst h95;have HK : Hid ((s.take (k + 1)).all (fun b => byteOk stars b.toNat) = true) := HOK.out (by simp [byteOk,letter])
    clear HOK HNO hA hB;go_wp2;exact ⟨⟨k + 1,by omega,by go_num,HK.out,q,rfl⟩,by simp [intOf];omega⟩
   have b45 : ((c : Int) == 45) = false := by simp;omega
   have b46 : ((c : Int) == 46) = false := by simp;omega
   have b95 : ((c : Int) == 95) = false := by simp;omega
   have hll : letter c = false := by simp [letter];omega
   cases stars with
   | true =>
    by_cases h42 : c = 42
    ·subst h42;have HK : Hid ((s.take (k + 1)).all (fun b => byteOk true b.toNat) = true) := HOK.out (by simp [byteOk])
     clear HOK HNO hA hB b45 b46 b95 hll h45 h46 h95;go_wp2;exact ⟨⟨k + 1,by omega,by go_num,HK.out,q,rfl⟩,by simp [intOf];omega⟩
    ·have b42 : ((c : Int) == 42) = false := by simp;omega
     have HK : Hid (s.all (fun b => byteOk true b.toNat) = false) := HNO.out (by simp [byteOk,hll,h42])
     have hr : (97 <= c /\ 122 < c) \/ (c < 97 /\ 48 <= c /\ 57 < c) \/ c < 48 := by omega
     clear HOK HNO hA hB hll h45 h46 h95 h42;rcases hr with ⟨r1,r2⟩ | ⟨r1,r2,r3⟩ | r1
     ·have d1 : (97 : Int) <= (c : Int) := by omega
      have d2 : decide ((c : Int) <= 122) = false := by simp;omega
      have d3 : (48 : Int) <= (c : Int) := by omega
      have d4 : decide ((c : Int) <= 57) = false := by simp;omega
      go_wp2;go_ret;exact ⟨Zan HK.out.symm,q,rfl⟩
     ·have d1 : decide ((97 : Int) <= (c : Int)) = false := by simp;omega
      have d3 : (48 : Int) <= (c : Int) := by omega
      have d4 : decide ((c : Int) <= 57) = false := by simp;omega
      go_wp2;go_ret;exact ⟨Zan HK.out.symm,q,rfl⟩
     ·have d1 : decide ((97 : Int) <= (c : Int)) = false := by simp;omega
      have d3 : decide ((48 : Int) <= (c : Int)) = false := by simp;omega
      go_wp2;go_ret;exact ⟨Zan HK.out.symm,q,rfl⟩
   | false =>
    have HK : Hid (s.all (fun b => byteOk false b.toNat) = false) := HNO.out (by simp [byteOk,hll])
    have hr : (97 <= c /\ 122 < c) \/ (c < 97 /\ 48 <= c /\ 57 < c) \/ c < 48 := by omega
    clear HOK HNO hA hB hll h45 h46 h95;rcases hr with ⟨r1,r2⟩ | ⟨r1,r2,r3⟩ | r1
    ·have d1 : (97 : Int) <= (c : Int) := by omega
     have d2 : decide ((c : Int) <= 122) = false := by simp;omega
     have d3 : (48 : Int) <= (c : Int) := by omega
     have d4 : decide ((c : Int) <= 57) = false := by simp;omega
     go_wp2;go_ret;exact ⟨Zan HK.out.symm,q,rfl⟩
    ·have d1 : decide ((97 : Int) <= (c : Int)) = false := by simp;omega
     have d3 : (48 : Int) <= (c : Int) := by omega
     have d4 : decide ((c : Int) <= 57) = false := by simp;omega
     go_wp2;go_ret;exact ⟨Zan HK.out.symm,q,rfl⟩
    ·have d1 : decide ((97 : Int) <= (c : Int)) = false := by simp;omega
     have d3 : decide ((48 : Int) <= (c : Int)) = false := by simp;omega
     go_wp2;go_ret;exact ⟨Zan HK.out.symm,q,rfl⟩
  ·have hge : (bs.size : Int) <= (k : Int) := by omega
   have HK : Hid (s.all (fun b => byteOk stars b.toNat) = true) := by
    have := HA.out;rw [List.take_of_length_le (by omega)] at this
    exact this
   clear HA;go_wp2;go_ret;exact ⟨Zan HK.out.symm,q,rfl⟩
end
section
open Go.RowKit Go.Shelf Go.Lib
theorem Zpw (s : ByteArray) (i : Nat) (h : 128 <= (s.get! i).toNat) : 128 <= (Utf8.decode s i).1 := by
 unfold Utf8.decode;simp only [Nat.add_zero];rw [if_neg (by omega)]
 have hr : 128 <= Utf8.runeError := by decide
 split
 ·split
  ·simpa using ‹_›
  ·exact hr
 ·split
  ·split
   ·rename_i h2
    simp at h2;simp only;omega
   ·exact hr
  ·split
   ·split
    ·rename_i h2
     simp at h2;simp only;omega
    ·exact hr
   ·exact hr
theorem Ztl (s : ByteArray) (i : Nat) (h : (s.get! i).toNat < 128) : Utf8.decode s i = ((s.get! i).toNat,1) := by
 unfold Utf8.decode;simp only [Nat.add_zero];rw [if_pos (by omega)]
theorem Znk (p : Nat -> Bool) (hp : ∀ x,128 <= x -> p x = false) (l : List UInt8) : ∀ (f pos : Nat),l.length <= pos + f ->
  (decide (0 <= Lib.idxFuncFrom (fun x => !p x) true (ba l) f pos) = !((l.drop pos).all (fun b => p b.toNat)))
 | 0,pos,h => by
  simp [Lib.idxFuncFrom,List.drop_of_length_le (show l.length <= pos by omega)]
 | f + 1,pos,h => by
  unfold Lib.idxFuncFrom;have hz := Zam l;by_cases hlt : pos < l.length
  ·rw [if_pos (by rw [hz];exact hlt)]
   have hget : ((ba l).get! pos) = l[pos] := by
    show (l.toArray)[pos]! = _
    rw [getElem!_pos _ _ (by simpa using hlt)]
    simp
   rw [List.drop_eq_getElem_cons hlt,List.all_cons];by_cases hc : l[pos].toNat < 128
   ·rw [Ztl _ _ (by rw [hget];exact hc),hget]
    simp only;cases hpc : p l[pos].toNat with
    | true =>
     simp only [Bool.not_true,Bool.false_eq_true,if_false,Bool.true_and];exact Znk p hp l f (pos + 1) (by omega)
    | false => simp
   ·have h1 := Zpw (ba l) pos (by rw [hget];omega)
    rw [hp _ h1,hp l[pos].toNat (by omega)]
    simp
  ·rw [if_neg (by rw [hz];exact hlt),List.drop_of_length_le (by omega)]
   simp
theorem Zpm (x : Nat) (h : 128 <= x) : letter x = false := by simp [letter];omega
end
end Go.Proofs.YtbgkfmodbofalaaGreatDoor
