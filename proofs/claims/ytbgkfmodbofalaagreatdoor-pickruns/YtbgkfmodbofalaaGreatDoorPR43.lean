import Derived.Test.YtbgkfmodbofalaaGreatDoorPR42
set_option maxRecDepth 100000
set_option maxHeartbeats 8000000
namespace Go.Proofs.YtbgkfmodbofalaaGreatDoor
open Go.RowKit Go.Shelf Go.Lib
def numR3 (d : List UInt8) : Option Nat := if d.length < 1 \/ 3 < d.length \/ (1 < d.length /\ d[0]? = some 48) then none else Lib.decFrom 0 d
def numJ (d : List UInt8) : Int := match numR3 d with
 | some n => (n : Int)
 | none => -1
theorem Zph {d : List UInt8} (h : d.length < 1 \/ 3 < d.length \/ (1 < d.length /\ d[0]? = some 48)) : numJ d = -1 := by
 unfold numJ numR3;rw [if_pos h]
theorem Zxw {d : List UInt8} (h : ¬ (d.length < 1 \/ 3 < d.length \/ (1 < d.length /\ d[0]? = some 48))) {n : Nat} (hd : Lib.decFrom 0 d = some n) : numJ d = (n : Int) := by
 unfold numJ numR3;rw [if_neg h,hd]
theorem Zxx {d : List UInt8} {k : Nat} (hk : k < d.length) (h : Lib.digitVal d[k] = none) : numJ d = -1 := by
 unfold numJ numR3;split
 ·rename_i n hn
  split at hn
  ·cases hn
  ·obtain ⟨x,hx⟩ := Lib.digit_of_decFrom d 0 n hn k d[k] (List.getElem?_eq_getElem hk);rw [h] at hx;cases hx
 ·rfl
theorem Zbz (d : List UInt8) (hd : d.length <= 1000000) (w : World) :
  Calls Tryz.prog 95 #[.string (ba d),.int .i64 3] w fun e w' => e = .returned (.int .i64 (numJ d)) /\ w' = w := by
 obtain ⟨bs,eb,T⟩ := txt d;rw [eb];clear eb;have hsz : (bs.size : Int) <= 1000000 := by rw [T.size];omega
 by_cases h1 : d.length < 1
 ·rw [Zph (.inl h1)];have z1 : (bs.size : Int) < 1 := by rw [T.size];omega
  clear T h1;go_enter Tryz.func95,Tryz.ntmps95
  go_wp2;go_ret;exact ⟨rfl,rfl⟩
 by_cases h4 : 3 < d.length
 ·rw [Zph (.inr (.inl h4))];have z1 : (1 : Int) <= (bs.size : Int) := by rw [T.size];omega
  have z4 : (3 : Int) < (bs.size : Int) := by rw [T.size];omega
  clear T h1 h4;go_enter Tryz.func95,Tryz.ntmps95
  go_wp2;go_ret;exact ⟨rfl,rfl⟩
 have z1 : (1 : Int) <= (bs.size : Int) := by rw [T.size];omega
 have z4 : (bs.size : Int) <= 3 := by rw [T.size];omega
 have n0 : 0 < bs.size := by rw [T.size];omega
 have hg0 := T.get 0 (by omega) n0
 by_cases h0 : 1 < d.length /\ d[0]? = some 48
 ·rw [Zph (.inr (.inr h0))];have z2 : (1 : Int) < (bs.size : Int) := by rw [T.size];omega
  have hb : bs[0] = 48 := by
   rw [hg0];have := h0.2;rw [List.getElem?_eq_getElem (by omega)] at this
   exact Option.some.inj this
  clear T h1 h4 h0 hg0;go_enter Tryz.func95,Tryz.ntmps95
  go_wp2;go_ret;exact ⟨rfl,rfl⟩
 have hcond : ¬ (d.length < 1 \/ 3 < d.length \/ (1 < d.length /\ d[0]? = some 48)) := by rintro (h | h | h);exact h1 h;exact h4 h;exact h0 h
 have hz : (1 : Int) < (bs.size : Int) -> ((bs[0].toNat : Int) == 48) = false := fun h => by
  rw [T.size] at h;cases hq : ((bs[0].toNat : Int) == 48) with
  | false => rfl
  | true =>
   exfalso
   refine h0 ⟨by omega,?_⟩
   rw [List.getElem?_eq_getElem (by omega)]
   have := eq_of_beq hq;rw [hg0] at this;congr 1
   exact UInt8.toNat_inj.1 (by simp;omega)
 have HZ : Hid ((1 : Int) < (bs.size : Int) -> ((bs[0].toNat : Int) == 48) = false) := hz;have HC : Hid (¬ (d.length < 1 \/ 3 < d.length \/ (1 < d.length /\ d[0]? = some 48))) := hcond;obtain ⟨res,hres⟩ : ∃ res,numJ d = res := ⟨_,rfl⟩
 have HR : Hid (numJ d = res) := hres;rw [hres];clear hz hcond hres h0;clear hg0 h1 h4;go_enter Tryz.func95,Tryz.ntmps95
 by_cases hone : (1 : Int) < (bs.size : Int)
 all_goals
  (try have hb0 := HZ.out hone)
  go_wp2;go_loopw [5,6] (fun n i wr => ∃ (k m : Nat),k <= d.length /\ i = .int .i64 k /\ n = .int .i64 m /\ Lib.decFrom 0 (d.take k) = some m /\ m < 10000 /\ wr = w) (fun _ i _ => d.length - (intOf i).toNat)
  case atStart => exact ⟨0,0,by omega,rfl,rfl,rfl,by omega,rfl⟩
  case round =>
   obtain ⟨k,m,hk,rfl,rfl,hdec,hm,rfl⟩ := hrel;have HD : Hid (Lib.decFrom 0 (d.take k) = some m) := hdec;clear hdec;have zm : (m : Int) < 10000 := by omega
   have zm0 : (0 : Int) <= (m : Int) := by omega
   by_cases hlt : k < d.length
   ·have hlt2 : k < bs.size := by rw [T.size];exact hlt
    have c1 : (k : Int) < (bs.size : Int) := by rw [T.size];omega
    have c0 : (0 : Int) <= (k : Int) := by omega
    have hget := T.get k hlt hlt2;have hbad : ∀ (_ : ¬ (48 <= bs[k].toNat /\ bs[k].toNat <= 57)),res = -1 := fun h => by
     rw [<- HR.out];refine Zxx hlt ?_;unfold Lib.digitVal;rw [<- hget,if_neg h]
    by_cases hlo : 48 <= bs[k].toNat
    ·by_cases hhi : bs[k].toNat <= 57
     ·have hdig : Lib.digitVal d[k] = some (bs[k].toNat - 48) := by
       unfold Lib.digitVal;rw [<- hget,if_pos ⟨hlo,hhi⟩]
      have hnext := Lib.decFrom_take d k 0 m d[k] _ HD.out (List.getElem?_eq_getElem hlt) hdig;have hsmall : m * 10 + (bs[k].toNat - 48) < 10000 := by
       have h1 := Lib.decFrom_lt _ 0 _ hnext;have h2 : 10 ^ (d.take (k + 1)).length <= 10 ^ 4 := Nat.pow_le_pow_right (by omega) (by rw [List.length_take,<- T.size];omega)
       omega
      have HN : Hid (Lib.decFrom 0 (d.take (k + 1)) = some (m * 10 + (bs[k].toNat - 48))) := hnext;clear hnext hdig hbad hget;have y1 : (48 : Int) <= (bs[k].toNat : Int) := by omega
      have y2 : (bs[k].toNat : Int) <= 57 := by omega
      go_wp2;go_roundw
      case rel => exact ⟨k + 1,m * 10 + (bs[k].toNat - 48),by omega,by go_num,by go_num,HN.out,hsmall,by first | rfl | trivial⟩
      case measure => simp [intOf];omega
     ·have e := hbad (by omega)
      have y2 : (57 : Int) < (bs[k].toNat : Int) := by omega
      have y1 : (48 : Int) <= (bs[k].toNat : Int) := by omega
      clear hbad hget;go_wp2;go_ret;exact ⟨by rw [e];rfl,rfl⟩
    ·have e := hbad (by omega)
     have y1 : (bs[k].toNat : Int) < 48 := by omega
     clear hbad hget;go_wp2;go_ret;exact ⟨by rw [e];rfl,rfl⟩
   ·have c1 : (bs.size : Int) <= (k : Int) := by rw [T.size];omega
    obtain rfl : k = d.length := by omega
    have e : res = (m : Int) := by
     have := HD.out;rw [List.take_length] at this;rw [<- HR.out,Zxw HC.out this]
    go_wp2;go_ret;exact ⟨by rw [e];rfl,rfl⟩
theorem Zjr (d : List UInt8) : numM 3 d = numR3 d := by
 by_cases h : 3 < d.length
 ·unfold numM numR3;rw [if_pos h,if_pos (.inr (.inl h))]
 ·have e1 : numM 3 d = numM 4 d := by
   unfold numM;rw [if_neg h,if_neg (by omega)]
  have e2 : Tf.numR d = numR3 d := by
   unfold Tf.numR numR3;by_cases hc : d.length < 1 \/ (1 < d.length /\ d[0]? = some 48)
   ·rw [if_pos (by rcases hc with hc | hc;exact .inl hc;exact .inr (.inr hc)),if_pos (by rcases hc with hc | hc;exact .inl hc;exact .inr (.inr hc))]
   ·rw [if_neg (by rintro (hh | hh | hh);exact hc (.inl hh);omega;exact hc (.inr hh)),if_neg (by rintro (hh | hh | hh);exact hc (.inl hh);exact h hh;exact hc (.inr hh))]
  rw [e1,<- Zvl,Tf.numT_numR,e2]
theorem Zvm (d : List UInt8) : decide ((0 : Int) <= numJ d) = (numM 3 d).isSome := by
 rw [Zjr];unfold numJ;cases numR3 d with
 | none => rfl
 | some n => simp
open Af (Kd)
theorem Zjx (wd : List UInt8) : Af.isSwap wd = (decide ((cutB 61 wd).length = 2) && !(wd.head? == some 61)) := by
 unfold Af.isSwap Lib.cut;rw [Lib.index_one];by_cases h : Lib.indexByte wd 61 = -1
 ·have hc := Zcj 61 wd h;rw [h,hc];simp
 ·have hge := Lib.indexByte_ge wd 61;obtain ⟨i,hi⟩ : ∃ i : Nat,Lib.indexByte wd 61 = (i : Int) := ⟨(Lib.indexByte wd 61).toNat,by omega⟩
  obtain ⟨e1,e2⟩ := Zci 61 wd i hi;obtain ⟨hs1,hs2⟩ := Lib.indexByte_some hi;rw [hi,e1];simp only [Int.natCast_nonneg,if_true,Int.toNat_natCast,List.length_cons,List.length_nil,Nat.zero_add,Bool.true_and];have hlen : decide ((cutB 61 (wd.drop (i + 1))).length + 1 = 2) = !(Lib.contains (wd.drop (i + 1)) [61]) := by
   unfold Lib.contains;rw [Lib.index_one];by_cases h2 : Lib.indexByte (wd.drop (i + 1)) 61 = -1
   ·rw [Zcj 61 _ h2,h2];rfl
   ·have hge2 := Lib.indexByte_ge (wd.drop (i + 1)) 61;obtain ⟨j,hj⟩ : ∃ j : Nat,Lib.indexByte (wd.drop (i + 1)) 61 = (j : Int) := ⟨(Lib.indexByte (wd.drop (i + 1)) 61).toNat,by omega⟩
    obtain ⟨f1,_⟩ := Zci 61 _ j hj;have hne := Zht 61 ((wd.drop (i + 1)).drop (j + 1));have h0 : 0 < (cutB 61 ((wd.drop (i + 1)).drop (j + 1))).length := List.length_pos_iff.2 hne;have hx : ¬ ((cutB 61 ((wd.drop (i + 1)).drop (j + 1))).length + 1 + 1 = 2) := by omega
    rw [f1,hj,List.length_cons,decide_eq_false hx,decide_eq_true (show (0 : Int) <= (j : Int) by omega)]
    rfl
  have hhead : (wd.take i).isEmpty = (wd.head? == some 61) := by
   cases wd with
   | nil => simp at e2
   | cons c r =>
    cases i with
    | zero =>
     have : c = 61 := by simpa using hs1
     simp [this]
    | succ i =>
     have := hs2 0 (by omega)
     have hc : c ≠ 61 := by simpa using this
     simp [hc]
  rw [hlen,hhead,Bool.and_comm]
theorem Ziv (wd : List UInt8) (n : Int) (hl : wd.length <= 1000000) (w : World) :
  Calls Tryz.prog 39 #[.string ⟨#[119,114,105,116,101]⟩,.string (ba wd),.int .i64 n] w fun e w' => e = .returned (.int .i64 (if n < 0 \/ (0 : Int) < n \/ true = false then 3 else if 100 < wd.length then 10 else 0)) /\ Below w.heap.size w w' := by
 have zl : (wd.length : Int) <= 1000000 := by omega
 generalize hr : (if n < 0 \/ (0 : Int) < n \/ true = false then (3 : Int) else if 100 < wd.length then 10 else 0) = r
 have HR := hid1 hr;clear hr;by_cases h1 : n < 0
 ·have d1 : decide (n < (0 : Int)) = true := decide_eq_true h1;go_enter Tryz.func39,Tryz.ntmps39
  go_wp2;go_ret;exact ⟨ret_eq (by rw [<- HR.out,if_pos (.inl h1)];rfl),Below.refl _ _⟩
 have d1 : decide (n < (0 : Int)) = false := decide_eq_false h1;by_cases h2 : (0 : Int) < n
 ·have d2 : decide ((0 : Int) < n) = true := decide_eq_true h2;go_enter Tryz.func39,Tryz.ntmps39
  go_wp2;go_ret;exact ⟨ret_eq (by rw [<- HR.out,if_pos (.inr (.inl h2))];rfl),Below.refl _ _⟩
 have d2 : decide ((0 : Int) < n) = false := decide_eq_false h2;have hno : ¬ (n < 0 \/ (0 : Int) < n \/ true = false) := by simp;omega
 by_cases h4 : 100 < wd.length
 ·have d4 : decide ((100 : Int) < (wd.length : Int)) = true := decide_eq_true (by omega)
  go_enter Tryz.func39,Tryz.ntmps39
  go_wp2;go_ret;exact ⟨ret_eq (by rw [<- HR.out,if_neg hno,if_pos h4];rfl),Below.refl _ _⟩
 ·have d4 : decide ((100 : Int) < (wd.length : Int)) = false := decide_eq_false (by omega)
  go_enter Tryz.func39,Tryz.ntmps39
  go_wp2;go_ret;exact ⟨ret_eq (by rw [<- HR.out,if_neg hno,if_neg h4];rfl),Below.refl _ _⟩
theorem Zlr (wd : List UInt8) (n : Int) (hl : wd.length <= 1000000) (w : World) :
  Calls Tryz.prog 39 #[.string ⟨#[106,111,105,110]⟩,.string (ba wd),.int .i64 n] w fun e w' => e = .returned (.int .i64 (if n < 1 \/ (8 : Int) < n \/ true = false then 3 else if 100 < wd.length then 10 else 0)) /\ Below w.heap.size w w' := by
 have zl : (wd.length : Int) <= 1000000 := by omega
 generalize hr : (if n < 1 \/ (8 : Int) < n \/ true = false then (3 : Int) else if 100 < wd.length then 10 else 0) = r
 have HR := hid1 hr;clear hr;by_cases h1 : n < 1
 ·have d1 : decide (n < (1 : Int)) = true := decide_eq_true h1;go_enter Tryz.func39,Tryz.ntmps39
  go_wp2;go_ret;exact ⟨ret_eq (by rw [<- HR.out,if_pos (.inl h1)];rfl),Below.refl _ _⟩
 have d1 : decide (n < (1 : Int)) = false := decide_eq_false h1;by_cases h2 : (8 : Int) < n
 ·have d2 : decide ((8 : Int) < n) = true := decide_eq_true h2;go_enter Tryz.func39,Tryz.ntmps39
  go_wp2;go_ret;exact ⟨ret_eq (by rw [<- HR.out,if_pos (.inr (.inl h2))];rfl),Below.refl _ _⟩
 have d2 : decide ((8 : Int) < n) = false := decide_eq_false h2;have hno : ¬ (n < 1 \/ (8 : Int) < n \/ true = false) := by simp;omega
 by_cases h4 : 100 < wd.length
 ·have d4 : decide ((100 : Int) < (wd.length : Int)) = true := decide_eq_true (by omega)
  go_enter Tryz.func39,Tryz.ntmps39
  go_wp2;go_ret;exact ⟨ret_eq (by rw [<- HR.out,if_neg hno,if_pos h4];rfl),Below.refl _ _⟩
 ·have d4 : decide ((100 : Int) < (wd.length : Int)) = false := decide_eq_false (by omega)
  go_enter Tryz.func39,Tryz.ntmps39
  go_wp2;go_ret;exact ⟨ret_eq (by rw [<- HR.out,if_neg hno,if_neg h4];rfl),Below.refl _ _⟩
theorem Ziy (wd : List UInt8) (n : Int) (hl : wd.length <= 1000000) (w : World) :
  Calls Tryz.prog 39 #[.string ⟨#[108,105,110,101,115]⟩,.string (ba wd),.int .i64 n] w fun e w' => e = .returned (.int .i64 (if n < 1 \/ (1 : Int) < n \/ true = false then 3 else if 100 < wd.length then 10 else 0)) /\ Below w.heap.size w w' := by
 have zl : (wd.length : Int) <= 1000000 := by omega
 generalize hr : (if n < 1 \/ (1 : Int) < n \/ true = false then (3 : Int) else if 100 < wd.length then 10 else 0) = r
 have HR := hid1 hr;clear hr;by_cases h1 : n < 1
 ·have d1 : decide (n < (1 : Int)) = true := decide_eq_true h1;go_enter Tryz.func39,Tryz.ntmps39
  go_wp2;go_ret;exact ⟨ret_eq (by rw [<- HR.out,if_pos (.inl h1)];rfl),Below.refl _ _⟩
 have d1 : decide (n < (1 : Int)) = false := decide_eq_false h1;by_cases h2 : (1 : Int) < n
 ·have d2 : decide ((1 : Int) < n) = true := decide_eq_true h2;go_enter Tryz.func39,Tryz.ntmps39
  go_wp2;go_ret;exact ⟨ret_eq (by rw [<- HR.out,if_pos (.inr (.inl h2))];rfl),Below.refl _ _⟩
 have d2 : decide ((1 : Int) < n) = false := decide_eq_false h2;have hno : ¬ (n < 1 \/ (1 : Int) < n \/ true = false) := by simp;omega
 by_cases h4 : 100 < wd.length
 ·have d4 : decide ((100 : Int) < (wd.length : Int)) = true := decide_eq_true (by omega)
  go_enter Tryz.func39,Tryz.ntmps39
  go_wp2;go_ret;exact ⟨ret_eq (by rw [<- HR.out,if_neg hno,if_pos h4];rfl),Below.refl _ _⟩
 ·have d4 : decide ((100 : Int) < (wd.length : Int)) = false := decide_eq_false (by omega)
  go_enter Tryz.func39,Tryz.ntmps39
  go_wp2;go_ret;exact ⟨ret_eq (by rw [<- HR.out,if_neg hno,if_neg h4];rfl),Below.refl _ _⟩
theorem Ziw (wd : List UInt8) (n : Int) (hl : wd.length <= 1000000) (w : World) (he : wd = []) :
  Calls Tryz.prog 39 #[.string ⟨#[117,112,112,101,114]⟩,.string (ba wd),.int .i64 n] w fun e w' => e = .returned (.int .i64 (if n < 1 \/ (1 : Int) < n \/ true = false then 3 else if 100 < wd.length then 10 else 0)) /\ Below w.heap.size w w' := by
 have zl : (wd.length : Int) <= 1000000 := by omega
 have q0 : wd.isEmpty = true := by rw [he];rfl
 clear he;generalize hr : (if n < 1 \/ (1 : Int) < n \/ true = false then (3 : Int) else if 100 < wd.length then 10 else 0) = r
 have HR := hid1 hr;clear hr;by_cases h1 : n < 1
 ·have d1 : decide (n < (1 : Int)) = true := decide_eq_true h1;go_enter Tryz.func39,Tryz.ntmps39
  go_wp2;go_ret;exact ⟨ret_eq (by rw [<- HR.out,if_pos (.inl h1)];rfl),Below.refl _ _⟩
 have d1 : decide (n < (1 : Int)) = false := decide_eq_false h1;by_cases h2 : (1 : Int) < n
 ·have d2 : decide ((1 : Int) < n) = true := decide_eq_true h2;go_enter Tryz.func39,Tryz.ntmps39
  go_wp2;go_ret;exact ⟨ret_eq (by rw [<- HR.out,if_pos (.inr (.inl h2))];rfl),Below.refl _ _⟩
 have d2 : decide ((1 : Int) < n) = false := decide_eq_false h2;have hno : ¬ (n < 1 \/ (1 : Int) < n \/ true = false) := by simp;omega
 by_cases h4 : 100 < wd.length
 ·have d4 : decide ((100 : Int) < (wd.length : Int)) = true := decide_eq_true (by omega)
  go_enter Tryz.func39,Tryz.ntmps39
  go_wp2;go_ret;exact ⟨ret_eq (by rw [<- HR.out,if_neg hno,if_pos h4];rfl),Below.refl _ _⟩
 ·have d4 : decide ((100 : Int) < (wd.length : Int)) = false := decide_eq_false (by omega)
  go_enter Tryz.func39,Tryz.ntmps39
  go_wp2;go_ret;exact ⟨ret_eq (by rw [<- HR.out,if_neg hno,if_neg h4];rfl),Below.refl _ _⟩
theorem Zix (wd : List UInt8) (n : Int) (hl : wd.length <= 1000000) (w : World) (he : wd ≠ []) :
  Calls Tryz.prog 39 #[.string ⟨#[117,112,112,101,114]⟩,.string (ba wd),.int .i64 n] w fun e w' => e = .returned (.int .i64 (if n < 1 \/ (1 : Int) < n \/ false = false then 3 else if 100 < wd.length then 10 else 0)) /\ Below w.heap.size w w' := by
 have zl : (wd.length : Int) <= 1000000 := by omega
 have q0 : wd.isEmpty = false := Zch he;generalize hr : (if n < 1 \/ (1 : Int) < n \/ false = false then (3 : Int) else if 100 < wd.length then 10 else 0) = r
 have HR := hid1 hr;clear hr;by_cases h1 : n < 1
 ·have d1 : decide (n < (1 : Int)) = true := decide_eq_true h1;go_enter Tryz.func39,Tryz.ntmps39
  go_wp2;go_ret;exact ⟨ret_eq (by rw [<- HR.out,if_pos (.inl h1)];rfl),Below.refl _ _⟩
 have d1 : decide (n < (1 : Int)) = false := decide_eq_false h1;by_cases h2 : (1 : Int) < n
 ·have d2 : decide ((1 : Int) < n) = true := decide_eq_true h2;go_enter Tryz.func39,Tryz.ntmps39
  go_wp2;go_ret;exact ⟨ret_eq (by rw [<- HR.out,if_pos (.inr (.inl h2))];rfl),Below.refl _ _⟩
 have d2 : decide ((1 : Int) < n) = false := decide_eq_false h2;go_enter Tryz.func39,Tryz.ntmps39
 go_wp2;go_ret;exact ⟨ret_eq (by rw [<- HR.out,if_pos (.inr (.inr trivial))];rfl),Below.refl _ _⟩
theorem Ziz (wd : List UInt8) (n : Int) (hl : wd.length <= 1000000) (w : World) (he : wd = []) :
  Calls Tryz.prog 39 #[.string ⟨#[99,111,117,110,116]⟩,.string (ba wd),.int .i64 n] w fun e w' => e = .returned (.int .i64 (if n < 1 \/ (8 : Int) < n \/ true = false then 3 else if 100 < wd.length then 10 else 0)) /\ Below w.heap.size w w' := by
 have zl : (wd.length : Int) <= 1000000 := by omega
 have q0 : wd.isEmpty = true := by rw [he];rfl
 clear he;generalize hr : (if n < 1 \/ (8 : Int) < n \/ true = false then (3 : Int) else if 100 < wd.length then 10 else 0) = r
 have HR := hid1 hr;clear hr;by_cases h1 : n < 1
 ·have d1 : decide (n < (1 : Int)) = true := decide_eq_true h1;go_enter Tryz.func39,Tryz.ntmps39
  go_wp2;go_ret;exact ⟨ret_eq (by rw [<- HR.out,if_pos (.inl h1)];rfl),Below.refl _ _⟩
 have d1 : decide (n < (1 : Int)) = false := decide_eq_false h1;by_cases h2 : (8 : Int) < n
 ·have d2 : decide ((8 : Int) < n) = true := decide_eq_true h2;go_enter Tryz.func39,Tryz.ntmps39
  go_wp2;go_ret;exact ⟨ret_eq (by rw [<- HR.out,if_pos (.inr (.inl h2))];rfl),Below.refl _ _⟩
 have d2 : decide ((8 : Int) < n) = false := decide_eq_false h2;have hno : ¬ (n < 1 \/ (8 : Int) < n \/ true = false) := by simp;omega
 by_cases h4 : 100 < wd.length
 ·have d4 : decide ((100 : Int) < (wd.length : Int)) = true := decide_eq_true (by omega)
  go_enter Tryz.func39,Tryz.ntmps39
  go_wp2;go_ret;exact ⟨ret_eq (by rw [<- HR.out,if_neg hno,if_pos h4];rfl),Below.refl _ _⟩
 ·have d4 : decide ((100 : Int) < (wd.length : Int)) = false := decide_eq_false (by omega)
  go_enter Tryz.func39,Tryz.ntmps39
  go_wp2;go_ret;exact ⟨ret_eq (by rw [<- HR.out,if_neg hno,if_neg h4];rfl),Below.refl _ _⟩
theorem Zja (wd : List UInt8) (n : Int) (hl : wd.length <= 1000000) (w : World) (he : wd ≠ []) :
  Calls Tryz.prog 39 #[.string ⟨#[99,111,117,110,116]⟩,.string (ba wd),.int .i64 n] w fun e w' => e = .returned (.int .i64 (if n < 1 \/ (8 : Int) < n \/ false = false then 3 else if 100 < wd.length then 10 else 0)) /\ Below w.heap.size w w' := by
 have zl : (wd.length : Int) <= 1000000 := by omega
 have q0 : wd.isEmpty = false := Zch he;generalize hr : (if n < 1 \/ (8 : Int) < n \/ false = false then (3 : Int) else if 100 < wd.length then 10 else 0) = r
 have HR := hid1 hr;clear hr;by_cases h1 : n < 1
 ·have d1 : decide (n < (1 : Int)) = true := decide_eq_true h1;go_enter Tryz.func39,Tryz.ntmps39
  go_wp2;go_ret;exact ⟨ret_eq (by rw [<- HR.out,if_pos (.inl h1)];rfl),Below.refl _ _⟩
 have d1 : decide (n < (1 : Int)) = false := decide_eq_false h1;by_cases h2 : (8 : Int) < n
 ·have d2 : decide ((8 : Int) < n) = true := decide_eq_true h2;go_enter Tryz.func39,Tryz.ntmps39
  go_wp2;go_ret;exact ⟨ret_eq (by rw [<- HR.out,if_pos (.inr (.inl h2))];rfl),Below.refl _ _⟩
 have d2 : decide ((8 : Int) < n) = false := decide_eq_false h2;go_enter Tryz.func39,Tryz.ntmps39
 go_wp2;go_ret;exact ⟨ret_eq (by rw [<- HR.out,if_pos (.inr (.inr trivial))];rfl),Below.refl _ _⟩
theorem Zlo (wd : List UInt8) (n : Int) (hl : wd.length <= 1000000) (w : World) (he : wd = []) :
  Calls Tryz.prog 39 #[.string ⟨#[115,111,114,116]⟩,.string (ba wd),.int .i64 n] w fun e w' => e = .returned (.int .i64 (if n < 1 \/ (8 : Int) < n \/ true = false then 3 else if 100 < wd.length then 10 else 0)) /\ Below w.heap.size w w' := by
 have zl : (wd.length : Int) <= 1000000 := by omega
 have q0 : wd.isEmpty = true := by rw [he];rfl
 clear he;generalize hr : (if n < 1 \/ (8 : Int) < n \/ true = false then (3 : Int) else if 100 < wd.length then 10 else 0) = r
 have HR := hid1 hr;clear hr;by_cases h1 : n < 1
 ·have d1 : decide (n < (1 : Int)) = true := decide_eq_true h1;go_enter Tryz.func39,Tryz.ntmps39
  go_wp2;go_ret;exact ⟨ret_eq (by rw [<- HR.out,if_pos (.inl h1)];rfl),Below.refl _ _⟩
 have d1 : decide (n < (1 : Int)) = false := decide_eq_false h1;by_cases h2 : (8 : Int) < n
 ·have d2 : decide ((8 : Int) < n) = true := decide_eq_true h2;go_enter Tryz.func39,Tryz.ntmps39
  go_wp2;go_ret;exact ⟨ret_eq (by rw [<- HR.out,if_pos (.inr (.inl h2))];rfl),Below.refl _ _⟩
 have d2 : decide ((8 : Int) < n) = false := decide_eq_false h2;have hno : ¬ (n < 1 \/ (8 : Int) < n \/ true = false) := by simp;omega
 by_cases h4 : 100 < wd.length
 ·have d4 : decide ((100 : Int) < (wd.length : Int)) = true := decide_eq_true (by omega)
  go_enter Tryz.func39,Tryz.ntmps39
  go_wp2;go_ret;exact ⟨ret_eq (by rw [<- HR.out,if_neg hno,if_pos h4];rfl),Below.refl _ _⟩
 ·have d4 : decide ((100 : Int) < (wd.length : Int)) = false := decide_eq_false (by omega)
  go_enter Tryz.func39,Tryz.ntmps39
  go_wp2;go_ret;exact ⟨ret_eq (by rw [<- HR.out,if_neg hno,if_neg h4];rfl),Below.refl _ _⟩
theorem Zlp (wd : List UInt8) (n : Int) (hl : wd.length <= 1000000) (w : World) (he : wd = oncew) :
  Calls Tryz.prog 39 #[.string ⟨#[115,111,114,116]⟩,.string (ba wd),.int .i64 n] w fun e w' => e = .returned (.int .i64 (if n < 1 \/ (8 : Int) < n \/ true = false then 3 else if 100 < wd.length then 10 else 0)) /\ Below w.heap.size w w' := by
 have zl : (wd.length : Int) <= 1000000 := by omega
 have q0 : wd.isEmpty = false := by rw [he];rfl
 have q1 : (wd == [111,110,99,101]) = true := by rw [he];rfl
 clear he;generalize hr : (if n < 1 \/ (8 : Int) < n \/ true = false then (3 : Int) else if 100 < wd.length then 10 else 0) = r
 have HR := hid1 hr;clear hr;by_cases h1 : n < 1
 ·have d1 : decide (n < (1 : Int)) = true := decide_eq_true h1;go_enter Tryz.func39,Tryz.ntmps39
  go_wp2;go_ret;exact ⟨ret_eq (by rw [<- HR.out,if_pos (.inl h1)];rfl),Below.refl _ _⟩
 have d1 : decide (n < (1 : Int)) = false := decide_eq_false h1;by_cases h2 : (8 : Int) < n
 ·have d2 : decide ((8 : Int) < n) = true := decide_eq_true h2;go_enter Tryz.func39,Tryz.ntmps39
  go_wp2;go_ret;exact ⟨ret_eq (by rw [<- HR.out,if_pos (.inr (.inl h2))];rfl),Below.refl _ _⟩
 have d2 : decide ((8 : Int) < n) = false := decide_eq_false h2;have hno : ¬ (n < 1 \/ (8 : Int) < n \/ true = false) := by simp;omega
 by_cases h4 : 100 < wd.length
 ·have d4 : decide ((100 : Int) < (wd.length : Int)) = true := decide_eq_true (by omega)
  go_enter Tryz.func39,Tryz.ntmps39
  go_wp2;go_ret;exact ⟨ret_eq (by rw [<- HR.out,if_neg hno,if_pos h4];rfl),Below.refl _ _⟩
 ·have d4 : decide ((100 : Int) < (wd.length : Int)) = false := decide_eq_false (by omega)
  go_enter Tryz.func39,Tryz.ntmps39
  go_wp2;go_ret;exact ⟨ret_eq (by rw [<- HR.out,if_neg hno,if_neg h4];rfl),Below.refl _ _⟩
theorem Zlq (wd : List UInt8) (n : Int) (hl : wd.length <= 1000000) (w : World) (he : wd ≠ []) (ho : wd ≠ oncew) :
  Calls Tryz.prog 39 #[.string ⟨#[115,111,114,116]⟩,.string (ba wd),.int .i64 n] w fun e w' => e = .returned (.int .i64 (if n < 1 \/ (8 : Int) < n \/ false = false then 3 else if 100 < wd.length then 10 else 0)) /\ Below w.heap.size w w' := by
 have zl : (wd.length : Int) <= 1000000 := by omega
 have q0 : wd.isEmpty = false := Zch he;have q1 : (wd == [111,110,99,101]) = false := by simpa using ho
 generalize hr : (if n < 1 \/ (8 : Int) < n \/ false = false then (3 : Int) else if 100 < wd.length then 10 else 0) = r
 have HR := hid1 hr;clear hr;by_cases h1 : n < 1
 ·have d1 : decide (n < (1 : Int)) = true := decide_eq_true h1;go_enter Tryz.func39,Tryz.ntmps39
  go_wp2;go_ret;exact ⟨ret_eq (by rw [<- HR.out,if_pos (.inl h1)];rfl),Below.refl _ _⟩
 have d1 : decide (n < (1 : Int)) = false := decide_eq_false h1;by_cases h2 : (8 : Int) < n
 ·have d2 : decide ((8 : Int) < n) = true := decide_eq_true h2;go_enter Tryz.func39,Tryz.ntmps39
  go_wp2;go_ret;exact ⟨ret_eq (by rw [<- HR.out,if_pos (.inr (.inl h2))];rfl),Below.refl _ _⟩
 have d2 : decide ((8 : Int) < n) = false := decide_eq_false h2;go_enter Tryz.func39,Tryz.ntmps39
 go_wp2;go_ret;exact ⟨ret_eq (by rw [<- HR.out,if_pos (.inr (.inr trivial))];rfl),Below.refl _ _⟩
theorem Zls (wd : List UInt8) (n : Int) (hl : wd.length <= 1000000) (w : World) (he : decide ((0 : Int) <= numJ wd) = true) :
  Calls Tryz.prog 39 #[.string ⟨#[104,101,97,100]⟩,.string (ba wd),.int .i64 n] w fun e w' => e = .returned (.int .i64 (if n < 1 \/ (1 : Int) < n \/ true = false then 3 else if 100 < wd.length then 10 else 0)) /\ Below w.heap.size w w' := by
 have zl : (wd.length : Int) <= 1000000 := by omega
 have HC := hid1 (Zbz wd hl w);generalize numJ wd = nj at *;generalize hr : (if n < 1 \/ (1 : Int) < n \/ true = false then (3 : Int) else if 100 < wd.length then 10 else 0) = r
 have HR := hid1 hr;clear hr;by_cases h1 : n < 1
 ·have d1 : decide (n < (1 : Int)) = true := decide_eq_true h1;go_enter Tryz.func39,Tryz.ntmps39
  go_wp2_with fail;refine Calls.mono (HC.out) ?_;rintro e w1 ⟨rfl,rfl⟩;go_wp2;go_ret;exact ⟨ret_eq (by rw [<- HR.out,if_pos (.inl h1)];rfl),Below.refl _ _⟩
 have d1 : decide (n < (1 : Int)) = false := decide_eq_false h1;by_cases h2 : (1 : Int) < n
 ·have d2 : decide ((1 : Int) < n) = true := decide_eq_true h2;go_enter Tryz.func39,Tryz.ntmps39
  go_wp2_with fail;refine Calls.mono (HC.out) ?_;rintro e w1 ⟨rfl,rfl⟩;go_wp2;go_ret;exact ⟨ret_eq (by rw [<- HR.out,if_pos (.inr (.inl h2))];rfl),Below.refl _ _⟩
 have d2 : decide ((1 : Int) < n) = false := decide_eq_false h2;have hno : ¬ (n < 1 \/ (1 : Int) < n \/ true = false) := by simp;omega
 by_cases h4 : 100 < wd.length
 ·have d4 : decide ((100 : Int) < (wd.length : Int)) = true := decide_eq_true (by omega)
  go_enter Tryz.func39,Tryz.ntmps39
  go_wp2_with fail;refine Calls.mono (HC.out) ?_;rintro e w1 ⟨rfl,rfl⟩;go_wp2;go_ret;exact ⟨ret_eq (by rw [<- HR.out,if_neg hno,if_pos h4];rfl),Below.refl _ _⟩
 ·have d4 : decide ((100 : Int) < (wd.length : Int)) = false := decide_eq_false (by omega)
  go_enter Tryz.func39,Tryz.ntmps39
  go_wp2_with fail;refine Calls.mono (HC.out) ?_;rintro e w1 ⟨rfl,rfl⟩;go_wp2;go_ret;exact ⟨ret_eq (by rw [<- HR.out,if_neg hno,if_neg h4];rfl),Below.refl _ _⟩
theorem Zlt (wd : List UInt8) (n : Int) (hl : wd.length <= 1000000) (w : World) (he : decide ((0 : Int) <= numJ wd) = false) :
  Calls Tryz.prog 39 #[.string ⟨#[104,101,97,100]⟩,.string (ba wd),.int .i64 n] w fun e w' => e = .returned (.int .i64 (if n < 1 \/ (1 : Int) < n \/ false = false then 3 else if 100 < wd.length then 10 else 0)) /\ Below w.heap.size w w' := by
 have zl : (wd.length : Int) <= 1000000 := by omega
 have HC := hid1 (Zbz wd hl w);generalize numJ wd = nj at *;generalize hr : (if n < 1 \/ (1 : Int) < n \/ false = false then (3 : Int) else if 100 < wd.length then 10 else 0) = r
 have HR := hid1 hr;clear hr;by_cases h1 : n < 1
 ·have d1 : decide (n < (1 : Int)) = true := decide_eq_true h1;go_enter Tryz.func39,Tryz.ntmps39
  go_wp2_with fail;refine Calls.mono (HC.out) ?_;rintro e w1 ⟨rfl,rfl⟩;go_wp2;go_ret;exact ⟨ret_eq (by rw [<- HR.out,if_pos (.inl h1)];rfl),Below.refl _ _⟩
 have d1 : decide (n < (1 : Int)) = false := decide_eq_false h1;by_cases h2 : (1 : Int) < n
 ·have d2 : decide ((1 : Int) < n) = true := decide_eq_true h2;go_enter Tryz.func39,Tryz.ntmps39
  go_wp2_with fail;refine Calls.mono (HC.out) ?_;rintro e w1 ⟨rfl,rfl⟩;go_wp2;go_ret;exact ⟨ret_eq (by rw [<- HR.out,if_pos (.inr (.inl h2))];rfl),Below.refl _ _⟩
 have d2 : decide ((1 : Int) < n) = false := decide_eq_false h2;go_enter Tryz.func39,Tryz.ntmps39
 go_wp2_with fail;refine Calls.mono (HC.out) ?_;rintro e w1 ⟨rfl,rfl⟩;go_wp2;go_ret;exact ⟨ret_eq (by rw [<- HR.out,if_pos (.inr (.inr trivial))];rfl),Below.refl _ _⟩
theorem Zlm (wd : List UInt8) (n : Int) (hl : wd.length <= 1000000) (w : World) (he : (cutB 61 wd).length ≠ 2) :
  Calls Tryz.prog 39 #[.string ⟨#[115,119,97,112]⟩,.string (ba wd),.int .i64 n] w fun e w' => e = .returned (.int .i64 (if n < 1 \/ (1 : Int) < n \/ false = false then 3 else if 100 < wd.length then 10 else 0)) /\ Below w.heap.size w w' := by
 have zl : (wd.length : Int) <= 1000000 := by omega
 have HC : Hid (Calls Tryz.prog 113 #[.string (ba wd),.int .u8 61] w fun e w' => ∃ p c,e = .returned (.slice p (cutB 61 wd).length c) /\ Below w.heap.size w w') := by
  refine hid1 ((Zbr wd hl 61 61 rfl w).mono ?_);rintro e w' ⟨v,rfl,ho,hb⟩;obtain ⟨p,c,rfl,_,_⟩ := TRow.of_owns ho;exact ⟨p,c,rfl,hb⟩
 have hcl := Zfc 61 wd;generalize (cutB 61 wd).length = nc at *;have q0 : ((nc : Int) == 2) = false := by
  rw [beq_eq_false_iff_ne];omega
 generalize hr : (if n < 1 \/ (1 : Int) < n \/ false = false then (3 : Int) else if 100 < wd.length then 10 else 0) = r
 have HR := hid1 hr;clear hr;by_cases h1 : n < 1
 ·have d1 : decide (n < (1 : Int)) = true := decide_eq_true h1;go_enter Tryz.func39,Tryz.ntmps39
  go_wp2_with fail;refine Calls.mono (HC.out) ?_;rintro e w1 ⟨p,c,rfl,g1⟩;go_wp2;go_ret;exact ⟨ret_eq (by rw [<- HR.out,if_pos (.inl h1)];rfl),g1⟩
 have d1 : decide (n < (1 : Int)) = false := decide_eq_false h1;by_cases h2 : (1 : Int) < n
 ·have d2 : decide ((1 : Int) < n) = true := decide_eq_true h2;go_enter Tryz.func39,Tryz.ntmps39
  go_wp2_with fail;refine Calls.mono (HC.out) ?_;rintro e w1 ⟨p,c,rfl,g1⟩;go_wp2;go_ret;exact ⟨ret_eq (by rw [<- HR.out,if_pos (.inr (.inl h2))];rfl),g1⟩
 have d2 : decide ((1 : Int) < n) = false := decide_eq_false h2;go_enter Tryz.func39,Tryz.ntmps39
 go_wp2_with fail;refine Calls.mono (HC.out) ?_;rintro e w1 ⟨p,c,rfl,g1⟩;go_wp2;go_ret;exact ⟨ret_eq (by rw [<- HR.out,if_pos (.inr (.inr trivial))];rfl),g1⟩
theorem Zln (wd : List UInt8) (n : Int) (hl : wd.length <= 1000000) (w : World) (he : (cutB 61 wd).length = 2) (hh : wd.head? = some 61) :
  Calls Tryz.prog 39 #[.string ⟨#[115,119,97,112]⟩,.string (ba wd),.int .i64 n] w fun e w' => e = .returned (.int .i64 (if n < 1 \/ (1 : Int) < n \/ false = false then 3 else if 100 < wd.length then 10 else 0)) /\ Below w.heap.size w w' := by
 have zl : (wd.length : Int) <= 1000000 := by omega
 have HC : Hid (Calls Tryz.prog 113 #[.string (ba wd),.int .u8 61] w fun e w' => ∃ p c,e = .returned (.slice p (cutB 61 wd).length c) /\ Below w.heap.size w w') := by
  refine hid1 ((Zbr wd hl 61 61 rfl w).mono ?_);rintro e w' ⟨v,rfl,ho,hb⟩;obtain ⟨p,c,rfl,_,_⟩ := TRow.of_owns ho;exact ⟨p,c,rfl,hb⟩
 have hcl := Zfc 61 wd;have hlen0 : 0 < wd.length := by omega
 generalize (cutB 61 wd).length = nc at *;obtain ⟨bs,eb,T⟩ := txt wd;rw [eb] at HC ⊢;clear eb;have zb : (bs.size : Int) <= 1000000 := by rw [T.size];omega
 have n0 : 0 < bs.size := by rw [T.size];exact hlen0
 have z0 : (0 : Int) < (bs.size : Int) := by omega
 have hg0 := T.get 0 hlen0 n0;have q0 : ((nc : Int) == 2) = true := by
  rw [he];rfl
 have q2 : ((bs[0].toNat : Int) == 61) = true := by
  rw [hg0];have : wd[0] = 61 := by
   rw [List.head?_eq_getElem?,List.getElem?_eq_getElem hlen0] at hh
   exact Option.some.inj hh
  rw [this];rfl
 have q3 : ((bs[0].toNat : Int) != 61) = false := by rw [bne,q2];rfl
 clear hg0;generalize hr : (if n < 1 \/ (1 : Int) < n \/ false = false then (3 : Int) else if 100 < wd.length then 10 else 0) = r
 have HR := hid1 hr;clear hr;by_cases h1 : n < 1
 ·have d1 : decide (n < (1 : Int)) = true := decide_eq_true h1;go_enter Tryz.func39,Tryz.ntmps39
  go_wp2_with fail;refine Calls.mono (HC.out) ?_;rintro e w1 ⟨p,c,rfl,g1⟩;go_wp2;go_ret;exact ⟨ret_eq (by rw [<- HR.out,if_pos (.inl h1)];rfl),g1⟩
 have d1 : decide (n < (1 : Int)) = false := decide_eq_false h1;by_cases h2 : (1 : Int) < n
 ·have d2 : decide ((1 : Int) < n) = true := decide_eq_true h2;go_enter Tryz.func39,Tryz.ntmps39
  go_wp2_with fail;refine Calls.mono (HC.out) ?_;rintro e w1 ⟨p,c,rfl,g1⟩;go_wp2;go_ret;exact ⟨ret_eq (by rw [<- HR.out,if_pos (.inr (.inl h2))];rfl),g1⟩
 have d2 : decide ((1 : Int) < n) = false := decide_eq_false h2;go_enter Tryz.func39,Tryz.ntmps39
 go_wp2_with fail;refine Calls.mono (HC.out) ?_;rintro e w1 ⟨p,c,rfl,g1⟩;go_wp2;go_ret;exact ⟨ret_eq (by rw [<- HR.out,if_pos (.inr (.inr trivial))];rfl),g1⟩
theorem Zll (wd : List UInt8) (n : Int) (hl : wd.length <= 1000000) (w : World) (he : (cutB 61 wd).length = 2) (hh : wd.head? ≠ some 61) :
  Calls Tryz.prog 39 #[.string ⟨#[115,119,97,112]⟩,.string (ba wd),.int .i64 n] w fun e w' => e = .returned (.int .i64 (if n < 1 \/ (1 : Int) < n \/ true = false then 3 else if 100 < wd.length then 10 else 0)) /\ Below w.heap.size w w' := by
 have zl : (wd.length : Int) <= 1000000 := by omega
 have HC : Hid (Calls Tryz.prog 113 #[.string (ba wd),.int .u8 61] w fun e w' => ∃ p c,e = .returned (.slice p (cutB 61 wd).length c) /\ Below w.heap.size w w') := by
  refine hid1 ((Zbr wd hl 61 61 rfl w).mono ?_);rintro e w' ⟨v,rfl,ho,hb⟩;obtain ⟨p,c,rfl,_,_⟩ := TRow.of_owns ho;exact ⟨p,c,rfl,hb⟩
 have hcl := Zfc 61 wd;have hlen0 : 0 < wd.length := by omega
 generalize (cutB 61 wd).length = nc at *;obtain ⟨bs,eb,T⟩ := txt wd;rw [eb] at HC ⊢;clear eb;have zb : (bs.size : Int) <= 1000000 := by rw [T.size];omega
 have n0 : 0 < bs.size := by rw [T.size];exact hlen0
 have z0 : (0 : Int) < (bs.size : Int) := by omega
 have hg0 := T.get 0 hlen0 n0;have q0 : ((nc : Int) == 2) = true := by
  rw [he];rfl
 have q2 : ((bs[0].toNat : Int) == 61) = false := by
  rw [hg0,beq_eq_false_iff_ne];intro e
  refine hh ?_;rw [List.head?_eq_getElem?,List.getElem?_eq_getElem hlen0,UInt8.toNat_inj.1 (show wd[0].toNat = (61 : UInt8).toNat by show _ = 61;omega)]
 have q3 : ((bs[0].toNat : Int) != 61) = true := by rw [bne,q2];rfl
 clear hg0;generalize hr : (if n < 1 \/ (1 : Int) < n \/ true = false then (3 : Int) else if 100 < wd.length then 10 else 0) = r
 have HR := hid1 hr;clear hr;by_cases h1 : n < 1
 ·have d1 : decide (n < (1 : Int)) = true := decide_eq_true h1;go_enter Tryz.func39,Tryz.ntmps39
  go_wp2_with fail;refine Calls.mono (HC.out) ?_;rintro e w1 ⟨p,c,rfl,g1⟩;go_wp2;go_ret;exact ⟨ret_eq (by rw [<- HR.out,if_pos (.inl h1)];rfl),g1⟩
 have d1 : decide (n < (1 : Int)) = false := decide_eq_false h1;by_cases h2 : (1 : Int) < n
 ·have d2 : decide ((1 : Int) < n) = true := decide_eq_true h2;go_enter Tryz.func39,Tryz.ntmps39
  go_wp2_with fail;refine Calls.mono (HC.out) ?_;rintro e w1 ⟨p,c,rfl,g1⟩;go_wp2;go_ret;exact ⟨ret_eq (by rw [<- HR.out,if_pos (.inr (.inl h2))];rfl),g1⟩
 have d2 : decide ((1 : Int) < n) = false := decide_eq_false h2;have hno : ¬ (n < 1 \/ (1 : Int) < n \/ true = false) := by simp;omega
 by_cases h4 : 100 < wd.length
 ·have d4 : decide ((100 : Int) < (wd.length : Int)) = true := decide_eq_true (by omega)
  have d4b : decide ((100 : Int) < (bs.size : Int)) = true := by rw [T.size];exact d4
  go_enter Tryz.func39,Tryz.ntmps39
  go_wp2_with fail;refine Calls.mono (HC.out) ?_;rintro e w1 ⟨p,c,rfl,g1⟩;go_wp2;go_ret;exact ⟨ret_eq (by rw [<- HR.out,if_neg hno,if_pos h4];rfl),g1⟩
 ·have d4 : decide ((100 : Int) < (wd.length : Int)) = false := decide_eq_false (by omega)
  have d4b : decide ((100 : Int) < (bs.size : Int)) = false := by rw [T.size];exact d4
  go_enter Tryz.func39,Tryz.ntmps39
  go_wp2_with fail;refine Calls.mono (HC.out) ?_;rintro e w1 ⟨p,c,rfl,g1⟩;go_wp2;go_ret;exact ⟨ret_eq (by rw [<- HR.out,if_neg hno,if_neg h4];rfl),g1⟩
end Go.Proofs.YtbgkfmodbofalaaGreatDoor
