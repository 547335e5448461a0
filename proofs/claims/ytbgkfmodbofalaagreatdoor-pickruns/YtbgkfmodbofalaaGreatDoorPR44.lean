import Derived.Test.YtbgkfmodbofalaaGreatDoorPR43
set_option maxRecDepth 100000
set_option maxHeartbeats 8000000
namespace Go.Proofs.YtbgkfmodbofalaaGreatDoor
section
open Go.RowKit Go.Shelf Go.Lib
open Af (Kd)
theorem Zas {nm : List UInt8} (h : Af.kindOf nm = none) (k : Kd) : (nm == k.name) = false := by
 rw [beq_eq_false_iff_ne];rintro rfl;rw [Af.kindOf_name] at h;cases h
theorem Zql (nm wd : List UInt8) (n : Int) (w : World) (h : Af.kindOf nm = none) :
  Calls Tryz.prog 39 #[.string (ba nm),.string (ba wd),.int .i64 n] w fun e w' => e = .returned (.int .i64 5) /\ Below w.heap.size w w' := by
 have h1 := Zas h .write;have h2 := Zas h .join;have h3 := Zas h .upper;have h4 := Zas h .lines;have h5 := Zas h .sort;have h6 := Zas h .count;have h7 := Zas h .swap;have h8 := Zas h .head;simp only [Af.Kd.name] at h1 h2 h3 h4 h5 h6 h7 h8;clear h;go_enter Tryz.func39,Tryz.ntmps39
 go_wp2;go_ret;exact ⟨rfl,Below.refl _ _⟩
theorem Zoh (k : Kd) (wd : List UInt8) (n : Int) : Af.actE k.name wd n = (if n < k.least \/ (k.most : Int) < n \/ k.takes wd = false then 3 else if 100 < wd.length then 10 else 0) := by
 simp [Af.actE,Af.kindOf_name]
theorem as_nat (p q : Prop) [Decidable p] [Decidable q] : (if p then (3 : Int) else if q then 10 else 0) = ((if p then 3 else if q then 10 else 0 : Nat) : Int) := by
 split
 ·rfl
 ·split <;> rfl
theorem Zeb (nm wd : List UInt8) (n : Int) (hl : wd.length <= 1000000) (w : World) :
  Calls Tryz.prog 39 #[.string (ba nm),.string (ba wd),.int .i64 n] w fun e w' => e = .returned (.int .i64 (Af.actE nm wd n : Nat)) /\ Below w.heap.size w w' := by
 cases hk : Af.kindOf nm with
 | none =>
  have e : Af.actE nm wd n = 5 := by simp [Af.actE,hk]
  rw [e];exact Zql nm wd n w hk
 | some k =>
  obtain rfl := Af.kindOf_some hk;rw [Zoh];have key : ∀ (b : Bool) (lo hi : Int),k.takes wd = b -> (k.least : Int) = lo -> (k.most : Int) = hi ->
    (Calls Tryz.prog 39 #[.string (ba k.name),.string (ba wd),.int .i64 n] w fun e w' => e = .returned (.int .i64 (if n < lo \/ hi < n \/ b = false then 3 else if 100 < wd.length then 10 else 0)) /\ Below w.heap.size w w') ->
    Calls Tryz.prog 39 #[.string (ba k.name),.string (ba wd),.int .i64 n] w fun e w' => e = .returned (.int .i64 ((if n < k.least \/ (k.most : Int) < n \/ k.takes wd = false then 3 else if 100 < wd.length then 10 else 0 : Nat) : Int)) /\ Below w.heap.size w w' := by
   intro b lo hi e1 e2 e3 H
   rw [e1,e2,e3,<- as_nat];exact H
  cases k
  ·exact key true 0 0 rfl rfl rfl (Ziv wd n hl w)
  ·exact key true 1 8 rfl rfl rfl (Zlr wd n hl w)
  ·by_cases he : wd = []
   ·exact key true 1 1 (by subst he;rfl) rfl rfl (Ziw wd n hl w he)
   ·exact key false 1 1 (by simp [Af.Kd.takes,he]) rfl rfl (Zix wd n hl w he)
  ·exact key true 1 1 rfl rfl rfl (Ziy wd n hl w)
  ·by_cases he : wd = []
   ·exact key true 1 8 (by subst he;rfl) rfl rfl (Zlo wd n hl w he)
   ·by_cases ho : wd = oncew
    ·exact key true 1 8 (by subst ho;rfl) rfl rfl (Zlp wd n hl w ho)
    ·exact key false 1 8 (by simp [Af.Kd.takes,he,ho]) rfl rfl (Zlq wd n hl w he ho)
  ·by_cases he : wd = []
   ·exact key true 1 8 (by subst he;rfl) rfl rfl (Ziz wd n hl w he)
   ·exact key false 1 8 (by simp [Af.Kd.takes,he]) rfl rfl (Zja wd n hl w he)
  ·have hs := Zjx wd;by_cases he : (cutB 61 wd).length = 2
   ·by_cases hh : wd.head? = some 61
    ·exact key false 1 1 (by show Af.isSwap wd = false;rw [hs,he,hh];rfl) rfl rfl (Zln wd n hl w he hh)
    ·exact key true 1 1 (by show Af.isSwap wd = true;rw [hs];simp [he,hh]) rfl rfl (Zll wd n hl w he hh)
   ·exact key false 1 1 (by show Af.isSwap wd = false;rw [hs];simp [he]) rfl rfl (Zlm wd n hl w he)
  ·have hm := Zvm wd;cases hd : decide ((0 : Int) <= numJ wd) with
   | true => exact key true 1 1 (by show (numM 3 wd).isSome = true;rw [<- hm];exact hd) rfl rfl (Zls wd n hl w hd)
   | false => exact key false 1 1 (by show (numM 3 wd).isSome = false;rw [<- hm];exact hd) rfl rfl (Zlt wd n hl w hd)
end
section
open Go.RowKit Go.Shelf Go.Lib
def RuBox (w : World) (b : Nat) (r : Ru) (v : Value) : Prop :=
 w.cell? ⟨b,0,none⟩ = some (.string (ba r.out)) /\ w.cell? ⟨b,1,none⟩ = some (.string (ba r.kind)) /\ w.cell? ⟨b,2,none⟩ = some (.string (ba r.word)) /\ w.cell? ⟨b,3,none⟩ = some v
theorem RuBox.below {w w' : World} {b : Nat} {r : Ru} {v : Value} (h : RuBox w b r v) (hb : Below w.heap.size w w') : RuBox w' b r v :=
 ⟨Zaa h.1 hb,Zaa h.2.1 hb,Zaa h.2.2.1 hb,Zaa h.2.2.2 hb⟩
theorem RuBox.new (w : World) (r : Ru) (v : Value) : RuBox (w.alloc (.cells #[.string (ba r.out),.string (ba r.kind),.string (ba r.word),v] 90)) w.heap.size r v := ⟨by simp,by simp,by simp,by simp⟩
theorem Zif {w : World} (r : Ru) (hS : r.Small) (v : Value) (hrow : XRow w v r.ins) :
  Calls Tryz.prog 122 #[ruV r v] w fun e w' => e = .returned (.int .i64 (r.err : Nat)) /\ Below w.heap.size w w' := by
 have hB0 : Below w.heap.size w (w.alloc (.cells #[.string (ba r.out),.string (ba r.kind),.string (ba r.word),v] 90)) := (Below.refl _ w).alloc (Nat.le_refl _) _;have hR0 := RuBox.new w r v;have s1 := hS.out;have s2 := hS.word;have s3 := hS.many;have HP := hid1 fun W => Zdh r.out (by omega) W
 have HK := hid1 fun W => Zeb r.kind r.word r.ins.length (by omega) W
 have HI := hid1 fun W k (hk : k < r.ins.length) => Zdh r.ins[k] (Nat.le_trans (hS.ins _ (List.getElem_mem hk)) (by omega)) W
 have HX := hid1 fun W (hW : Below w.heap.size w W) k (hk : k < r.ins.length) => Zfv v r.ins r.ins[k] (hrow.below hW).irow (by omega)
 have HEq : Hid (r.err = if pathB r.out = false then 4 else if Af.actE r.kind r.word r.ins.length ≠ 0 then Af.actE r.kind r.word r.ins.length else if r.ins.all pathB = false then 4 else if r.twice = true then 7 else 0) := hid1 rfl
 obtain ⟨p,cap,rfl,hcap,hnn,hin⟩ := hrow;have HIN := hid1 hin;clear hS hin hnn;rw [<- Zpb] at HP;cases hp : pathB r.out with
 | false =>
  have HF : Hid (r.err = 4) := hid1 (by rw [HEq.out,hp];rfl)
  rw [HF.out];rw [hp] at HP;go_enter Tryz.func122,Tryz.ntmps122
  go_wp2_with fail;refine (HP.out _).mono ?_;rintro e w1 ⟨rfl,hb⟩;have g1 := Zab hB0 hb;go_wp2;go_ret;exact ⟨rfl,g1⟩
 | true =>
  rw [hp] at HP;cases ha : Af.actE r.kind r.word r.ins.length with
  | succ m =>
   have HF : Hid (r.err = m + 1) := hid1 (by rw [HEq.out,hp,ha];rfl)
   rw [HF.out];rw [ha] at HK;have z : (0 : Int) < ((m + 1 : Nat) : Int) := by omega
   generalize ((m + 1 : Nat) : Int) = mi at *;clear HI HX HIN;generalize r.ins.length = n at *;go_enter Tryz.func122,Tryz.ntmps122
   go_wp2_with fail;refine (HP.out _).mono ?_;rintro e w1 ⟨rfl,hb⟩;have g1 := Zab hB0 hb;obtain ⟨_,k1,k2,k3⟩ := hR0.below hb;clear hb hR0;go_wp2_with fail;refine (HK.out _).mono ?_;rintro e w2 ⟨rfl,hb⟩;have g2 := Zab g1 hb;go_wp2;go_ret;exact ⟨rfl,g2⟩
  | zero =>
   have HF := hid1 (Ru.err_tail hp ha);rw [ha] at HK;clear ha hp HEq;generalize r.err = re at *;have z12 : (r.ins.length : Int) <= 12 := by omega
   go_enter Tryz.func122,Tryz.ntmps122
   go_wp2_with fail;refine (HP.out _).mono ?_;rintro e w1 ⟨rfl,hb⟩;have g1 := Zab hB0 hb;have HR1 := hid1 (hR0.below hb);obtain ⟨_,k1,k2,k3⟩ := HR1.out;clear hb hR0;go_wp2_with fail;refine (HK.out _).mono ?_;rintro e w2 ⟨rfl,hb⟩;have g2 := Zab g1 hb;have HR2 := hid1 (HR1.out.below hb);clear hb k1 k2 k3 HK HP HR1;go_wp2
   go_loopw [5] (fun i wr => ∃ k : Nat,k <= r.ins.length /\ i = .int .i64 k /\ (∀ j (hj : j < r.ins.length),j < k -> pathB r.ins[j] = true) /\ Below w.heap.size w wr /\ Hid (RuBox wr w.heap.size r (.slice p r.ins.length cap))) (fun i _ => r.ins.length - (intOf i).toNat)
   case atStart => exact ⟨0,Nat.zero_le _,rfl,fun j hj h => by omega,g2,HR2⟩
   case round =>
    obtain ⟨k,hk,rfl,hz,hB,HR⟩ := hrel;have HZ := hid1 hz;clear hz;have c0 : (0 : Int) <= (k : Int) := by omega
    obtain ⟨_,_,_,k3⟩ := HR.out;by_cases hlt : k < r.ins.length
    ·have c1 : (k : Int) < (r.ins.length : Int) := by omega
     obtain ⟨g',o,rfl,hg,hcur⟩ := HIN.out (by intro e;rw [e] at hlt;simp at hlt)
     have hcell := (hB.cell (p := ⟨g',o + k,none⟩) hg).trans (hcur k hlt);have HC := HI.out wr k hlt;rw [<- Zpb] at HC;cases hc : pathB r.ins[k] with
     | true =>
      rw [hc] at HC;have HN : Hid (∀ j (hj : j < r.ins.length),j < k + 1 -> pathB r.ins[j] = true) := hid1 fun j hj hjk => by
       rcases Nat.lt_or_ge j k with h | h
       ·exact HZ.out j hj h
       ·obtain rfl : j = k := by omega
        exact hc
      clear hc HZ HI HX HIN hcur HF;generalize r.ins[k] = y at *;go_wp2_with fail;refine Calls.mono HC ?_;rintro e w3 ⟨rfl,hb⟩;have HR3 := hid1 (HR.out.below hb);clear HC k3;go_wp2;exact ⟨⟨k + 1,by omega,by go_num,HN.out,Zab hB hb,HR3⟩,by simp [intOf];omega⟩
     | false =>
      rw [hc] at HC;have HN : Hid (re = 4) := hid1 (by
       rw [HF.out,if_pos];rw [List.all_eq_false];exact ⟨r.ins[k],List.getElem_mem hlt,by rw [hc];simp⟩)
      clear hc HZ HI HX HIN hcur HF;generalize r.ins[k] = y at *;go_wp2_with fail;refine Calls.mono HC ?_;rintro e w3 ⟨rfl,hb⟩;have g3 := Zab hB hb;clear HC k3;go_wp2;go_ret;exact ⟨ret_eq (by rw [HN.out];rfl),g3⟩
    ·have c1 : (r.ins.length : Int) <= (k : Int) := by omega
     have HF2 : Hid (re = if r.twice = true then 7 else 0) := hid1 (by
      rw [HF.out,if_neg];rw [Bool.not_eq_false,List.all_eq_true];intro x hx
      obtain ⟨j,hj,rfl⟩ := List.getElem_of_mem hx;exact HZ.out j hj (by omega))
     clear HF HZ HI g2 g1 HR2;generalize wr = w4 at *;have HB4 := hid1 hB;go_wp2;go_loopw [7] (fun i wr => ∃ k : Nat,k <= r.ins.length /\ i = .int .i64 k /\ (∀ j,j < k -> r.twiceAt j = false) /\ Below w.heap.size w wr /\ Hid (RuBox wr w.heap.size r (.slice p r.ins.length cap))) (fun i _ => r.ins.length - (intOf i).toNat)
     case atStart => exact ⟨0,Nat.zero_le _,rfl,fun j h => by omega,hB,HR⟩
     case round =>
      clear HR k3 c0 c1 hlt hB;obtain ⟨k,hk,rfl,hz,hB,HR⟩ := hrel;have HZ := hid1 hz;clear hz;have c0 : (0 : Int) <= (k : Int) := by omega
      obtain ⟨k0,_,_,k3⟩ := HR.out;by_cases hlt : k < r.ins.length
      ·have c1 : (k : Int) < (r.ins.length : Int) := by omega
       obtain ⟨g',o,rfl,hg,hcur⟩ := HIN.out (by intro e;rw [e] at hlt;simp at hlt)
       have hcell := (hB.cell (p := ⟨g',o + k,none⟩) hg).trans (hcur k hlt);have HT := hid1 (Ru.twiceAt_eq hlt);have HXk := hid1 fun W (hW : Below w.heap.size w W) => HX.out W hW k hlt
       have HL := hid1 fun (i : Int) h => Zyf hlt (r := i) h
       have HY : Hid (r.twiceAt k = true -> re = 7) := hid1 fun h => by rw [HF2.out,if_pos (Ru.twice_iff.2 ⟨k,hlt,h⟩)]
       have HN : Hid (r.twiceAt k = false -> ∀ j,j < k + 1 -> r.twiceAt j = false) := hid1 fun hc j hjk => by
        rcases Nat.lt_or_ge j k with h | h
        ·exact HZ.out j h
        ·obtain rfl : j = k := by omega
         exact hc
       clear hcur HIN HX HZ HF2;by_cases he : r.ins[k] = r.out
       ·have hb1 : (r.ins[k] == r.out) = true := by simpa using he
        have HQ : Hid (re = 7) := hid1 (HY.out (by rw [HT.out,he];simp))
        clear HT HY HN HXk HL he;generalize r.ins[k] = y at *;generalize r.out = z at *;go_wp2;go_region
        all_goals
         go_wp2;go_ret;exact ⟨ret_eq (by rw [HQ.out];rfl),Zad hB _⟩
       ·have hb1 : (r.ins[k] == r.out) = false := by simpa using he
        have HQ : Hid (r.twiceAt k = decide (r.ins[k] ∈ r.ins.take k)) := hid1 (by rw [HT.out];simp [he])
        clear HT he;have hgB : g' < w4.heap.size := Nat.lt_of_lt_of_le hg HB4.out.size;generalize decide (r.ins[k] ∈ r.ins.take k) = d at *;generalize r.ins[k] = y at *;generalize r.out = z at *;go_wp2
        go_region_held3 (fun w' => w'.cell? ⟨w.heap.size,0,none⟩ = some (.string (ba z)) /\ w'.cell? ⟨w.heap.size,3,none⟩ = some (.slice (some ⟨g',o,none⟩) r.ins.length cap) /\ w'.cell? ⟨g',o + k,none⟩ = some (.string (ba y))) (first | go_keep | fail)
         (first | (go_at_call 57;refine (HXk.out _ (by exact hB.drew)).mono ?_;rintro e w5 ⟨i,rfl,rfl,hix⟩;have hdd := HL.out i hix) | fail)
        all_goals
         cases d with
         | true =>
          have hlt2 : i < (k : Int) := of_decide_eq_true hdd;clear hdd;go_wp2;go_ret;exact ⟨ret_eq (by rw [HY.out HQ.out];rfl),Zad hB _⟩
         | false =>
          have hlt2 : ¬ i < (k : Int) := of_decide_eq_false hdd;clear hdd;go_wp2;exact ⟨⟨k + 1,by omega,by go_num,HN.out HQ.out,Zad hB _,HR⟩,by simp [intOf];omega⟩
      ·have c1 : (r.ins.length : Int) <= (k : Int) := by omega
       have HQ : Hid (re = 0) := hid1 (by
        rw [HF2.out,if_neg];intro h
        obtain ⟨j,hj,hp⟩ := Ru.twice_iff.1 h;rw [HZ.out j (by omega)] at hp
        cases hp)
       clear HIN HX HZ HF2;go_wp2;go_ret;exact ⟨ret_eq (by rw [HQ.out];rfl),hB⟩
end
section
open Go.RowKit Go.Shelf Go.Lib
theorem Zgw (w : World) (c : Int) : Calls Tryz.prog 79 #[.int .i64 c] w fun e w' => e = .returned (.agg #[.int .i64 c,.int .i64 (-1)]) /\ Below w.heap.size w w' := by
 go_enter Tryz.func79,Tryz.ntmps79
 go_wp2;refine bodyPost_ret (v := .agg #[.int .i64 c,.int .i64 (-1)]) ?_ rfl ⟨rfl,?_⟩
 ·simp [results,Tryz.f79,go_sem]
 ·exact (Below.refl _ w).alloc (Nat.le_refl _) _
theorem Zow (w : World) : Calls Tryz.prog 123 #[] w fun e w' => e = .returned (.agg #[.int .i64 0,.int .i64 (-1)]) /\ Below w.heap.size w w' := by
 go_enter Tryz.func123,Tryz.ntmps123
 go_wp2;refine bodyPost_ret (v := .agg #[.int .i64 0,.int .i64 (-1)]) ?_ rfl ⟨rfl,?_⟩
 ·simp [results,Tryz.f123,go_sem]
 ·exact (Below.refl _ w).alloc (Nat.le_refl _) _
theorem Zbw {W : World} {b : Nat} {x0 x1 : Value} {t : TypeId} (h : W.heap[b]? = some (.cells #[x0,x1] t (0,0))) (y0 y1 : Value) :
  ((W.setCell ⟨b,0,none⟩ y0).setCell ⟨b,1,none⟩ y1).cell? ⟨b,0,none⟩ = some y0 /\ ((W.setCell ⟨b,0,none⟩ y0).setCell ⟨b,1,none⟩ y1).cell? ⟨b,1,none⟩ = some y1 := by
 have e0 : W.cell? ⟨b,0,none⟩ = some x0 := Zac h rfl;have e1 : W.cell? ⟨b,1,none⟩ = some x1 := Zac h rfl;have o (V : World) (i j : Nat) (h : i ≠ j) (y : Value) : (V.setCell ⟨b,j,none⟩ y).cell? ⟨b,i,none⟩ = V.cell? ⟨b,i,none⟩ := World.cell?_setCell_other _ _ _ _ (fun e => h (by cases e;rfl))
 have t (V : World) (i : Nat) (x : Value) (h : V.cell? ⟨b,i,none⟩ = some x) (y : Value) : (V.setCell ⟨b,i,none⟩ y).cell? ⟨b,i,none⟩ = some y := World.cell?_setCell_same' _ _ _ (by rw [h];rfl)
 exact ⟨by rw [o _ 0 1 (by decide)];exact t _ 0 x0 e0 _,t _ 1 x1 (by rw [o _ 1 0 (by decide)];exact e1) _⟩
theorem Zgk {w : World} (v : Value) (l : List Ru) (hrow : RRow w v l) (hl : l.length <= 1000) (hS : ∀ x ∈ l,x.Small) :
  Calls Tryz.prog 47 #[v] w fun e w' => e = .returned (.agg #[.int .i64 ((Ru.fault l).1 : Nat),.int .i64 (Ru.fault l).2]) /\ Below w.heap.size w w' := by
 have HBare := hid1 fun W c => Zgw W c
 have HFine := hid1 Zow;have zl : (l.length : Int) <= 1000 := by omega
 have hB0 : Below w.heap.size w (w.alloc (.cells #[.int .i64 0,.int .i64 0] 75)) := (Below.refl _ w).alloc (Nat.le_refl _) _;have hr0 : (w.alloc (.cells #[.int .i64 0,.int .i64 0] 75)).heap[w.heap.size]? = some (.cells #[.int .i64 0,.int .i64 0] 75 (0,0)) := by
  show (w.heap.push _)[w.heap.size]? = _
  simp
 have HB0 := hid1 hB0;have HR0 := hid1 hr0;clear hB0 hr0;obtain ⟨p,cap,rfl,hcap,hnn,hin⟩ := hrow;have HI := hid1 hin;have HS := hid1 hS;clear hin hnn hS;by_cases h40 : 40 < l.length
 ·rw [Ru.fault_many h40];have z1 : (40 : Int) < (l.length : Int) := by omega
  go_enter Tryz.func47,Tryz.ntmps47
  go_wp2_with fail;refine (HBare.out _ 2).mono ?_;rintro e w1 ⟨rfl,hb⟩;have g1 := Zab HB0.out hb;have r1 := Zav HR0.out hb;have k0 := Zac (j := 0) r1 rfl;have k1 := Zac (j := 1) r1 rfl;have f0 : w1.frozen? ⟨w.heap.size,0,none⟩ = false := by simp [World.frozen?,r1]
  have f1 : w1.frozen? ⟨w.heap.size,1,none⟩ = false := by simp [World.frozen?,r1]
  have q := hid1 (Zbw r1 (.int .i64 2) (.int .i64 (-1)));clear hb r1;go_wp2;refine bodyPost_ret (v := .agg #[.int .i64 2,.int .i64 (-1)]) ?_ rfl ⟨rfl,?_⟩
  ·obtain ⟨q0,q1⟩ := q.out;simp [results,Tryz.f47,go_sem,q0,q1]
  ·exact (g1.setCell (p := ⟨w.heap.size,0,none⟩) (Nat.le_refl _) _).setCell (p := ⟨w.heap.size,1,none⟩) (Nat.le_refl _) _
 ·have z1 : (l.length : Int) <= (40 : Int) := by omega
  have HF0 : Hid ((∀ j,j < l.length -> Ru.errAt l j = 0) -> Ru.fault l = (0,-1)) := hid1 fun h => Ru.fault_none (by omega) h
  have HF1 : Hid (∀ m,m < l.length -> Ru.errAt l m ≠ 0 -> (∀ j,j < m -> Ru.errAt l j = 0) -> Ru.fault l = (Ru.errAt l m,(m : Int))) := hid1 fun m h1 h2 h3 => Ru.fault_some (by omega) h1 h2 h3
  have HSize : Hid (w.heap.size < (w.alloc (.cells #[.int .i64 0,.int .i64 0] 75)).heap.size) := hid1 (by simp)
  generalize Ru.fault l = F at *;go_enter Tryz.func47,Tryz.ntmps47
  go_wp2;go_loopw [3] (fun i wr => ∃ k : Nat,k <= l.length /\ i = .int .i64 k /\ (∀ j,j < k -> Ru.errAt l j = 0) /\ Below w.heap.size w wr /\ wr.heap[w.heap.size]? = some (.cells #[.int .i64 0,.int .i64 0] 75 (0,0))) (fun i _ => l.length - (intOf i).toNat)
  case atStart => exact ⟨0,Nat.zero_le _,rfl,fun j h => by omega,HB0.out,HR0.out⟩
  case round =>
   obtain ⟨k,hk,rfl,hz,hB,hr⟩ := hrel;have HZ := hid1 hz;have HR := hid1 hr;clear hz hr HB0 HR0;have c0 : (0 : Int) <= (k : Int) := by omega
   by_cases hlt : k < l.length
   ·have c1 : (k : Int) < (l.length : Int) := by omega
    obtain ⟨g',o,rfl,hg,hcur⟩ := HI.out (by intro e;rw [e] at hlt;simp at hlt)
    obtain ⟨u0,u1,u2,u,u3,ux⟩ := hcur k hlt;have HCUR := hid1 hcur;have d0 := Zaa u0 hB;have d1 := Zaa u1 hB;have d2 := Zaa u2 hB;have d3 := Zaa u3 hB;have HE := hid1 (Zif l[k] (HS.out _ (List.getElem_mem hlt)) u (ux.below hB));have HQ := hid1 (Ru.errAt_eq hlt);have HU := hid1 ux
    have HGet : Hid (∀ m (hm : m < l.length) W,Below w.heap.size w W -> W.cell? ⟨g',o + m * 4,none⟩ = some (.string (ba l[m].out))) := hid1 fun m hm W hW => Zaa (hcur m hm).1 hW
    clear hcur HI HS ux u0 u1 u2 u3 HCUR;have HO := hid1 (rfl : l[k] = l[k]);generalize hy : l[k] = y at d0 d1 d2 d3 HE HQ HU;have HY := hid1 hy;clear hy HO;have HX : Hid (∀ c m,m <= k -> c = (if y.err ≠ 0 then y.err else if y.out ∈ (l.take m).map Ru.out then 7 else 0) -> (c ≠ 0 \/ m = k) -> Ru.errAt l k = c) := hid1 fun c m hm hc hor => by
     rw [HQ.out];by_cases h0 : y.err ≠ 0
     ·rw [if_pos h0] at hc ⊢;exact hc.symm
     ·rw [if_neg h0] at hc ⊢;rcases hor with h | h
      ·by_cases hin : y.out ∈ (l.take m).map Ru.out
       ·rw [if_pos hin] at hc;have : y.out ∈ (l.take k).map Ru.out := by
         obtain ⟨x,hx,e⟩ := List.mem_map.1 hin;exact List.mem_map.2 ⟨x,(List.take_sublist_take_left hm).subset hx,e⟩
        rw [if_pos this,hc]
       ·rw [if_neg hin] at hc;exact absurd hc h
      ·rw [<- h];exact hc.symm
    have HStep : Hid (∀ m (hm : m < k),(if y.err ≠ 0 then y.err else if y.out ∈ (l.take m).map Ru.out then 7 else 0) = 0 -> (l[m].out = y.out -> (if y.err ≠ 0 then y.err else if y.out ∈ (l.take (m + 1)).map Ru.out then 7 else 0) = 7) /\ (l[m].out ≠ y.out -> (if y.err ≠ 0 then y.err else if y.out ∈ (l.take (m + 1)).map Ru.out then 7 else 0) = 0)) := hid1 fun m hm h => by
     have h0 : ¬ y.err ≠ 0 := by
      intro h0
      rw [if_pos h0] at h;exact h0 h
     rw [if_neg h0] at h ⊢;have hni : y.out ∉ (l.take m).map Ru.out := by
      intro hi
      rw [if_pos hi] at h;cases h
     rw [List.take_succ_eq_append_getElem (by omega),List.map_append]
     constructor
     ·intro e
      rw [if_pos (by simp [e])]
     ·intro e
      rw [if_neg];simp only [List.mem_append,List.map_cons,List.map_nil,List.mem_singleton,not_or];exact ⟨hni,fun e2 => e e2.symm⟩
    obtain ⟨p3,cap3,rfl,-⟩ := HU.out;go_wp2_with fail;refine HE.out.mono ?_;rintro e w1 ⟨rfl,hb⟩;have g1 := Zab hB hb;have HR1 := hid1 (Zav HR.out hb);clear hb HE d0 d1 d2 d3 HU HR;go_wp2
    go_loopw [4,5] (fun e kk wx => ∃ (c m : Nat),m <= k /\ e = .int .i64 c /\ kk = .int .i64 m /\ c = (if y.err ≠ 0 then y.err else if y.out ∈ (l.take m).map Ru.out then 7 else 0) /\ ∃ q,wx = w1.drewN q) (fun _ kk _ => k - (intOf kk).toNat)
    case atStart => exact ⟨y.err,0,Nat.zero_le _,rfl,rfl,by simp,0,rfl⟩
    case round =>
     obtain ⟨c,m,hm,rfl,rfl,hc,q,rfl⟩ := hrel;have m0 : (0 : Int) <= (m : Int) := by omega
     have HCm := hid1 hc;by_cases hc0 : c = 0
     ·by_cases hmk : m < k
      ·have z2 : (m : Int) < (k : Int) := by omega
       have hcm := HGet.out m (by omega) w1 g1
       have hck := HGet.out k hlt w1 g1;rw [HY.out] at hck;have HS2 := hid1 (HStep.out m hmk (hc.symm.trans hc0));clear hc HCm;subst hc0;generalize l[m] = x at *;by_cases he : x.out = y.out
       ·have b1 : (x.out == y.out) = true := by simpa using he
        have HS3 := hid1 (HS2.out.1 he);clear HS2 he;go_wp2;go_region
        all_goals
         go_wp2;exact ⟨⟨7,m + 1,by omega,rfl,by go_num,HS3.out.symm,q + 1,rfl⟩,by simp [intOf];omega⟩
       ·have b1 : (x.out == y.out) = false := by simpa using he
        have HS3 := hid1 (HS2.out.2 he);clear HS2 he;go_wp2;go_region
        all_goals
         go_wp2;exact ⟨⟨0,m + 1,by omega,rfl,by go_num,HS3.out.symm,q + 1,rfl⟩,by simp [intOf];omega⟩
      ·have z2 : (k : Int) <= (m : Int) := by omega
       obtain rfl : m = k := by omega
       have hE0 := HX.out c m (Nat.le_refl _) hc (.inr rfl);have HN : Hid (∀ j,j < m + 1 -> Ru.errAt l j = 0) := hid1 fun j hj => by
        rcases Nat.lt_or_ge j m with h | h
        ·exact HZ.out j h
        ·obtain rfl : j = m := by omega
         rw [hE0,hc0]
       clear hc HCm hE0;subst hc0;go_wp2;exact ⟨⟨m + 1,by omega,by go_num,HN.out,Zad g1 q,HR1.out⟩,by simp [intOf];omega⟩
     ·have z3 : ((c : Int) == 0) = false := by simp;omega
      have z4 : (0 : Int) < (c : Int) := by omega
      have hE0 := HX.out c m hm hc (.inl hc0);have HFt := hid1 (HF1.out k hlt (by rw [hE0];exact hc0) HZ.out)
      rw [hE0] at HFt;have r1 : (w1.drewN q).heap[w.heap.size]? = _ := HR1.out;have k0 := Zac (j := 0) r1 rfl;have k1 := Zac (j := 1) r1 rfl;have f0 : (w1.drewN q).frozen? ⟨w.heap.size,0,none⟩ = false := by simp [World.frozen?,HR1.out]
      have f1 : (w1.drewN q).frozen? ⟨w.heap.size,1,none⟩ = false := by simp [World.frozen?,HR1.out]
      have qq := hid1 (Zbw r1 (.int .i64 c) (.int .i64 k));have g2 := Zad g1 q;clear hc HCm r1 hE0 HX HGet HStep HF0 HF1 HZ hc0 g1 HR1;generalize w1.drewN q = w5 at *;by_cases hmk : m < k
      ·have z2 : (m : Int) < (k : Int) := by omega
       go_wp2;refine bodyPost_ret (v := .agg #[.int .i64 c,.int .i64 k]) ?_ rfl ⟨by cases HFt.out;rfl,?_⟩
       ·obtain ⟨q0,q1⟩ := qq.out;simp [results,Tryz.f47,go_sem,q0,q1]
       ·exact (g2.setCell (p := ⟨w.heap.size,0,none⟩) (Nat.le_refl _) _).setCell (p := ⟨w.heap.size,1,none⟩) (Nat.le_refl _) _
      ·have z2 : (k : Int) <= (m : Int) := by omega
       go_wp2;refine bodyPost_ret (v := .agg #[.int .i64 c,.int .i64 k]) ?_ rfl ⟨by cases HFt.out;rfl,?_⟩
       ·obtain ⟨q0,q1⟩ := qq.out;simp [results,Tryz.f47,go_sem,q0,q1]
       ·exact (g2.setCell (p := ⟨w.heap.size,0,none⟩) (Nat.le_refl _) _).setCell (p := ⟨w.heap.size,1,none⟩) (Nat.le_refl _) _
   ·have c1 : (l.length : Int) <= (k : Int) := by omega
    have HN : Hid (F = (0,-1)) := hid1 (HF0.out fun j hj => HZ.out j (by omega))
    clear HI HZ HF0 HF1 HS;go_wp2_with fail;refine (HFine.out _).mono ?_;rintro e w1 ⟨rfl,hb⟩;have g1 := Zab hB hb;have r1 := Zav HR.out hb;have k0 := Zac (j := 0) r1 rfl;have k1 := Zac (j := 1) r1 rfl;have f0 : w1.frozen? ⟨w.heap.size,0,none⟩ = false := by simp [World.frozen?,r1]
    have f1 : w1.frozen? ⟨w.heap.size,1,none⟩ = false := by simp [World.frozen?,r1]
    have q := hid1 (Zbw r1 (.int .i64 0) (.int .i64 (-1)));clear hb r1 HR;go_wp2;refine bodyPost_ret (v := .agg #[.int .i64 0,.int .i64 (-1)]) ?_ rfl ⟨by cases HN.out;rfl,?_⟩
    ·obtain ⟨q0,q1⟩ := q.out;simp [results,Tryz.f47,go_sem,q0,q1]
    ·exact (g1.setCell (p := ⟨w.heap.size,0,none⟩) (Nat.le_refl _) _).setCell (p := ⟨w.heap.size,1,none⟩) (Nat.le_refl _) _
end
section
open Go.RowKit Go.Shelf Go.Lib
namespace Ru
theorem fault_zero {l : List Ru} (h : (fault l).1 = 0) : fault l = (0,-1) := by
 unfold fault at h ⊢;split
 ·rename_i h0
  rw [if_pos h0] at h;cases h
 ·rename_i h0
  rw [if_neg h0] at h;split
  ·rename_i k hk
   rw [hk] at h;exact absurd h (Zcm hk)
  ·rfl
theorem Zfz {f g done : Nat -> Bool} : ∀ {m : Nat},(∀ k,k < m -> f k = g k) -> leftTo f done m = leftTo g done m
 | 0,_ => rfl
 | m + 1,h => by
  rw [leftTo_succ,leftTo_succ,Zfz fun k hk => h k (by omega),h m (by omega)]
theorem Zfy {l : List Ru} {f g done : Nat -> Bool} : ∀ {m : Nat},(∀ k,k < m -> f k = g k) -> nextTo l f done m = nextTo l g done m
 | 0,_ => rfl
 | m + 1,h => by
  have e : may l f done m = may l g done m := by unfold may;rw [h m (by omega)]
  rw [nextTo_succ,nextTo_succ,Zfy fun k hk => h k (by omega),e]
theorem Zfx {l : List Ru} {f g : Nat -> Bool} (h : ∀ k,k < l.length -> f k = g k) : ∀ (n : Nat) (o : List Nat),orderF l f n o = orderF l g n o
 | 0,_ => rfl
 | n + 1,o => by
  unfold orderF;rw [Zfz h,Zfy h];split
  ·split
   ·rfl
   ·exact Zfx h n _
  ·rfl
theorem order_congr {l : List Ru} {f g : Nat -> Bool} (h : ∀ k,k < l.length -> f k = g k) : order l f = order l g := Zfx h _ _
end Ru
def Zdt (l : List Ru) (outs : List (List UInt8)) (f : Nat × Int) : Prop :=
 ((Ru.fault l).1 ≠ 0 /\ f = Ru.fault l) \/
 ((Ru.fault l).1 = 0 /\ ∃ k,∃ hk : k < outs.length,(∀ x ∈ l,x.out ≠ outs[k]) /\ (∀ j (hj : j < outs.length),j < k -> ∃ x ∈ l,x.out = outs[j]) /\ f = (6,(k : Int))) \/
 ((Ru.fault l).1 = 0 /\ (∀ j (hj : j < outs.length),∃ x ∈ l,x.out = outs[j]) /\ Ru.order l (Bf.need l outs) = none /\ f = (9,-1)) \/
 ((Ru.fault l).1 = 0 /\ (∀ j (hj : j < outs.length),∃ x ∈ l,x.out = outs[j]) /\ (Ru.order l (Bf.need l outs)).isSome = true /\ f = (0,-1))
theorem Zgl {w : World} (v : Value) (l : List Ru) (hrow : RRow w v l) (hn : l.length <= 1000) (hS : ∀ x ∈ l,x.Small) (vo : Value) (outs : List (List UInt8)) (hro : IRow w vo outs) (hno : outs.length <= 1000) :
  Calls Tryz.prog 69 #[v,vo] w fun e w' => ∃ f : Nat × Int,e = .returned (.agg #[.int .i64 (f.1 : Nat),.int .i64 f.2]) /\ Zdt l outs f /\ Below w.heap.size w w' := by
 have hI : ∀ x ∈ l,x.ins.length <= 1000000 := fun x hx => by have := (hS x hx).many;omega
 have hB0 : Below w.heap.size w (w.alloc (.cells #[.int .i64 0,.int .i64 0] 75)) := (Below.refl _ w).alloc (Nat.le_refl _) _;have hr0 : (w.alloc (.cells #[.int .i64 0,.int .i64 0] 75)).heap[w.heap.size]? = some (.cells #[.int .i64 0,.int .i64 0] 75 (0,0)) := by
  show (w.heap.push _)[w.heap.size]? = _
  simp
 have HB0 := hid1 hB0;have HR0 := hid1 hr0;have HF := hid1 (Zgk v l (hrow.below hB0) hn hS);have HN := hid1 fun (V : World) (g : Below w.heap.size w V) => Zea v l (hrow.below g) hn hI vo outs (hro.below g) hno
 have HO := hid1 fun (V : World) (g : Below w.heap.size w V) gs cs sm hs => Zlv v l (hrow.below g) hn hI gs cs sm hs
 have HB := hid1 fun (V : World) (c : Int) => Zgw V c
 clear hrow hro hB0 hr0;generalize hW0 : w.alloc (.cells #[.int .i64 0,.int .i64 0] 75) = W0 at *;by_cases hf : (Ru.fault l).1 = 0
 ·have HFt : Hid ((Ru.fault l).1 = 0) := hid1 hf;have hfz := Ru.fault_zero hf;rw [hfz] at HF;clear hf hfz;go_enter Tryz.func69,Tryz.ntmps69
  go_wp2_with fail;refine HF.out.mono ?_;rintro e w1 ⟨rfl,g1⟩;have a1 : Below w1.heap.size w1 (w1.alloc (.cells #[.int .i64 0,.int .i64 (-1)] 75)) := (Below.refl _ w1).alloc (Nat.le_refl _) _;have X1 := Zab g1 a1;have G1 := Zab HB0.out X1;have b0 : (w1.alloc (.cells #[.int .i64 0,.int .i64 (-1)] 75)).cell? ⟨w1.heap.size,0,none⟩ = some (.int .i64 0) := by simp
  have b1 : (w1.alloc (.cells #[.int .i64 0,.int .i64 (-1)] 75)).cell? ⟨w1.heap.size,1,none⟩ = some (.int .i64 (-1)) := by simp
  have HC0 := hid1 b0;have HC1 := hid1 b1;have HN1 := hid1 (HN.out _ G1);have HX1 := hid1 X1;clear HF HN b1 g1 a1 X1;generalize hw2 : w1.alloc (.cells #[.int .i64 0,.int .i64 (-1)] 75) = W1 at *;go_wp2_with fail;refine HN1.out.mono ?_;rintro e w2 ⟨u,r,rfl,g2,hr⟩;have G2 := Zab G1 g2;have X2 := Zab HX1.out g2;clear HN1;rcases hr with ⟨k,rfl,hk,h1,h2,rfl⟩ | ⟨rfl,h1,g,f,rfl,hO,hN⟩
  ·have HQ : Hid (Zdt l outs (6,(k : Int))) := hid1 (.inr (.inl ⟨HFt.out,k,hk,h1,h2,rfl⟩));have k0 : (0 : Int) <= (k : Int) := by omega
   clear h1 h2;have rr := Zav HR0.out X2;have z0 := Zac (j := 0) rr rfl;have z1 := Zac (j := 1) rr rfl;have f0 : (w2).frozen? ⟨w.heap.size,0,none⟩ = false := by simp [World.frozen?,rr]
   have f1 : (w2).frozen? ⟨w.heap.size,1,none⟩ = false := by simp [World.frozen?,rr]
   have qq := hid1 (Zbw rr (.int .i64 6) (.int .i64 (k : Int)));clear rr;go_wp2;refine bodyPost_ret (v := .agg #[.int .i64 6,.int .i64 (k : Int)]) ?_ rfl ⟨(6,(k : Int)),rfl,HQ.out,?_⟩
   ·obtain ⟨q0,q1⟩ := qq.out;simp [results,Tryz.f69,go_sem,q0,q1]
   ·exact (G2.setCell (p := ⟨w.heap.size,0,none⟩) (Nat.le_refl _) _).setCell (p := ⟨w.heap.size,1,none⟩) (Nat.le_refl _) _
  ·have HO2 := hid1 (HO.out w2 G2 g l.length f fun j hj => hO.cell hj)
   have he : Ru.order l f = Ru.order l (Bf.need l outs) := Ru.order_congr fun k hk => (Bf.need_eq hN hk).symm
   rw [he] at HO2;have H1 := hid1 h1;clear he h1 hO hN HO;go_wp2_with fail;refine HO2.out.mono ?_;rintro e w3 ⟨u3,b3,rfl,g3,h3⟩;have G3 := Zab G2 g3;have X3 := Zab X2 g3;have d0 := Zaa (Zaa HC0.out g2) g3;have d1 := Zaa (Zaa HC1.out g2) g3;clear HO2;rcases h3 with ⟨rfl,rfl,h3⟩ | ⟨o,rfl,h3,-⟩
   ·have HQ : Hid (Zdt l outs (9,-1)) := hid1 (.inr (.inr (.inl ⟨HFt.out,H1.out,h3,rfl⟩)));have HBn := hid1 (HB.out w3 9);clear h3;go_wp2_with fail;refine HBn.out.mono ?_;rintro e w4 ⟨rfl,g4⟩;have G4 := Zab G3 g4;have X4 := Zab X3 g4;clear HBn;have rr := Zav HR0.out X4;have z0 := Zac (j := 0) rr rfl;have z1 := Zac (j := 1) rr rfl
    have f0 : (w4).frozen? ⟨w.heap.size,0,none⟩ = false := by simp [World.frozen?,rr]
    have f1 : (w4).frozen? ⟨w.heap.size,1,none⟩ = false := by simp [World.frozen?,rr]
    have qq := hid1 (Zbw rr (.int .i64 9) (.int .i64 (-1)));clear rr;go_wp2;refine bodyPost_ret (v := .agg #[.int .i64 9,.int .i64 (-1)]) ?_ rfl ⟨(9,(-1)),rfl,HQ.out,?_⟩
    ·obtain ⟨q0,q1⟩ := qq.out;simp [results,Tryz.f69,go_sem,q0,q1]
    ·exact (G4.setCell (p := ⟨w.heap.size,0,none⟩) (Nat.le_refl _) _).setCell (p := ⟨w.heap.size,1,none⟩) (Nat.le_refl _) _
   ·have HQ : Hid (Zdt l outs (0,-1)) := hid1 (.inr (.inr (.inr ⟨HFt.out,H1.out,by rw [h3];rfl,rfl⟩)))
    clear h3;have rr := Zav HR0.out X3;have z0 := Zac (j := 0) rr rfl;have z1 := Zac (j := 1) rr rfl;have f0 : (w3).frozen? ⟨w.heap.size,0,none⟩ = false := by simp [World.frozen?,rr]
    have f1 : (w3).frozen? ⟨w.heap.size,1,none⟩ = false := by simp [World.frozen?,rr]
    have qq := hid1 (Zbw rr (.int .i64 0) (.int .i64 (-1)));clear rr;go_wp2;refine bodyPost_ret (v := .agg #[.int .i64 0,.int .i64 (-1)]) ?_ rfl ⟨(0,(-1)),rfl,HQ.out,?_⟩
    ·obtain ⟨q0,q1⟩ := qq.out;simp [results,Tryz.f69,go_sem,q0,q1]
    ·exact (G3.setCell (p := ⟨w.heap.size,0,none⟩) (Nat.le_refl _) _).setCell (p := ⟨w.heap.size,1,none⟩) (Nat.le_refl _) _
 ·have HQ : Hid (Zdt l outs (Ru.fault l)) := hid1 (.inl ⟨hf,rfl⟩);have zf : (0 : Int) < ((Ru.fault l).1 : Int) := by omega
  generalize Ru.fault l = ff at *;obtain ⟨fc,fa⟩ := ff;clear hf HN HO HB;go_enter Tryz.func69,Tryz.ntmps69
  go_wp2_with fail;refine HF.out.mono ?_;rintro e w1 ⟨rfl,g1⟩;have a1 : Below w1.heap.size w1 (w1.alloc (.cells #[.int .i64 fc,.int .i64 fa] 75)) := (Below.refl _ w1).alloc (Nat.le_refl _) _;have X1 := Zab g1 a1;have G1 := Zab HB0.out X1;clear HF g1 a1;have rr := Zav HR0.out X1;have z0 := Zac (j := 0) rr rfl;have z1 := Zac (j := 1) rr rfl
  have f0 : (w1.alloc (.cells #[.int .i64 fc,.int .i64 fa] 75)).frozen? ⟨w.heap.size,0,none⟩ = false := by simp [World.frozen?,rr]
  have f1 : (w1.alloc (.cells #[.int .i64 fc,.int .i64 fa] 75)).frozen? ⟨w.heap.size,1,none⟩ = false := by simp [World.frozen?,rr]
  have qq := hid1 (Zbw rr (.int .i64 (fc : Nat)) (.int .i64 fa));clear rr;go_wp2;refine bodyPost_ret (v := .agg #[.int .i64 (fc : Nat),.int .i64 fa]) ?_ rfl ⟨(fc,fa),rfl,HQ.out,?_⟩
  ·obtain ⟨q0,q1⟩ := qq.out;simp [results,Tryz.f69,go_sem,q0,q1]
  ·exact (G1.setCell (p := ⟨w.heap.size,0,none⟩) (Nat.le_refl _) _).setCell (p := ⟨w.heap.size,1,none⟩) (Nat.le_refl _) _
end
end Go.Proofs.YtbgkfmodbofalaaGreatDoor
