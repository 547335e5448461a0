import Derived.Test.YtbgkfmodbofalaaGreatDoorPR16
set_option maxRecDepth 100000
set_option maxHeartbeats 8000000
namespace Go.Proofs.YtbgkfmodbofalaaGreatDoor
open Go.RowKit Go.Shelf Go.Lib
theorem Zfh {w : World} (v : Value) (ls : List (List UInt8)) (many most : Nat) (hmany : many <= 1000000) (hmost : most <= 1000000) (hrow : IRow w v ls) :
  Calls Tryz.prog 34 #[v,.int .i64 many,.int .i64 most] w fun e w' => ∃ r : Int,e = .returned (.int .i64 r) /\ w' = w /\ (r = 1 \/ (r = 0 /\ ls.length <= many /\ ∀ x ∈ ls,x.length <= most)) := by
 obtain ⟨p,cap,rfl,hin⟩ := hrow;have zM : (most : Int) <= 1000000 := by omega
 have zN : (many : Int) <= 1000000 := by omega
 have HI := hid1 hin;clear hin;by_cases h12 : ls.length <= many
 ·have z12 : (ls.length : Int) <= (many : Int) := by omega
  go_enter Tryz.func34,Tryz.ntmps34
  go_wp2;go_loopw [7,8] (fun n i wr => ∃ k m : Nat,k <= ls.length /\ m <= most /\ n = .int .i64 m /\ i = .int .i64 k /\ (∀ j (hj : j < ls.length),j < k -> ls[j].length <= most) /\ w = wr) (fun _ i _ => ls.length - (intOf i).toNat)
  case atStart => exact ⟨0,0,Nat.zero_le _,Nat.zero_le _,rfl,rfl,fun j hj h => by omega,rfl⟩
  case round =>
   obtain ⟨k,m,hk,hm,rfl,rfl,hall,rfl⟩ := hrel;have HA := hid1 hall;clear hall;have c0 : (0 : Int) <= (k : Int) := by omega
   have zm : (m : Int) <= (most : Int) := by omega
   have q8 : IntKind.i64.wrap (k : Int) = (k : Int) := by rw [IntKind.wrap_i64];omega
   by_cases hlt : k < ls.length
   ·have c1 : (k : Int) < (ls.length : Int) := by omega
    obtain ⟨g,o,rfl,hg,hcur⟩ := HI.out (by intro e;rw [e] at hlt;simp at hlt)
    have hcell := hcur k hlt;have HS : Hid (ls[k].length <= most -> ∀ j (hj : j < ls.length),j < k + 1 -> ls[j].length <= most) := by
     refine hid1 fun h j hj hjk => ?_
     by_cases e : j = k
     ·subst e;exact h
     ·exact HA.out j hj (by omega)
    clear hcur HI HA;generalize ls[k] = y at *;by_cases hy : y.length <= most
    ·have zy : (y.length : Int) <= (most : Int) := by omega
     have HN := hid1 (HS.out hy);clear HS;have q7 : IntKind.i64.wrap ((m : Int) + (y.length : Int)) = ((m + y.length : Nat) : Int) := by rw [IntKind.wrap_i64];omega
     by_cases hs : m + y.length <= most
     ·have zs : ((m + y.length : Nat) : Int) <= (most : Int) := by omega
      generalize hmy : m + y.length = m1 at *;clear hmy;go_wp2;exact ⟨⟨k + 1,m1,by omega,hs,rfl,by go_num,HN.out,trivial⟩,by simp [intOf];omega⟩
     ·have zs : (most : Int) < ((m + y.length : Nat) : Int) := by omega
      generalize hmy : m + y.length = m1 at *;clear hmy;go_wp2;go_ret;exact ⟨1,rfl,rfl,.inl rfl⟩
    ·have zy : (most : Int) < (y.length : Int) := by omega
     clear HS;go_wp2;go_ret;exact ⟨1,rfl,rfl,.inl rfl⟩
   ·obtain rfl : k = ls.length := by omega
    have c1 : ¬ (ls.length : Int) < (ls.length : Int) := by omega
    have HF : Hid (∀ x ∈ ls,x.length <= most) := by
     refine hid1 fun x hx => ?_
     obtain ⟨j,hj,rfl⟩ := List.getElem_of_mem hx;exact HA.out j hj hj
    clear HI HA;go_wp2;go_ret;exact ⟨0,rfl,rfl,.inr ⟨rfl,HF.out⟩⟩
 ·have z12 : (many : Int) < (ls.length : Int) := by omega
  go_enter Tryz.func34,Tryz.ntmps34
  go_wp2;go_ret;exact ⟨1,rfl,rfl,.inl rfl⟩
theorem Zoj (w : World) :
  Calls Tryz.prog 36 #[.slice none 0 0] w fun e w' => ∃ v',e = .returned v' /\ XRow w' v' [] /\ TRow w' v' [] /\ Below w.heap.size w w' := by
 obtain ⟨i0,hi,hz0,hz1,hz2⟩ := info_parts Tryz.infoStr;have n1 : World.ownsRow w w.heap.size 9 1 (.slice none 0 0) 0 [] := World.ownsRow_nil _ _ _ _;go_enter Tryz.func36,Tryz.ntmps36
 go_wp2_with (first
  | (at_builtin;refine wpList_append_own_none rfl _ _ 45 rfl w.heap.size 9 i0 1 Tryz.underlying45 hi _ _ _ rfl n1 rfl ?_)
  | go_in)
 go_ret;exact ⟨_,rfl,XRow.of_owns (l := []) n1,TRow.of_owns (l := []) n1,Below.refl _ _⟩
theorem Zlu (w : World) (a : Addr) (cap : Nat) (ls : List (List UInt8)) (hn : ls.length <= 12) (hsrc : ∀ j u,(ls.map sv)[j]? = some u -> w.cell? (a.add j) = some u) :
  Calls Tryz.prog 36 #[.slice (some a) ls.length cap] w fun e w' => ∃ v',e = .returned v' /\ XRow w' v' ls /\ TRow w' v' ls /\ Below w.heap.size w w' := by
 obtain ⟨i0,hi,hz0,hz1,hz2⟩ := info_parts Tryz.infoStr;have n1 : World.ownsRow w w.heap.size 9 1 (.slice none 0 0) 0 [] := World.ownsRow_nil _ _ _ _;go_enter Tryz.func36,Tryz.ntmps36
 go_wp2_with (first
  | (at_builtin;refine wpList_append_own _ rfl _ _ 45 rfl w.heap.size 9 i0 (.string ⟨#[]⟩) 1 16 Tryz.underlying45 hi hz0 hz1 hz2 rfl (by decide) _ _ _ rfl n1 a ls.length cap (ls.map sv) rfl (by simp) hsrc one_sv (by unfold maxLen;omega) (by omega) (Nat.le_refl _) ?_;intro v1 w1 hown1 hgrow1 _;have b1 := lay_b1 n1 hgrow1;clear hsrc n1 hgrow1)
  | go_in)
 go_ret;exact ⟨_,rfl,XRow.of_owns hown1,TRow.of_owns hown1,b1⟩
theorem Zkc {w : World} (v : Value) (ls : List (List UInt8)) (hrow : XRow w v ls) (h12 : ls.length <= 12) :
  Calls Tryz.prog 36 #[v] w fun e w' => ∃ v',e = .returned v' /\ XRow w' v' ls /\ TRow w' v' ls /\ Below w.heap.size w w' := by
 have hx := hrow.irow;have hv := hrow.shape;obtain ⟨p,cap,rfl,hin⟩ := hx;rcases hv with e | ⟨a,n,c,e⟩
 ·obtain ⟨rfl,e2,rfl⟩ : p = none /\ ls.length = 0 /\ cap = 0 := by simpa using e
  obtain rfl := List.length_eq_zero_iff.1 e2;exact Zoj w
 ·obtain ⟨rfl,rfl,rfl⟩ : p = some a /\ ls.length = n /\ cap = c := by simpa using e
  refine Zlu w a cap ls h12 fun j u hj => ?_
  have hjl : j < ls.length := by simpa using (List.getElem?_eq_some_iff.1 hj).1
  obtain ⟨g,o,e1,hg,hcur⟩ := hin (by intro e;rw [e] at hjl;simp at hjl)
  obtain rfl := Option.some.inj e1;rw [List.getElem?_map,List.getElem?_eq_getElem hjl] at hj
  simp only [Option.map_some,Option.some.injEq] at hj;rw [<- hj,Zct];exact hcur j hjl
theorem kadd (a b : List UInt8) (h : a.length + b.length <= 100000000) (W : World) : (Op.stringOp .add (ba a) (ba b)).run Tryz.prog W = .ok (.string (ba (a ++ b))) W := by
 rw [run_string_add_sum (P := Tryz.prog) W (ba a) (ba b) (by rw [Zam,Zam];omega),Zfe]
theorem piece_len (x : List UInt8) (h : x.length <= 5000) : (Kp.piece x).length <= x.length + 22 := by
 unfold Kp.piece;have := Zbd x.length (by omega)
 simp
 omega
theorem Zqo {W : World} (kind word : List UInt8) (v : Value) (ins : List (List UInt8)) (hrow : IRow W v ins) (hk : kind.length <= 200) (hw : word.length <= 200) (hn : ins.length <= 12) (hx : ∀ x ∈ ins,x.length <= 3000) :
  Calls Tryz.prog 139 #[.string (ba kind),.string (ba word),v] W fun e w' => e = .returned (.string (ba (Kp.key kind word ins))) /\ Below W.heap.size W w' := by
 obtain ⟨p,cap,rfl,hin⟩ := hrow;have HI := hid1 hin;clear hin;have zl : (ins.length : Int) <= 12 := by omega
 have HD := hid1 fun (n : Nat) (h : n <= 1000000) (X : World) => Zfi n h X
 have l1 := Zbd kind.length (by omega)
 have l2 := Zbd word.length (by omega)
 have zk : (kind.length : Int) <= 200 := by omega
 have zw : (word.length : Int) <= 200 := by omega
 obtain ⟨A1,hA1⟩ : ∃ x,x = Lib.decDigits kind.length := ⟨_,rfl⟩
 obtain ⟨A2,hA2⟩ : ∃ x,x = A1 ++ [58] := ⟨_,rfl⟩
 obtain ⟨A3,hA3⟩ : ∃ x,x = A2 ++ kind := ⟨_,rfl⟩
 obtain ⟨D2,hD2⟩ : ∃ x,x = Lib.decDigits word.length := ⟨_,rfl⟩
 obtain ⟨A4,hA4⟩ : ∃ x,x = A3 ++ D2 := ⟨_,rfl⟩
 obtain ⟨A5,hA5⟩ : ∃ x,x = A4 ++ [58] := ⟨_,rfl⟩
 obtain ⟨A6,hA6⟩ : ∃ x,x = A5 ++ word := ⟨_,rfl⟩
 rw [<- hA1] at l1;rw [<- hD2] at l2;have m2 : A2.length = A1.length + 1 := by rw [hA2];simp
 have m3 : A3.length = A2.length + kind.length := by rw [hA3];simp
 have m4 : A4.length = A3.length + D2.length := by rw [hA4];simp
 have m5 : A5.length = A4.length + 1 := by rw [hA5];simp
 have m6 : A6.length = A5.length + word.length := by rw [hA6];simp
 have s2 : ∀ X,(Op.stringOp .add (ba A1) ⟨#[58]⟩).run Tryz.prog X = .ok (.string (ba A2)) X := fun X => by rw [hA2];exact kadd A1 [58] (by simp;omega) X
 have s3 : ∀ X,(Op.stringOp .add (ba A2) (ba kind)).run Tryz.prog X = .ok (.string (ba A3)) X := fun X => by rw [hA3];exact kadd A2 kind (by omega) X
 have s4 : ∀ X,(Op.stringOp .add (ba A3) (ba D2)).run Tryz.prog X = .ok (.string (ba A4)) X := fun X => by rw [hA4];exact kadd A3 D2 (by omega) X
 have s5 : ∀ X,(Op.stringOp .add (ba A4) ⟨#[58]⟩).run Tryz.prog X = .ok (.string (ba A5)) X := fun X => by rw [hA5];exact kadd A4 [58] (by simp;omega) X
 have s6 : ∀ X,(Op.stringOp .add (ba A5) (ba word)).run Tryz.prog X = .ok (.string (ba A6)) X := fun X => by rw [hA6];exact kadd A5 word (by omega) X
 have HA : Hid (A6 = Kp.piece kind ++ Kp.piece word) := hid1 (by rw [hA6,hA5,hA4,hA3,hA2,hA1,hD2];unfold Kp.piece;simp)
 have hA6l : A6.length <= 500 := by omega
 have H1 := hid1 (HD.out kind.length (by omega) W)
 rw [<- hA1] at H1;have H2 := hid1 (HD.out word.length (by omega))
 rw [<- hD2] at H2;have HKey : Hid (Kp.key kind word ins = A6 ++ ins.flatMap Kp.piece) := hid1 (by rw [HA.out];rfl)
 have HX := hid1 hx;clear hA1 hA2 hA3 hA4 hA5 hA6 hD2 HA hx;go_enter Tryz.func139,Tryz.ntmps139
 go_wp2_with fail;refine H1.out.mono ?_;rintro e w1 ⟨rfl,g1⟩;clear H1;go_wp2_with fail;refine (H2.out w1).mono ?_;rintro e w2 ⟨rfl,g2⟩;have g3 := Zab g1 g2;clear H2 g1 g2;go_wp2;clear s2 s3 s4 s5 s6
 go_loopw [7,8] (fun ov iv wr => ∃ j : Nat,j <= ins.length /\ iv = .int .i64 j /\ ov = .string (ba (A6 ++ (ins.take j).flatMap Kp.piece)) /\ Below W.heap.size W wr) (fun _ iv _ => ins.length - (intOf iv).toNat)
 case atStart => exact ⟨0,Nat.zero_le _,rfl,by simp,g3⟩
 case round =>
  obtain ⟨j,hj,rfl,rfl,B⟩ := hrel;have j0 : (0 : Int) <= (j : Int) := by omega
  by_cases hlt : j < ins.length
  ·have j1 : (j : Int) < (ins.length : Int) := by omega
   obtain ⟨g,o,rfl,hg,hc⟩ := HI.out (by intro e;rw [e] at hlt;simp at hlt)
   have d0 := (B.cell (p := ⟨g,o + j,none⟩) hg).trans (hc j hlt);have hxl := HX.out _ (List.getElem_mem hlt);have hacc : ((ins.take j).flatMap Kp.piece).length <= j * 3022 := by
    have key : ∀ k,k <= ins.length -> ((ins.take k).flatMap Kp.piece).length <= k * 3022 := by
     intro k
     induction k with
     | zero => intro _;simp
     | succ k ih =>
      intro hk
      have h1 := ih (by omega)
      have h2 := piece_len ins[k] (by have := HX.out _ (List.getElem_mem (show k < ins.length by omega));omega)
      have h3 := HX.out _ (List.getElem_mem (show k < ins.length by omega))
      rw [List.take_succ_eq_append_getElem (by omega),List.flatMap_append,List.length_append]
      simp only [List.flatMap_cons,List.flatMap_nil,List.append_nil];omega
    exact key j (by omega)
   have HS : Hid (A6 ++ (ins.take (j + 1)).flatMap Kp.piece = A6 ++ (ins.take j).flatMap Kp.piece ++ Lib.decDigits ins[j].length ++ [58] ++ ins[j]) := hid1 (by
    rw [List.take_succ_eq_append_getElem hlt,List.flatMap_append];simp [Kp.piece])
   have hlx := Zbd ins[j].length (by omega)
   have HDx := hid1 fun X => HD.out ins[j].length (by omega) X
   clear hc HI;have hj10 : j * 3022 <= 36264 := by omega
   generalize ins[j] = y at *;have hout : (A6 ++ (ins.take j).flatMap Kp.piece).length <= 40000 := by rw [List.length_append];omega
   generalize A6 ++ (ins.take j).flatMap Kp.piece = t at *;obtain ⟨D,hD⟩ : ∃ x,x = Lib.decDigits y.length := ⟨_,rfl⟩
   obtain ⟨T1,hT1⟩ : ∃ x,x = t ++ D := ⟨_,rfl⟩
   obtain ⟨T2,hT2⟩ : ∃ x,x = T1 ++ [58] := ⟨_,rfl⟩
   obtain ⟨T3,hT3⟩ : ∃ x,x = T2 ++ y := ⟨_,rfl⟩
   rw [<- hD] at hlx HDx HS;have n1 : T1.length = t.length + D.length := by rw [hT1];simp
   have n2 : T2.length = T1.length + 1 := by rw [hT2];simp
   have s1 : ∀ X,(Op.stringOp .add (ba t) (ba D)).run Tryz.prog X = .ok (.string (ba T1)) X := fun X => by rw [hT1];exact kadd t D (by omega) X
   have s2 : ∀ X,(Op.stringOp .add (ba T1) ⟨#[58]⟩).run Tryz.prog X = .ok (.string (ba T2)) X := fun X => by rw [hT2];exact kadd T1 [58] (by simp;omega) X
   have s3 : ∀ X,(Op.stringOp .add (ba T2) (ba y)).run Tryz.prog X = .ok (.string (ba T3)) X := fun X => by rw [hT3];exact kadd T2 y (by omega) X
   rw [<- hT1,<- hT2,<- hT3] at HS;clear hD hT1 hT2 hT3;go_wp2;go_region_held3 (fun w' => w'.cell? ⟨g,o + j,none⟩ = some (.string (ba y))) (first | go_keep | fail)
    (first | (go_at_call 100;refine (HDx.out _).mono ?_;rintro e w5 ⟨rfl,g5⟩;have e0 := Zaa (w := wr.drew) d0 g5;have B5 := Zab B.drew g5) | fail)
   all_goals
    go_wp2;exact ⟨⟨j + 1,by omega,by go_num,by rw [HS.out],B5⟩,by simp [intOf];omega⟩
  ·have j1 : (ins.length : Int) <= (j : Int) := by omega
   obtain rfl : j = ins.length := by omega
   clear HI;rw [List.take_length];go_wp2;go_ret;exact ⟨ret_eq (by rw [HKey.out];rfl),B⟩
end Go.Proofs.YtbgkfmodbofalaaGreatDoor
