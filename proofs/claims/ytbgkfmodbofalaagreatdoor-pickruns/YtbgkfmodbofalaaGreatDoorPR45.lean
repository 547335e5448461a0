import Derived.Test.YtbgkfmodbofalaaGreatDoorPR44
set_option maxRecDepth 100000
set_option maxHeartbeats 8000000
namespace Go.Proofs.YtbgkfmodbofalaaGreatDoor
open Go.RowKit Go.Shelf Go.Lib
namespace Bf
end Bf
theorem Both.mono {B : Nat} {w : World} {T M : Nat} {fs : Tf.Fs} {o : Option Nat} {v : Value} (h : Both B w T M fs o v) : Both 0 w T M fs o v := by
 refine ⟨⟨Nat.zero_le _,h.t.cell,h.t.free,?_⟩,h.m.mono (Nat.zero_le _),h.well,h.tm,h.om,h.vt,h.ov⟩;have hm := h.t.isMap;cases o with
 | none => exact hm
 | some bm => exact ⟨Nat.zero_le _,hm.2.1,hm.2.2⟩
theorem Zvo {es : Nat -> Addr} {BAt : (Nat -> Prop) -> World -> Value -> Value -> Bf.Bd -> Prop} {n : Nat} {fs : Tf.Fs} {l : List Ru} {outs : List (List UInt8)} {cv : Value} {w : World} {bv ev : Value} {f : Nat × Int} (h : NewTells es BAt n fs l outs cv w bv ev) (hf : Zdt l outs f) :
  (f.1 ≠ 0 /\ bv = .pointer none /\ ErrV w es ev f) \/ (f.1 = 0 /\ (Ru.fault l).1 = 0 /\ (∀ j (hj : j < outs.length),∃ x ∈ l,x.out = outs[j]) /\ ev = .nilIface /\ ∃ p S,bv = .pointer (some p) /\ BAt S w bv cv (Bf.init fs l outs) /\ ∀ k,S k -> n <= k) := by
 rcases hf with ⟨h1,rfl⟩ | ⟨h1,k,hk,h2,h3,rfl⟩ | ⟨h1,h2,h3,rfl⟩ | ⟨h1,h2,h3,rfl⟩
 ·rcases h with ⟨e,⟨_,b⟩ | ⟨a,_⟩ | ⟨a,_⟩⟩ | ⟨a,_⟩
  ·exact .inl ⟨h1,e,b⟩
  ·exact absurd a h1
  ·exact absurd a h1
  ·exact absurd a h1
 ·rcases h with ⟨e,⟨a,_⟩ | ⟨_,k',hk',a2,a3,a4⟩ | ⟨_,a,_⟩⟩ | ⟨_,a,_⟩
  ·exact absurd h1 a
  ·have : k = k' := by
    rcases Nat.lt_trichotomy k k' with x | x | x
    ·obtain ⟨r,hr,er⟩ := a3 k hk x;exact absurd er (h2 r hr)
    ·exact x
    ·obtain ⟨r,hr,er⟩ := h3 k' hk' x;exact absurd er (a2 r hr)
   subst this;exact .inl ⟨by simp,e,a4⟩
  ·obtain ⟨r,hr,er⟩ := a k hk;exact absurd er (h2 r hr)
  ·obtain ⟨r,hr,er⟩ := a k hk;exact absurd er (h2 r hr)
 ·rcases h with ⟨e,⟨a,_⟩ | ⟨_,k',hk',a2,_⟩ | ⟨_,_,_,a⟩⟩ | ⟨_,_,a,_⟩
  ·exact absurd h1 a
  ·obtain ⟨r,hr,er⟩ := h2 k' hk';exact absurd er (a2 r hr)
  ·exact .inl ⟨by simp,e,.inl ⟨rfl,a,by decide⟩⟩
  ·rw [h3] at a;cases a
 ·rcases h with ⟨e,⟨a,_⟩ | ⟨_,k',hk',a2,_⟩ | ⟨_,_,a,_⟩⟩ | ⟨_,_,_,a4,⟨p,a5⟩,S,a6,a7⟩
  ·exact absurd h1 a
  ·obtain ⟨r,hr,er⟩ := h2 k' hk';exact absurd er (a2 r hr)
  ·rw [a] at h3;cases h3
  ·exact .inr ⟨rfl,h1,h2,a4,p,S,a5,a6,a7⟩
theorem MB.rebase {w0 w1 W : World} {mb tb : Nat} {tv lv cv : Value} {gs go gh gw : Nat} {d : Bf.Bd} (h : MB w1 W mb tb tv lv cv gs go gh gw d) (hb : Below w0.heap.size w0 w1) (hr : RRow w0 lv d.l) : MB w0 W mb tb tv lv cv gs go gh gw d := by
 have hz := hb.size;obtain ⟨l1,l2,l3,l4,l5⟩ := h.low;exact ⟨hb.trans (h.base.mono hz),hr,⟨by omega,by omega,by omega,by omega,by omega⟩,h.c0,h.c1,h.c2,h.c3,h.c4,h.c5,h.c6,h.rs,h.ro,h.rh,h.rw,h.tree.mono hz,h.n1,h.nm,h.nt⟩
section
variable {es : Nat -> Addr} {act : Bf.Act} {At : (Nat -> Prop) -> World -> Value -> Nat -> Cf.Ens -> Prop} {BAt : (Nat -> Prop) -> World -> Value -> Value -> Bf.Bd -> Prop} {W0 : World} {Tt Mm : Nat} {fs : Tf.Fs} {o : Option Nat} {u cv mcv : Value} {cP cM : Bf.Ca} {SC T : Nat -> Prop} {bp : Addr} {mb tb : Nat} {tv lv : Value} {gs go gh gw : Nat} {dP dM : Bf.Bd} {S : Nat -> Prop} {wr w' : World}
end
end Go.Proofs.YtbgkfmodbofalaaGreatDoor
namespace Go.Proofs.YtbgkfmodbofalaaGreatDoor
open Go.RowKit Go.Shelf Go.Lib
theorem madd (a b : List UInt8) (h : a.length + b.length <= 100000000) (W : World) : (Op.stringOp .add (ba a) (ba b)).run Tryz.prog W = .ok (.string (ba (a ++ b))) W := by
 rw [run_string_add_sum (P := Tryz.prog) W (ba a) (ba b) (by rw [Zam,Zam];omega),Zfe]
theorem Zvu (wd : List UInt8) (g o cap : Nat) (x : List UInt8) (l : List (List UInt8)) (hl : l.length <= 20) (hwd : wd.length <= 100000) (hx : ∀ y ∈ l,y.length <= 100000) (hall : ∀ k,(x ++ Lib.joinTail wd (l.take k)).length <= 10000000) (w : World) (hcur : ∀ j (hj : j < (x :: l).length),w.cell? ⟨g,o + j,none⟩ = some (.string (ba (x :: l)[j]))) :
  Calls Tryz.prog 112 #[.string ⟨#[106,111,105,110]⟩,.string (ba wd),.slice (some ⟨g,o,none⟩) (l.length + 1) cap] w fun e w' => e = .returned (.string (ba (Lib.join (x :: l) wd))) /\ Below w.heap.size w w' := by
 have hc0 : w.cell? ⟨g,o,none⟩ = some (.string (ba x)) := hcur 0 (by simp)
 have zl : (l.length : Int) <= 20 := by omega
 rw [Lib.join_cons];have HX := hid1 hx;have HA := hid1 hall;have HC := hid1 fun j (hj : j < l.length) => hcur (j + 1) (by simp;omega)
 clear hx hall hcur;go_enter Tryz.func112,Tryz.ntmps112
 go_wp2;go_loopw [7,8] (fun s i wr => ∃ k : Nat,k <= l.length /\ s = .string (ba (x ++ Lib.joinTail wd (l.take k))) /\ i = .int .i64 ((k : Int) + 1) /\ w = wr) (fun _ i _ => l.length + 1 - (intOf i).toNat)
 case atStart => exact ⟨0,Nat.zero_le _,by simp [Lib.joinTail],rfl,rfl⟩
 case round =>
  obtain ⟨k,hk,rfl,rfl,rfl⟩ := hrel;have h0 := HA.out k;by_cases hlt : k < l.length
  ·have hc := HC.out k hlt;have hy := HX.out _ (List.getElem_mem hlt);simp only [List.getElem_cons_succ] at hc;have HT := hid1 (Lib.joinTail_take_succ wd l k l[k] (List.getElem?_eq_getElem hlt));generalize l[k] = y at *;generalize Lib.joinTail wd (l.take k) = t at *;have s1 : ∀ W,(Op.stringOp .add (ba (x ++ t)) (ba wd)).run Tryz.prog W = .ok (.string (ba (x ++ t ++ wd))) W := madd _ _ (by omega)
   have s2 : ∀ W,(Op.stringOp .add (ba (x ++ t ++ wd)) (ba y)).run Tryz.prog W = .ok (.string (ba (x ++ t ++ wd ++ y))) W := madd _ _ (by rw [List.length_append];omega)
   have c1 : (k : Int) + 1 < (l.length : Int) + 1 := by omega
   have e0 : (0 : Int) <= (k : Int) + 1 := by omega
   have e3 : ((k : Int) + 1).toNat = k + 1 := by omega
   have q8 : IntKind.i64.wrap ((k : Int) + 1) = (k : Int) + 1 := by rw [IntKind.wrap_i64];omega
   have q9 : IntKind.i64.wrap ((k : Int) + 1 + 1) = (k : Int) + 1 + 1 := by rw [IntKind.wrap_i64];omega
   have HE := hid1 (show x ++ t ++ wd ++ y = x ++ (t ++ wd ++ y) by simp)
   generalize x ++ t ++ wd ++ y = t2 at *;generalize x ++ t ++ wd = t1 at *;generalize x ++ t = t0 at *;go_wp2;exact ⟨⟨k + 1,by omega,by rw [HT.out,HE.out],by go_num,trivial⟩,by simp [intOf];omega⟩
  ·obtain rfl : k = l.length := by omega
   have c1 : ¬ (l.length : Int) + 1 < (l.length : Int) + 1 := by omega
   rw [List.take_length] at *;go_wp2;go_ret;exact ⟨rfl,Below.refl _ _⟩
end Go.Proofs.YtbgkfmodbofalaaGreatDoor
namespace Go.Proofs.YtbgkfmodbofalaaGreatDoor
open Go.RowKit Go.Shelf Go.Lib
open Go.Sort (grow Holds putRow)
theorem Zbl (s : List UInt8) (hs : s.length <= 1000000) (w : World) :
  Calls Tryz.prog 166 #[.string (ba s)] w fun e w' => ∃ v,e = .returned v /\ TRow w' v (Af.lines s) /\ Below w.heap.size w w' := by
 obtain ⟨o,l,hc,hl⟩ := Af.lines_of_cut s;have HS := hid1 (Zbr s hs 10 10 rfl w);have hol : o.length <= 1000000 := by
  have := Zfc 10 s;rw [hc] at this;simp at this;omega
 rw [hc] at HS;have HL : Hid (Af.lines s = (if l = [] then o else o ++ [l])) := hl
 clear hl hc;generalize Af.lines s = L at *;go_enter Tryz.func166,Tryz.ntmps166
 go_wp2_with fail;refine Calls.mono HS.out ?_;rintro e w3 ⟨v,rfl,hown,hB3⟩;obtain ⟨pa,cap,rfl,hcap,hin⟩ := TRow.of_owns hown;obtain ⟨g,cur,rfl,hg,hcur⟩ := hin (by simp)
 have hcz := Zac hg (hcur o.length (by simp))
 rw [List.getElem_append_right (by omega)] at hcz
 simp only [Nat.sub_self,List.getElem_cons_zero] at hcz;simp only [List.length_append,List.length_cons,List.length_nil] at hcap ⊢;have hcurA : ∀ j (hj : j < o.length),cur[j]? = some (.string (ba o[j])) := fun j hj => by
  have := hcur j (by simp;omega)
  rwa [List.getElem_append_left hj] at this
 clear HS hown hin;have z1 : (o.length : Int) <= 1000000 := by omega
 by_cases he : l = []
 ·subst he;have hL : L = o := by rw [HL.out,if_pos rfl]
  subst hL;clear HL hcur;go_wp2;go_ret;exact ⟨_,rfl,⟨_,_,rfl,by omega,fun _ => ⟨g,cur,rfl,hg,hcurA⟩⟩,hB3⟩
 ·have d1 : l.isEmpty = false := Zch he;have hL : L = o ++ [l] := by rw [HL.out,if_neg he]
  subst hL;clear HL;go_wp2;go_ret;exact ⟨_,rfl,⟨some ⟨g,0,none⟩,cap,by simp,by simp;omega,fun _ => ⟨g,cur,rfl,hg,hcur⟩⟩,hB3⟩
theorem Zhv (S : List (List UInt8)) : ∀ (d i : Nat),i + d = S.length -> ∃ t,Lib.compact S = compactUpTo S.toArray i ++ t
 | 0,i,h => ⟨[],by rw [Lib.compact,List.append_nil,<- h];rfl⟩
 | d + 1,i,h => by
  obtain ⟨t,ht⟩ := Zhv S d (i + 1) (by omega)
  rw [Af.compact_succ,List.append_assoc] at ht;exact ⟨_,ht⟩
theorem Zod (S : List (List UInt8)) (i : Nat) (h : i < S.length) (hk : keeps S.toArray i = true) : compactUpTo S.toArray (i + 1) = compactUpTo S.toArray i ++ [S[i]] /\ (compactUpTo S.toArray i).length < (Lib.compact S).length /\ ∀ hx : (compactUpTo S.toArray i).length < (Lib.compact S).length,(Lib.compact S)[(compactUpTo S.toArray i).length] = S[i] := by
 have e : compactUpTo S.toArray (i + 1) = compactUpTo S.toArray i ++ [S[i]] := by
  rw [Af.compact_succ,if_pos hk];simp [h]
 obtain ⟨t,ht⟩ := Zhv S (S.length - (i + 1)) (i + 1) (by omega)
 rw [e] at ht;refine ⟨e,by rw [ht];simp,fun hx => ?_⟩
 simp only [ht,List.append_assoc];rw [List.getElem_append_right (Nat.le_refl _)];simp
theorem Zoc (S : List (List UInt8)) (i : Nat) (hk : keeps S.toArray i = false) : compactUpTo S.toArray (i + 1) = compactUpTo S.toArray i := by
 rw [Af.compact_succ,hk];simp
theorem Zsz (S : List (List UInt8)) : keeps S.toArray 0 = true := by simp [keeps]
theorem Zta (S : List (List UInt8)) (i : Nat) (h : i + 1 < S.length) : keeps S.toArray (i + 1) = !(S[i + 1] == S[i]) := by
 have h' : i < S.length := by omega
 unfold keeps;simp [h,h'];by_cases e : S[i + 1] = S[i] <;> simp [e]
end Go.Proofs.YtbgkfmodbofalaaGreatDoor
namespace Go.Proofs.YtbgkfmodbofalaaGreatDoor
open Go.RowKit Go.Shelf Go.Lib
theorem Zhx {m : Nat} : ∀ {ls : List (List UInt8)},(∀ x ∈ ls,x.length <= m) -> Af.bytes ls <= ls.length * m
 | [],_ => by simp [Af.bytes]
 | x :: r,h => by
  have ih := Zhx (ls := r) fun y hy => h y (by simp [hy])
  have hx := h x (by simp)
  simp only [Af.bytes,List.map_cons,List.sum_cons,List.length_cons,Nat.add_mul,Nat.one_mul] at ih ⊢;omega
theorem Zfq : ∀ (ls : List (List UInt8)),(Af.all ls).length <= Af.bytes ls
 | [] => by simp [Af.all,Af.bytes]
 | x :: r => by
  have ih := Zfq r;have hx := Af.lines_len x;simp only [Af.all,Af.bytes,List.flatMap_cons,List.length_append,List.map_cons,List.sum_cons] at ih ⊢;omega
theorem Zji {m n : Nat} {ls : List (List UInt8)} (hn : ls.length <= n) (h : ∀ x ∈ ls,x.length <= m) (k : Nat) : Af.bytes (ls.take k) <= n * m := by
 refine Nat.le_trans (Zhx fun x hx => h x (List.mem_of_mem_take hx)) (Nat.mul_le_mul_right _ ?_)
 simp
 omega
theorem Zsv (wd : List UInt8) (g o cap : Nat) (ls : List (List UInt8)) (hn : ls.length <= 20) (hx : ∀ x ∈ ls,x.length <= 4000) (w : World) (hg : g < w.heap.size) (hcur : ∀ j (hj : j < ls.length),w.cell? ⟨g,o + j,none⟩ = some (.string (ba ls[j]))) :
  Calls Tryz.prog 112 #[.string ⟨#[99,111,117,110,116]⟩,.string (ba wd),.slice (some ⟨g,o,none⟩) ls.length cap] w fun e w' => e = .returned (.string (ba (Af.count ls))) /\ Below w.heap.size w w' := by
 have zl : (ls.length : Int) <= 20 := by omega
 have HC := hid1 hcur;have HX := hid1 hx;have HTB := hid1 fun k => Zji hn hx k
 have HLL := hid1 fun (y : List UInt8) (hy : y.length <= 4000) W => Zbl y (by omega) W
 have HD := hid1 Zfi;clear hcur hx;go_enter Tryz.func112,Tryz.ntmps112
 go_wp2;go_loopw [19,20,21] (fun n b i wr => ∃ k : Nat,k <= ls.length /\ n = .int .i64 ((Af.all (ls.take k)).length : Nat) /\ b = .int .i64 (Af.bytes (ls.take k) : Nat) /\ i = .int .i64 k /\ Below w.heap.size w wr) (fun _ _ i _ => ls.length - (intOf i).toNat)
 case atStart => exact ⟨0,Nat.zero_le _,rfl,rfl,rfl,Below.refl _ _⟩
 case round =>
  obtain ⟨k,hk,rfl,rfl,rfl,hB⟩ := hrel;have c0 : (0 : Int) <= (k : Int) := by omega
  have hb0 : Af.bytes (ls.take k) <= 80000 := HTB.out k;have ha0 : (Af.all (ls.take k)).length <= 80000 := Nat.le_trans (Zfq _) hb0;by_cases hlt : k < ls.length
  ·have c1 : (k : Int) < (ls.length : Int) := by omega
   have hy := HX.out _ (List.getElem_mem hlt);have hcell := (hB.cell (p := ⟨g,o + k,none⟩) hg).trans (HC.out k hlt);have hgr : g < wr.heap.size := Nat.lt_of_lt_of_le hg hB.size;have HA : Hid ((Af.all (ls.take (k + 1))).length = (Af.all (ls.take k)).length + (Af.lines ls[k]).length) := by
    refine hid1 ?_;rw [Zgp hlt,List.length_append]
   have HBy := hid1 (Zfo hlt);have H1 := HLL.out ls[k] hy wr;have hly := Af.lines_len ls[k];generalize ls[k] = y at *;generalize Af.lines y = L at *;generalize (Af.all (ls.take k)).length = n at *;generalize Af.bytes (ls.take k) = b at *;have q8 : IntKind.i64.wrap (k : Int) = (k : Int) := by rw [IntKind.wrap_i64];omega
   have q9 : IntKind.i64.wrap ((n : Int) + (L.length : Int)) = ((n + L.length : Nat) : Int) := by rw [IntKind.wrap_i64];omega
   have q7 : IntKind.i64.wrap ((b : Int) + (y.length : Int)) = ((b + y.length : Nat) : Int) := by rw [IntKind.wrap_i64];omega
   go_wp2_with fail;refine Calls.mono H1 ?_;rintro e w1 ⟨v,rfl,⟨pa,lc,rfl,hcap,_⟩,g1⟩;have hcell1 := (g1.cell (p := ⟨g,o + k,none⟩) hgr).trans hcell;go_wp2;exact ⟨⟨k + 1,by omega,by rw [HA.out,Int.natCast_add],by rw [HBy.out,Int.natCast_add],by go_num,hB.trans (g1.mono hB.size)⟩,by simp [intOf];omega⟩
  ·obtain rfl : k = ls.length := by omega
   have c1 : ¬ (ls.length : Int) < (ls.length : Int) := by omega
   have HQ : Hid (Af.count ls = Lib.decDigits (Af.all ls).length ++ 32 :: (Lib.decDigits (Af.bytes ls) ++ [10])) := rfl;rw [List.take_length] at *;have H1 := hid1 fun W => HD.out (Af.all ls).length (by omega) W
   have H2 := hid1 fun W => HD.out (Af.bytes ls) (by omega) W
   have hd1 := Zbd (Af.all ls).length (by omega)
   have hd2 := Zbd (Af.bytes ls) (by omega)
   generalize (Af.all ls).length = n at *;generalize Af.bytes ls = b at *;generalize Lib.decDigits n = dn at *;generalize Lib.decDigits b = db at *;have s1 : ∀ W,(Op.stringOp .add (ba dn) ⟨#[32]⟩).run Tryz.prog W = .ok (.string (ba (dn ++ [32]))) W := madd dn [32] (by simp;omega)
   have s2 : ∀ W,(Op.stringOp .add (ba (dn ++ [32])) (ba db)).run Tryz.prog W = .ok (.string (ba (dn ++ [32] ++ db))) W := madd (dn ++ [32]) db (by simp;omega)
   have s3 : ∀ W,(Op.stringOp .add (ba (dn ++ [32] ++ db)) ⟨#[10]⟩).run Tryz.prog W = .ok (.string (ba (dn ++ [32] ++ db ++ [10]))) W := madd (dn ++ [32] ++ db) [10] (by simp;omega)
   have HE : Hid (Af.count ls = dn ++ [32] ++ db ++ [10]) := by
    refine hid1 ?_;rw [HQ.out];simp
   generalize dn ++ [32] ++ db ++ [10] = t3 at *;generalize dn ++ [32] ++ db = t2 at *;generalize dn ++ [32] = t1 at *;go_wp2_with fail;refine Calls.mono (H1.out _) ?_;rintro e w1 ⟨rfl,g1⟩;go_wp2_with fail;refine Calls.mono (H2.out _) ?_;rintro e w2 ⟨rfl,g2⟩;go_wp2;go_ret;have hB1 := hB.trans (g1.mono hB.size);refine ⟨?_,hB1.trans (g2.mono hB1.size)⟩;show Ending.returned (.string (ba t3)) = _
   rw [HE.out]
end Go.Proofs.YtbgkfmodbofalaaGreatDoor
namespace Go.Proofs.YtbgkfmodbofalaaGreatDoor
open Go.RowKit Go.Shelf Go.Lib
theorem Zvk {s wd : List UInt8} {i : Nat} (h : s.length < i + wd.length) (hi : i <= s.length) : Lib.occAt s wd i = false := by
 cases ho : Lib.occAt s wd i with
 | false => rfl
 | true =>
  rcases Lib.occAt_room ho with h1 | h1
  ·omega
  ·subst h1;simp at h;omega
theorem Znl (s wd : List UInt8) (i : Nat) (hs : s.length <= 1000000) (hw : wd.length <= 1000000) (hi : i <= s.length) (w : World) :
  Calls Tryz.prog 168 #[.string (ba s),.int .i64 i,.string (ba wd)] w fun e w' => e = .returned (.bool (Lib.occAt s wd i)) /\ w' = w := by
 have z1 : (s.length : Int) <= 1000000 := by omega
 have z2 : (wd.length : Int) <= 1000000 := by omega
 have z3 : (i : Int) <= (s.length : Int) := by omega
 have z4 : (0 : Int) <= (i : Int) := by omega
 have z5 : (0 : Int) <= (wd.length : Int) := by omega
 by_cases hr : i + wd.length <= s.length
 ·have ho := Lib.occAt_iff_take s wd i hr;have d1 : decide ((i : Int) + (wd.length : Int) <= (s.length : Int)) = true := decide_eq_true (by omega)
  have d2 : (i : Int) + (wd.length : Int) <= (s.length : Int) := by omega
  have d3 : (i : Int) <= (i : Int) + (wd.length : Int) := by omega
  have e1 : (ba s).extract i (i + wd.length) = ba ((s.drop i).take wd.length) := by
   have := (Txt.mk (bs := ba s) (s := s) rfl).extract i (i + wd.length);rw [this];congr 1
   rw [List.drop_take,Nat.add_sub_cancel_left]
  have HO := hid1 ho;generalize Lib.occAt s wd i = r at *;generalize (s.drop i).take wd.length = y at *;clear ho;go_enter Tryz.func168,Tryz.ntmps168
  go_wp2;go_ret;exact ⟨Zan HO.out.symm,rfl⟩
 ·have ho := Zvk (s := s) (wd := wd) (i := i) (by omega) hi
  have d1 : decide ((i : Int) + (wd.length : Int) <= (s.length : Int)) = false := decide_eq_false (by omega)
  rw [ho];clear ho;go_enter Tryz.func168,Tryz.ntmps168
  go_wp2;go_ret;exact ⟨rfl,rfl⟩
theorem Zyg (s wd : List UInt8) (hs : s.length <= 1000000) (hw : wd.length <= 1000000) (w : World) :
  Calls Tryz.prog 167 #[.string (ba s),.string (ba wd)] w fun e w' => e = .returned (.bool (Lib.contains s wd)) /\ w' = w := by
 have HH := hid1 fun (i : Nat) (hi : i <= s.length) => Znl s wd i hs hw hi w
 have HI := hid1 (Lib.index_spec s wd);have HQ : Hid (Lib.contains s wd = decide (0 <= Lib.index s wd)) := rfl;generalize Lib.contains s wd = r at *;generalize Lib.index s wd = ix at *;have z1 : (s.length : Int) <= 1000000 := by omega
 go_enter Tryz.func167,Tryz.ntmps167
 go_wp2;go_loopw [5] (fun i wr => ∃ k : Nat,k <= s.length + 1 /\ i = .int .i64 k /\ Lib.NoOcc s wd k /\ wr = w) (fun i _ => s.length + 1 - (intOf i).toNat)
 case atStart => exact ⟨0,by omega,rfl,Lib.NoOcc.zero _ _,rfl⟩
 case round =>
  obtain ⟨k,hk,rfl,hno,rfl⟩ := hrel;have HNO := hid1 hno;clear hno;by_cases hle : k <= s.length
  ·have c1 : (k : Int) <= (s.length : Int) := by omega
   have H1 := HH.out k hle;cases ho : Lib.occAt s wd k with
   | false =>
    rw [ho] at H1;go_wp2_with fail;refine Calls.mono H1 ?_;rintro e w1 ⟨rfl,rfl⟩;go_wp2;exact ⟨⟨k + 1,by omega,by go_num,HNO.out.succ ho,trivial⟩,by simp [intOf];omega⟩
   | true =>
    rw [ho] at H1;go_wp2_with fail;refine Calls.mono H1 ?_;rintro e w1 ⟨rfl,rfl⟩;go_wp2;go_ret;refine ⟨Zan ?_,rfl⟩;rw [HQ.out];rcases HI.out with ⟨_,h2⟩ | ⟨j,h2,_⟩
    ·rw [h2 k hle] at ho;cases ho
    ·rw [h2];simp
  ·have c1 : (s.length : Int) < (k : Int) := by omega
   go_wp2;go_ret;refine ⟨Zan ?_,rfl⟩;rw [HQ.out];rcases HI.out with ⟨h2,_⟩ | ⟨j,_,h3,h4,_⟩
   ·rw [h2];rfl
   ·have := HNO.out j (by omega)
    rw [this] at h4;cases h4
end Go.Proofs.YtbgkfmodbofalaaGreatDoor
namespace Go.Proofs.YtbgkfmodbofalaaGreatDoor
open Go.RowKit Go.Shelf Go.Lib
theorem Zek (l : List (List UInt8)) (x : List UInt8) : Af.told (l ++ [x]) = Af.told l ++ x ++ [10] := by
 rw [Af.told_append];simp [Af.told]
theorem Zrr (wd : List UInt8) (L : List (List UInt8)) (k : Nat) (hk : k < L.length) : Af.withW wd (L.take (k + 1)) = Af.withW wd (L.take k) ++ (if Lib.contains L[k] wd then [L[k]] else []) := by
 unfold Af.withW;rw [List.take_succ_eq_append_getElem hk,List.filter_append];congr 1
 by_cases h : Lib.contains L[k] wd <;> simp [h]
theorem Zsu (wd x : List UInt8) (g o cap : Nat) (hwd : wd.length <= 1000) (hx : x.length <= 100000) (w : World) (hc : w.cell? ⟨g,o,none⟩ = some (.string (ba x))) :
  Calls Tryz.prog 112 #[.string ⟨#[108,105,110,101,115]⟩,.string (ba wd),.slice (some ⟨g,o,none⟩) 1 cap] w fun e w' => e = .returned (.string (ba (Af.told (Af.withW wd (Af.lines x))))) /\ Below w.heap.size w w' := by
 have HL := hid1 (Zbl x (by omega) w)
 have hll : (Af.lines x).length <= 100000 := Nat.le_trans (Af.lines_len x) hx;have hlx : ∀ y ∈ Af.lines x,y.length <= 100000 := fun y hy => Nat.le_trans (Af.line_len hy) hx
 have htl : ∀ k,(Af.told (Af.withW wd ((Af.lines x).take k))).length <= 100001 := fun k => by
  have h1 := Zlx wd ((Af.lines x).take k);have h2 := Zaz (l := Af.lines x) k;have h3 := (Af.told_lines_len x).2;omega
 generalize Af.lines x = L at *;have HX := hid1 hlx;have HTL := hid1 htl;have HI := hid1 fun (y : List UInt8) (hy : y.length <= 100000) W => Zyg y wd (by omega) (by omega) W
 have zl : (L.length : Int) <= 100000 := by omega
 clear hlx htl;go_enter Tryz.func112,Tryz.ntmps112
 go_wp2_with fail;refine Calls.mono HL.out ?_;rintro e w1 ⟨v,rfl,hrow,hB⟩;obtain ⟨pa,lc,rfl,hcap,hin⟩ := hrow;have HR := hid1 hin;clear hin HL hc;go_wp2;go_loopw [7,12] (fun s i wr => ∃ k : Nat,k <= L.length /\ s = .string (ba (Af.told (Af.withW wd (L.take k)))) /\ i = .int .i64 k /\ w1 = wr) (fun _ i _ => L.length - (intOf i).toNat)
 case atStart => exact ⟨0,Nat.zero_le _,rfl,rfl,rfl⟩
 case round =>
  obtain ⟨k,hk,rfl,rfl,rfl⟩ := hrel;have c0 : (0 : Int) <= (k : Int) := by omega
  have hl0 := HTL.out k;by_cases hlt : k < L.length
  ·obtain ⟨g1,cur,rfl,hg1,hcur⟩ := HR.out (by intro e;rw [e] at hlt;simp at hlt)
   have hcell := Zac hg1 (hcur k hlt);have c1 : (k : Int) < (L.length : Int) := by omega
   have hy := HX.out _ (List.getElem_mem hlt);have HW := hid1 (Zrr wd L k hlt);have H1 := HI.out L[k] hy w1;clear hcur HR hg1;generalize L[k] = y at *;generalize Af.withW wd (L.take k) = fl at *;have q8 : IntKind.i64.wrap (k : Int) = (k : Int) := by rw [IntKind.wrap_i64];omega
   cases hcn : Lib.contains y wd with
   | false =>
    rw [hcn] at H1;have HE := hid1 (show Af.told (Af.withW wd (L.take (k + 1))) = Af.told fl by rw [HW.out,hcn];simp)
    generalize Af.told fl = t at *;go_wp2_with fail;refine Calls.mono H1 ?_;rintro e w2 ⟨rfl,rfl⟩;go_wp2;exact ⟨⟨k + 1,by omega,by rw [HE.out],by go_num,trivial⟩,by simp [intOf];omega⟩
   | true =>
    rw [hcn] at H1;have HE := hid1 (show Af.told (Af.withW wd (L.take (k + 1))) = Af.told fl ++ y ++ [10] by rw [HW.out,hcn];exact Zek fl y)
    generalize Af.told fl = t at *;have s1 : ∀ W,(Op.stringOp .add (ba t) (ba y)).run Tryz.prog W = .ok (.string (ba (t ++ y))) W := madd t y (by omega)
    have s2 : ∀ W,(Op.stringOp .add (ba (t ++ y)) ⟨#[10]⟩).run Tryz.prog W = .ok (.string (ba (t ++ y ++ [10]))) W := madd (t ++ y) [10] (by rw [List.length_append];simp;omega)
    generalize t ++ y ++ [10] = t2 at *;generalize t ++ y = t1 at *;go_wp2_with fail;refine Calls.mono H1 ?_;rintro e w2 ⟨rfl,rfl⟩;go_wp2;exact ⟨⟨k + 1,by omega,by rw [HE.out],by go_num,trivial⟩,by simp [intOf];omega⟩
  ·obtain rfl : k = L.length := by omega
   have c1 : ¬ (L.length : Int) < (L.length : Int) := by omega
   rw [List.take_length] at *;go_wp2;go_ret;exact ⟨rfl,hB⟩
end Go.Proofs.YtbgkfmodbofalaaGreatDoor
namespace Go.Proofs.YtbgkfmodbofalaaGreatDoor
open Go.RowKit Go.Shelf Go.Lib
def SoRow (w : World) (v : Value) (L : List (List UInt8)) : Prop :=
 (v = .slice none 0 0 /\ L = []) \/ (L ≠ [] /\ ∃ g cap,v = .slice (some ⟨g,0,none⟩) L.length cap /\ TRow w v L)
theorem SoRow.below {w w' : World} {v : Value} {L : List (List UInt8)} (h : SoRow w v L) (hb : Below w.heap.size w w') : SoRow w' v L := by
 rcases h with h | ⟨h0,g,cap,e,h⟩
 ·exact .inl h
 ·exact .inr ⟨h0,g,cap,e,h.below hb⟩
theorem SoRow.of_owns {w : World} {base : Nat} {v : Value} {r : List (List UInt8)} (h : w.ownsRow base 9 1 v r.length (r.map sv)) (hr : r ≠ []) : SoRow w v r := by
 have ht : TRow w v r := TRow.of_owns h;obtain ⟨p,cap,rfl,hcap,hin⟩ := ht;obtain ⟨g,cur,rfl,hg,hcur⟩ := hin hr;exact .inr ⟨hr,g,cap,rfl,TRow.of_owns h⟩
theorem SoRow.cells {w : World} {v : Value} {L : List (List UInt8)} (h : SoRow w v L) : ∃ p c,v = .slice p L.length c /\ ∀ j,j < L.length -> ∃ g,p = some ⟨g,0,none⟩ /\ ∀ i (hi : i < L.length),w.cell? ⟨g,i,none⟩ = some (.string (ba L[i])) := by
 rcases h with ⟨rfl,rfl⟩ | ⟨h0,g,cap,rfl,h⟩
 ·exact ⟨none,0,rfl,fun j hj => absurd hj (by simp)⟩
 ·obtain ⟨p,c,e,_,hin⟩ := h;obtain ⟨g',cur,rfl,hg,hcur⟩ := hin h0;obtain ⟨rfl,rfl⟩ : g = g' /\ cap = c := by simpa using e
  exact ⟨_,_,rfl,fun j hj => ⟨g,rfl,fun i hi => Zac hg (hcur i hi)⟩⟩
theorem Zwb {l r : List (List UInt8)} {x : List UInt8} (h : Af.Laid l x r) : r ≠ [] := by
 obtain ⟨k,_,rfl,_⟩ := h;simp
theorem Zzi {w : World} {v : Value} {ms : List (List UInt8)} (h : SoRow w v (Af.srt ms)) (hl : ms.length <= 100000) (x : List UInt8) :
  Calls Tryz.prog 124 #[v,.string (ba x)] w fun e w' => ∃ v',e = .returned v' /\ SoRow w' v' (Af.srt (ms ++ [x])) /\ Below w.heap.size w w' := by
 rcases h with ⟨rfl,h0⟩ | ⟨h0,g,cap,rfl,h⟩
 ·refine (Zsy x w).mono ?_;rintro e w' ⟨v',r,rfl,hr,ho,hb⟩;have hne := Zwb hr;rw [<- h0] at hr;rw [Zrd hr] at ho hne;exact ⟨v',rfl,SoRow.of_owns ho hne,hb⟩
 ·refine (Zwa g cap (Af.srt ms) x (by rw [Af.srt_len];exact hl) h0 w h).mono ?_
  rintro e w' ⟨v',r,rfl,hr,ho,hb⟩;have hne := Zwb hr;rw [Zrd hr] at ho hne;exact ⟨v',rfl,SoRow.of_owns ho hne,hb⟩
theorem Zxl {m n : Nat} {ls : List (List UInt8)} (hn : ls.length <= n) (hx : ∀ x ∈ ls,x.length <= m) : (Af.told (Af.srt (Af.all ls))).length <= n * (m + 1) := by
 rw [Af.told_perm (Af.srt_perm _)];refine Nat.le_trans (Af.told_all_len ls) ?_;have key : ∀ (l : List (List UInt8)),(∀ x ∈ l,x.length <= m) -> (l.map fun x => x.length + 1).sum <= l.length * (m + 1) := fun l => by
  induction l with
  | nil => simp
  | cons x r ih =>
   intro h
   have i1 := ih fun y hy => h y (by simp [hy])
   have i2 := h x (by simp)
   simp only [List.map_cons,List.sum_cons,List.length_cons,Nat.add_mul,Nat.one_mul] at i1 ⊢;omega
 exact Nat.le_trans (key ls hx) (Nat.mul_le_mul_right _ hn)
theorem Zrw (S : List (List UInt8)) : S.length <= (Af.told S).length := by
 induction S with
 | nil => simp
 | cons x r ih =>
  have e : Af.told (x :: r) = x ++ 10 :: Af.told r := by simp [Af.told]
  rw [e,List.length_append,List.length_cons,List.length_cons];omega
theorem Zyc {m : Nat} {ls : List (List UInt8)} (hx : ∀ x ∈ ls,x.length <= m) : ∀ y ∈ Af.srt (Af.all ls),y.length <= m := fun y hy => by
 obtain ⟨s,hs,h⟩ := List.mem_flatMap.1 ((Af.srt_perm _).mem_iff.1 hy);exact Nat.le_trans (Af.line_len h) (hx s hs)
theorem Zvt (wd : List UInt8) (htk : Af.Kd.sort.takes wd = true) (g o cap : Nat) (ls : List (List UInt8)) (hn : ls.length <= 20) (hx : ∀ x ∈ ls,x.length <= 4000) (w : World) (hg : g < w.heap.size) (hcur : ∀ j (hj : j < ls.length),w.cell? ⟨g,o + j,none⟩ = some (.string (ba ls[j]))) :
  Calls Tryz.prog 112 #[.string ⟨#[115,111,114,116]⟩,.string (ba wd),.slice (some ⟨g,o,none⟩) ls.length cap] w fun e w' => e = .returned (.string (ba (Af.sorted wd ls))) /\ Below w.heap.size w w' := by
 have zl : (ls.length : Int) <= 20 := by omega
 have hwd : wd = [] \/ wd = oncew := by
  have : wd ∈ [[],oncew] := of_decide_eq_true htk
  simpa using this
 have HC := hid1 hcur;have HX := hid1 hx;have HTB := hid1 fun k => Zji hn hx k
 have HTS := hid1 (Zxl hn hx);have HLA := hid1 (Zyc hx);have HLL := hid1 fun (y : List UInt8) (hy : y.length <= 4000) W => Zbl y (by omega) W
 clear hcur hx htk;go_enter Tryz.func112,Tryz.ntmps112
 go_wp2;go_loopw [14,15] (fun l i wr => ∃ k : Nat,k <= ls.length /\ i = .int .i64 k /\ SoRow wr l (Af.srt (Af.all (ls.take k))) /\ Below w.heap.size w wr) (fun _ i _ => ls.length - (intOf i).toNat)
 case atStart => exact ⟨0,Nat.zero_le _,rfl,.inl ⟨rfl,Zza⟩,Below.refl _ _⟩
 case round =>
  obtain ⟨k,hk,rfl,hrow,hB⟩ := hrel;have c0 : (0 : Int) <= (k : Int) := by omega
  have HR := hid1 hrow;clear hrow;by_cases hlt : k < ls.length
  ·have c1 : (k : Int) < (ls.length : Int) := by omega
   have hb0 : Af.bytes (ls.take (k + 1)) <= 80000 := HTB.out (k + 1);have ha0 : (Af.all (ls.take (k + 1))).length <= 80000 := Nat.le_trans (Zfq _) hb0;have hy := HX.out _ (List.getElem_mem hlt);have hcell := (hB.cell (p := ⟨g,o + k,none⟩) hg).trans (HC.out k hlt);have HA := hid1 (Zgp hlt);rw [HA.out,List.length_append] at ha0;have H1 := HLL.out ls[k] hy wr;generalize ls[k] = y at *
   generalize Af.lines y = L at *;generalize Af.all (ls.take k) = ms at *;have q8 : IntKind.i64.wrap (k : Int) = (k : Int) := by rw [IntKind.wrap_i64];omega
   have zL : (L.length : Int) <= 80000 := by omega
   go_wp2_with fail;refine Calls.mono H1 ?_;rintro e w1 ⟨vL,rfl,hL,g1⟩;have HL := hid1 hL;obtain ⟨pa,lc,rfl,hcap,_⟩ := hL;have HR1 := hid1 (HR.out.below g1);have hB1 := hB.trans (g1.mono hB.size);clear HR H1 hcell g1;generalize wr = w0 at *;go_wp2
   go_loopw [14,17] (fun l j wr => ∃ m : Nat,m <= L.length /\ j = .int .i64 m /\ SoRow wr l (Af.srt (ms ++ L.take m)) /\ Below w1.heap.size w1 wr) (fun _ j _ => L.length - (intOf j).toNat)
   case atStart => exact ⟨0,Nat.zero_le _,rfl,by simpa using HR1.out,Below.refl _ _⟩
   case round =>
    obtain ⟨m,hm,rfl,hrow,hBr⟩ := hrel;have HR := hid1 hrow;clear hrow;have c2 : (0 : Int) <= (m : Int) := by omega
    have q7 : IntKind.i64.wrap (m : Int) = (m : Int) := by rw [IntKind.wrap_i64];omega
    by_cases hmt : m < L.length
    ·have c3 : (m : Int) < (L.length : Int) := by omega
     obtain ⟨_,_,e1,_,hin⟩ := HL.out;obtain ⟨g1,cur,rfl,hg1,hcur⟩ := hin (by intro e;rw [e] at hmt;simp at hmt)
     obtain ⟨rfl,rfl⟩ : pa = some ⟨g1,0,none⟩ /\ _ := by simpa using e1
     have hc1 := (hBr.cell (p := ⟨g1,m,none⟩) (Array.getElem?_eq_some_iff.1 hg1).1).trans (Zac hg1 (hcur m hmt));have H2 := hid1 (Zzi HR.out (by simp;omega) L[m])
     have HS := hid1 (show ms ++ L.take m ++ [L[m]] = ms ++ L.take (m + 1) by rw [List.take_succ_eq_append_getElem hmt,List.append_assoc])
     rw [HS.out] at H2;clear hcur hg1 hin HL;generalize L[m] = z at *;go_wp2_with fail;refine Calls.mono H2.out ?_;rintro e w3 ⟨v3,rfl,hrow3,g3⟩;have HR3 := hid1 hrow3;clear hrow3;go_wp2;exact ⟨⟨m + 1,by omega,by go_num,HR3.out,hBr.trans (g3.mono hBr.size)⟩,by simp [intOf];omega⟩
    ·obtain rfl : m = L.length := by omega
     have c3 : ¬ (L.length : Int) < (L.length : Int) := by omega
     rw [List.take_length] at *;clear HL;go_wp2;exact ⟨⟨k + 1,by omega,by go_num,by rw [HA.out];exact HR.out,hB1.trans (hBr.mono hB1.size)⟩,by simp [intOf];omega⟩
  ·obtain rfl : k = ls.length := by omega
   have c1 : ¬ (ls.length : Int) < (ls.length : Int) := by omega
   rw [List.take_length] at *;have hso : Af.sorted wd ls = Af.told (if wd = oncew then Lib.compact (Af.srt (Af.all ls)) else Af.srt (Af.all ls)) := rfl
   have HSO := hid1 hso;clear hso HTB HX HC;obtain ⟨p8,c8,rfl,hS0⟩ := HR.out.cells;have hS8 := hid1 hS0;clear hS0 HR;generalize Af.srt (Af.all ls) = S at *;have hS1 : S.length <= 80020 := by
    have h1 := HTS.out;have h2 := Zrw S;omega
   have zS : (S.length : Int) <= 80020 := by omega
   generalize wr = w8 at *;rcases hwd with hwd | hwd
   ·have q0 : wd.isEmpty = true := by rw [hwd];rfl
    have HE0 : Hid (Af.sorted wd ls = Af.told S) := by
     refine hid1 ?_;rw [HSO.out,if_neg (by rw [hwd];decide)]
    clear hwd HSO;go_wp2;go_loopw [7,18] (fun s i wr => ∃ k q : Nat,k <= S.length /\ s = .string (ba (Af.told (S.take k))) /\ i = .int .i64 k /\ wr = w8.drewN q) (fun _ i _ => S.length - (intOf i).toNat)
    case atStart => exact ⟨0,0,Nat.zero_le _,rfl,rfl,rfl⟩
    case round =>
     obtain ⟨k,q,hk,rfl,rfl,rfl⟩ := hrel;have v0 : (0 : Int) <= (k : Int) := by omega
     have hl0 := Nat.le_trans (Zaz (l := S) k) HTS.out;by_cases hlt : k < S.length
     ·have v1 : (k : Int) < (S.length : Int) := by omega
      obtain ⟨g1,rfl,hcs⟩ := hS8.out k hlt;have hc1 := hcs k hlt;have hy := HLA.out _ (List.getElem_mem hlt);have HE := hid1 (show Af.told (S.take (k + 1)) = Af.told (S.take k) ++ S[k] ++ [10] by rw [List.take_succ_eq_append_getElem hlt];exact Zek _ _)
      clear hcs hS8 HLA;generalize S[k] = y at *;generalize Af.told (S.take k) = t at *;have q8 : IntKind.i64.wrap (k : Int) = (k : Int) := by rw [IntKind.wrap_i64];omega
      have s1 : ∀ W,(Op.stringOp .add (ba t) (ba y)).run Tryz.prog W = .ok (.string (ba (t ++ y))) W := madd t y (by omega)
      have s2 : ∀ W,(Op.stringOp .add (ba (t ++ y)) ⟨#[10]⟩).run Tryz.prog W = .ok (.string (ba (t ++ y ++ [10]))) W := madd (t ++ y) [10] (by rw [List.length_append];simp;omega)
      generalize t ++ y ++ [10] = t2 at *;generalize t ++ y = t1 at *;go_wp2;go_quiet (fail)
      go_wp2;exact ⟨⟨k + 1,_,by omega,by rw [HE.out],by go_num,rfl⟩,by simp [intOf];omega⟩
     ·obtain rfl : k = S.length := by omega
      have v1 : ¬ (S.length : Int) < (S.length : Int) := by omega
      rw [List.take_length] at *;clear hS8 HLA;go_wp2;go_ret;refine ⟨?_,Zad hB q⟩;show Ending.returned (.string (ba (Af.told S))) = _
      rw [HE0.out]
   ·have q0 : wd.isEmpty = false := by rw [hwd];rfl
    have HE0 : Hid (Af.sorted wd ls = Af.told (Lib.compact S)) := by
     refine hid1 ?_;rw [HSO.out,if_pos hwd]
    clear hwd HSO;have HCU : Hid (Lib.compact S = compactUpTo S.toArray S.length) := by
     refine hid1 ?_;rw [Lib.compact]
    go_wp2;go_loopw [7,18] (fun s i wr => ∃ k q : Nat,k <= S.length /\ s = .string (ba (Af.told (compactUpTo S.toArray k))) /\ i = .int .i64 k /\ wr = w8.drewN q) (fun _ i _ => S.length - (intOf i).toNat)
    case atStart => exact ⟨0,0,Nat.zero_le _,rfl,rfl,rfl⟩
    case round =>
     obtain ⟨k,q,hk,rfl,rfl,rfl⟩ := hrel;have v0 : (0 : Int) <= (k : Int) := by omega
     have hl0 := Nat.le_trans (Af.compact_told_len S k hk) (Nat.le_trans (Zaz (l := S) k) HTS.out);by_cases hlt : k < S.length
     ·have v1 : (k : Int) < (S.length : Int) := by omega
      obtain ⟨g1,rfl,hcs⟩ := hS8.out k hlt;have hc1 := hcs k hlt;have hy := HLA.out _ (List.getElem_mem hlt);have q8 : IntKind.i64.wrap (k : Int) = (k : Int) := by rw [IntKind.wrap_i64];omega
      have HKeep := hid1 fun hkp : keeps S.toArray k = true => show Af.told (compactUpTo S.toArray (k + 1)) = Af.told (compactUpTo S.toArray k) ++ S[k] ++ [10] by rw [(Zod S k hlt hkp).1];exact Zek _ _
      have HSkip := hid1 fun hkp : keeps S.toArray k = false => show Af.told (compactUpTo S.toArray (k + 1)) = Af.told (compactUpTo S.toArray k) by rw [Zoc S k hkp]
      have s1 : ∀ W,(Op.stringOp .add (ba (Af.told (compactUpTo S.toArray k))) (ba S[k])).run Tryz.prog W = .ok (.string (ba (Af.told (compactUpTo S.toArray k) ++ S[k]))) W := madd _ S[k] (by omega)
      have s2 : ∀ W,(Op.stringOp .add (ba (Af.told (compactUpTo S.toArray k) ++ S[k])) ⟨#[10]⟩).run Tryz.prog W = .ok (.string (ba (Af.told (compactUpTo S.toArray k) ++ S[k] ++ [10]))) W := madd (Af.told (compactUpTo S.toArray k) ++ S[k]) [10] (by rw [List.length_append];simp;omega)
      by_cases h0 : k = 0
      ·subst h0;have HE := hid1 (HKeep.out (Zsz S));clear HKeep HSkip hcs hS8 HLA;generalize S[0] = y at *;generalize Af.told (compactUpTo S.toArray 0) = t at *;generalize t ++ y ++ [10] = t2 at *;generalize t ++ y = t1 at *;go_wp2;go_quiet (fail)
       go_wp2;exact ⟨⟨1,_,by omega,by rw [HE.out],by go_num,rfl⟩,by simp [intOf];omega⟩
      ·obtain ⟨i,rfl⟩ : ∃ i,k = i + 1 := ⟨k - 1,by omega⟩
       have hc0 := hcs i (by omega)
       have HKE := hid1 (Zta S i hlt);have d0 : (((i + 1 : Nat) : Int) == 0) = false := by simp;omega
       have d0' : ((i : Int) + 1 == 0) = false := by simp;omega
       have v5 : (i : Int) < (S.length : Int) := by omega
       have v6 : (0 : Int) <= (i : Int) := by omega
       have v7 : (i : Int) + 1 < (S.length : Int) := by omega
       have v8 : (0 : Int) <= (i : Int) + 1 := by omega
       have v9 : IntKind.i64.wrap ((i : Int) + 1 - 1) = (i : Int) := by rw [IntKind.wrap_i64];omega
       cases hb : S[i + 1] == S[i] with
       | true =>
        have HE := hid1 (HSkip.out (by rw [HKE.out,hb];rfl))
        clear HKeep HSkip HKE hcs hS8 HLA s1 s2;generalize S[i + 1] = y1 at *;generalize S[i] = y0 at *;generalize Af.told (compactUpTo S.toArray (i + 1)) = t at *;go_wp2;go_quiet (fail)
        go_wp2;exact ⟨⟨i + 1 + 1,_,by omega,by rw [HE.out],by go_num,rfl⟩,by simp [intOf];omega⟩
       | false =>
        have HE := hid1 (HKeep.out (by rw [HKE.out,hb];rfl))
        clear HKeep HSkip HKE hcs hS8 HLA;generalize S[i + 1] = y1 at *;generalize S[i] = y0 at *;generalize Af.told (compactUpTo S.toArray (i + 1)) = t at *;generalize t ++ y1 ++ [10] = t2 at *;generalize t ++ y1 = t1 at *;go_wp2;go_quiet (fail)
        go_wp2;exact ⟨⟨i + 1 + 1,_,by omega,by rw [HE.out],by go_num,rfl⟩,by simp [intOf];omega⟩
     ·obtain rfl : k = S.length := by omega
      have v1 : ¬ (S.length : Int) < (S.length : Int) := by omega
      clear hS8 HLA;rw [<- HCU.out] at *;go_wp2;go_ret;refine ⟨?_,Zad hB q⟩;show Ending.returned (.string (ba (Af.told (Lib.compact S)))) = _
      rw [HE0.out]
end Go.Proofs.YtbgkfmodbofalaaGreatDoor
