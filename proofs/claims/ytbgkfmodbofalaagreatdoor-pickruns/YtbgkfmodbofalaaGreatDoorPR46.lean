import Derived.Test.YtbgkfmodbofalaaGreatDoorPR45
set_option maxRecDepth 100000
set_option maxHeartbeats 4000000
namespace Go.Proofs.YtbgkfmodbofalaaGreatDoor
section
open Go.RowKit Go.Shelf Go.Lib
theorem Zrt (x : List UInt8) (k : Nat) (hk : k < x.length) : Af.upper (x.take (k + 1)) = Af.upper (x.take k) ++ [Af.up x[k]] := by
 unfold Af.upper;rw [List.take_succ_eq_append_getElem hk,List.map_append];rfl
theorem up_yes {c : UInt8} (h1 : (97 : Int) <= (c.toNat : Int)) (h2 : (c.toNat : Int) <= 122) : [UInt8.ofNat (c.toNat - 32)] = [Af.up c] := by
 unfold Af.up;rw [if_pos ⟨by omega,by omega⟩]
theorem up_no {c : UInt8} (h : ¬ ((97 : Int) <= (c.toNat : Int) /\ (c.toNat : Int) <= 122)) : [c] = [Af.up c] := by
 unfold Af.up;rw [if_neg (by omega)]
theorem Zst (wd x : List UInt8) (g o cap : Nat) (hx : x.length <= 100000) (w : World) (hc : w.cell? ⟨g,o,none⟩ = some (.string (ba x))) (hg : g < w.heap.size) :
  Calls Tryz.prog 112 #[.string ⟨#[117,112,112,101,114]⟩,.string (ba wd),.slice (some ⟨g,o,none⟩) 1 cap] w fun e w' => e = .returned (.string (ba (Af.upper x))) /\ Below w.heap.size w w' := by
 obtain ⟨bs,eb,T⟩ := txt x;rw [eb] at hc;clear eb;have zx : (bs.size : Int) <= 100000 := by rw [T.size];omega
 have HB := hid1 Zfs;have HT := hid1 T;clear T;go_enter Tryz.func112,Tryz.ntmps112
 go_wp2;go_loopw [7,9] (fun s i wr => ∃ k : Nat,k <= x.length /\ s = .string (ba (Af.upper (x.take k))) /\ i = .int .i64 k /\ Below w.heap.size w wr) (fun _ i _ => x.length - (intOf i).toNat)
 case atStart => exact ⟨0,Nat.zero_le _,rfl,rfl,Below.refl _ _⟩
 case round =>
  obtain ⟨k,hk,rfl,rfl,hB⟩ := hrel;have hcw := (hB.cell (p := ⟨g,o,none⟩) hg).trans hc;have c0 : (0 : Int) <= (k : Int) := by omega
  by_cases hlt : k < x.length
  ·have hlt2 : k < bs.size := by rw [HT.out.size];exact hlt
   have c1 : (k : Int) < (bs.size : Int) := by omega
   have hget := HT.out.get k hlt hlt2;have HU := hid1 (Zrt x k hlt);have hul : (Af.upper (x.take k)).length <= 100000 := by simp [Af.upper];omega
   have hb : (x[k].toNat : Int) < 256 := by have := x[k].toNat_lt;omega
   generalize x[k] = b at *;generalize Af.upper (x.take k) = t at *;have s1 : ∀ (y : UInt8) W,(Op.stringOp .add (ba t) (ba [y])).run Tryz.prog W = .ok (.string (ba (t ++ [y]))) W := fun y => madd t [y] (by simp;omega)
   have q8 : IntKind.i64.wrap (k : Int) = (k : Int) := by rw [IntKind.wrap_i64];omega
   have q9 : IntKind.i64.wrap (b.toNat : Int) = (b.toNat : Int) := by rw [IntKind.wrap_i64];omega
   by_cases hl1 : (97 : Int) <= (b.toNat : Int)
   ·by_cases hl2 : (b.toNat : Int) <= 122
    ·have q7 : IntKind.i64.wrap ((b.toNat : Int) - 32) = ((b.toNat - 32 : Nat) : Int) := by rw [IntKind.wrap_i64];omega
     have HY := hid1 (up_yes hl1 hl2);have H1 := hid1 fun W => HB.out (b.toNat - 32) (by omega) W
     generalize b.toNat - 32 = n at *;go_wp2_with fail;refine Calls.mono (H1.out _) ?_;rintro e w1 ⟨rfl,g1⟩;go_wp2;exact ⟨⟨k + 1,by omega,by rw [HU.out,HY.out],by go_num,hB.trans (g1.mono hB.size)⟩,by simp [intOf];omega⟩
    ·have hl3 : (122 : Int) < (b.toNat : Int) := by omega
     have HY := hid1 (up_no (c := b) (by omega))
     have H1 := hid1 fun W => HB.out b.toNat (by omega) W
     go_wp2_with fail;refine Calls.mono (H1.out _) ?_;rintro e w1 ⟨rfl,g1⟩;go_wp2;exact ⟨⟨k + 1,by omega,by rw [HU.out,<- HY.out],by go_num,hB.trans (g1.mono hB.size)⟩,by simp [intOf];omega⟩
   ·have hl3 : (b.toNat : Int) < 97 := by omega
    have HY := hid1 (up_no (c := b) (by omega))
    have H1 := hid1 fun W => HB.out b.toNat (by omega) W
    go_wp2_with fail;refine Calls.mono (H1.out _) ?_;rintro e w1 ⟨rfl,g1⟩;go_wp2;exact ⟨⟨k + 1,by omega,by rw [HU.out,<- HY.out],by go_num,hB.trans (g1.mono hB.size)⟩,by simp [intOf];omega⟩
  ·obtain rfl : k = x.length := by omega
   have c1 : (bs.size : Int) <= (x.length : Int) := by rw [HT.out.size];omega
   rw [List.take_length] at *;go_wp2;go_ret;exact ⟨rfl,hB⟩
theorem Zvv (wd x : List UInt8) (n : Nat) (hn : numJ wd = (n : Int)) (g o cap : Nat) (hwd : wd.length <= 1000) (hx : x.length <= 100000) (w : World) (hc : w.cell? ⟨g,o,none⟩ = some (.string (ba x))) :
  Calls Tryz.prog 112 #[.string ⟨#[104,101,97,100]⟩,.string (ba wd),.slice (some ⟨g,o,none⟩) 1 cap] w fun e w' => e = .returned (.string (ba (Af.told ((Af.lines x).take n)))) /\ Below w.heap.size w w' := by
 have HL := hid1 (Zbl x (by omega) w)
 have hll : (Af.lines x).length <= 100000 := Nat.le_trans (Af.lines_len x) hx;have hlx : ∀ y ∈ Af.lines x,y.length <= 100000 := fun y hy => Nat.le_trans (Af.line_len hy) hx
 have htl : ∀ k,(Af.told ((Af.lines x).take k)).length <= 100001 := fun k => by
  have h2 := Zaz (l := Af.lines x) k;have h3 := (Af.told_lines_len x).2;omega
 generalize Af.lines x = L at *;have HX := hid1 hlx;have HTL := hid1 htl;have HN := hid1 fun W => Zbz wd (by omega) W
 rw [hn] at HN;have zl : (L.length : Int) <= 100000 := by omega
 clear hlx htl hn;go_enter Tryz.func112,Tryz.ntmps112
 go_wp2_with fail;refine Calls.mono HL.out ?_;rintro e w1 ⟨v,rfl,hrow,hB⟩;obtain ⟨pa,lc,rfl,hcap,hin⟩ := hrow;have HR := hid1 hin;clear hin HL hc;go_wp2;go_loopw [7,26] (fun s i wr => ∃ k : Nat,k <= L.length /\ k <= n /\ s = .string (ba (Af.told (L.take k))) /\ i = .int .i64 k /\ w1 = wr) (fun _ i _ => L.length - (intOf i).toNat)
 case atStart => exact ⟨0,Nat.zero_le _,Nat.zero_le _,rfl,rfl,rfl⟩
 case round =>
  obtain ⟨k,hk,hkn,rfl,rfl,rfl⟩ := hrel;have c0 : (0 : Int) <= (k : Int) := by omega
  have hl0 := HTL.out k;have H1 := HN.out w1;by_cases hlt : k < L.length
  ·have c1 : (k : Int) < (L.length : Int) := by omega
   by_cases hkn' : k < n
   ·obtain ⟨g1,cur,rfl,hg1,hcur⟩ := HR.out (by intro e;rw [e] at hlt;simp at hlt)
    have hcell := Zac hg1 (hcur k hlt);have hy := HX.out _ (List.getElem_mem hlt);have c2 : (k : Int) < (n : Int) := by omega
    have HE := hid1 (show Af.told (L.take (k + 1)) = Af.told (L.take k) ++ L[k] ++ [10] by rw [List.take_succ_eq_append_getElem hlt];exact Zek _ _)
    clear hcur HR hg1;generalize L[k] = y at *;generalize Af.told (L.take k) = t at *;have q8 : IntKind.i64.wrap (k : Int) = (k : Int) := by rw [IntKind.wrap_i64];omega
    have s1 : ∀ W,(Op.stringOp .add (ba t) (ba y)).run Tryz.prog W = .ok (.string (ba (t ++ y))) W := madd t y (by omega)
    have s2 : ∀ W,(Op.stringOp .add (ba (t ++ y)) ⟨#[10]⟩).run Tryz.prog W = .ok (.string (ba (t ++ y ++ [10]))) W := madd (t ++ y) [10] (by rw [List.length_append];simp;omega)
    generalize t ++ y ++ [10] = t2 at *;generalize t ++ y = t1 at *;go_wp2_with fail;refine Calls.mono H1 ?_;rintro e w2 ⟨rfl,rfl⟩;go_wp2;exact ⟨⟨k + 1,by omega,by omega,by rw [HE.out],by go_num,trivial⟩,by simp [intOf];omega⟩
   ·obtain rfl : k = n := by omega
    have c2 : ¬ (k : Int) < (k : Int) := by omega
    go_wp2_with fail;refine Calls.mono H1 ?_;rintro e w2 ⟨rfl,rfl⟩;go_wp2;go_ret;exact ⟨rfl,hB⟩
  ·obtain rfl : k = L.length := by omega
   have c1 : ¬ (L.length : Int) < (L.length : Int) := by omega
   have HE := hid1 (show L.take n = L by rw [List.take_of_length_le hkn])
   clear H1;go_wp2;go_ret;refine ⟨?_,hB⟩;show Ending.returned (.string (ba (Af.told L))) = _
   rw [HE.out]
end
section
open Go.Lib
theorem Zuo (a b : List UInt8) (ha : a ≠ []) : Lib.replaceAll [] a b = [] := by
 have h : Lib.index [] a = -1 := by
  cases a with
  | nil => exact absurd rfl ha
  | cons x y => rfl
 unfold Lib.replaceAll Lib.replace Lib.replaceNum;rw [Lib.count_miss h];split <;> simp [Lib.replaceK]
theorem Zko (s a b : List UInt8) (hab : a ≠ b) : Lib.replaceAll s a b = Lib.replaceK a b (Lib.count s a) s := by
 unfold Lib.replaceAll Lib.replace Lib.replaceNum;rw [if_neg (by simpa using hab),if_pos (.inl (by decide))]
theorem Zgn (s a : List UInt8) : Lib.replaceAll s a a = s := by
 unfold Lib.replaceAll Lib.replace;rw [if_pos (by simp)]
theorem Zup (s a b : List UInt8) (ha : a ≠ []) (h : a.isPrefixOf s = true) : Lib.replaceAll s a b = b ++ Lib.replaceAll (s.drop a.length) a b := by
 by_cases hab : a = b
 ·subst hab;rw [Zgn,Zgn];obtain ⟨t,rfl⟩ := List.isPrefixOf_iff_prefix.1 h;simp
 ·rw [Zko _ _ _ hab,Zko _ _ _ hab];have h0 : Lib.index s a = (0 : Nat) := by
   cases s with
   | nil =>
    cases a with
    | nil => exact absurd rfl ha
    | cons x y => simp at h
   | cons x y => unfold Lib.index;rw [if_pos h];rfl
  rw [Lib.count_hit ha h0,Nat.add_comm 1,Lib.replaceK_hit a b _ s 0 h0];simp
theorem Zqt (c : UInt8) (t a b : List UInt8) (ha : a ≠ []) (h : a.isPrefixOf (c :: t) = false) : Lib.replaceAll (c :: t) a b = c :: Lib.replaceAll t a b := by
 by_cases hab : a = b
 ·subst hab;rw [Zgn,Zgn]
 ·rw [Zko _ _ _ hab,Zko _ _ _ hab];have hi : Lib.index (c :: t) a = (if Lib.index t a == -1 then -1 else Lib.index t a + 1) := by
   show (if a.isPrefixOf (c :: t) then 0 else _) = _
   rw [h];rfl
  by_cases hm : Lib.index t a = -1
  ·rw [if_pos (by simp [hm])] at hi
   rw [Lib.count_miss hm,Lib.count_miss hi];rfl
  ·have hge := Lib.index_ge t a;obtain ⟨i,hti⟩ : ∃ i : Nat,Lib.index t a = i := ⟨(Lib.index t a).toNat,by omega⟩
   rw [if_neg (by simpa using hm),hti] at hi
   have hi' : Lib.index (c :: t) a = ((i + 1 : Nat) : Int) := by rw [hi];simp
   rw [Lib.count_hit ha hi',Lib.count_hit ha hti];have hd : (c :: t).drop (i + 1 + a.length) = t.drop (i + a.length) := by
    rw [show i + 1 + a.length = (i + a.length) + 1 by omega]
    rfl
   rw [hd,Nat.add_comm 1,Lib.replaceK_hit a b _ _ _ hi',Lib.replaceK_hit a b _ _ _ hti,hd];rfl
theorem Zzd (s a b : List UInt8) (ha : a ≠ []) : (Lib.replaceAll s a b).length <= s.length * (b.length + 1) := by
 have key : ∀ (n : Nat) (s : List UInt8),s.length = n -> (Lib.replaceAll s a b).length <= s.length * (b.length + 1) := by
  intro n
  induction n using Nat.strongRecOn with
  | _ n ih =>
   intro s hs
   cases s with
   | nil => rw [Zuo a b ha];simp
   | cons c t =>
    have hp : 0 < a.length := List.length_pos_iff.2 ha;cases h : a.isPrefixOf (c :: t) with
    | true =>
     have h1 := ih ((c :: t).drop a.length).length (by simp at hs ⊢;omega) _ rfl
     rw [Zup _ a b ha h,List.length_append];have h2 : ((c :: t).drop a.length).length * (b.length + 1) <= t.length * (b.length + 1) := Nat.mul_le_mul_right _ (by simp;omega)
     simp only [List.length_cons,Nat.add_mul,Nat.one_mul] at h1 h2 ⊢;omega
    | false =>
     have h1 := ih t.length (by simp at hs;omega) t rfl
     rw [Zqt c t a b ha h];simp only [List.length_cons,Nat.add_mul,Nat.one_mul];omega
 exact key s.length s rfl
theorem Zsg {s a b o : List UInt8} {i : Nat} (ha : a ≠ []) (h : Lib.occAt s a i = true) (ho : o ++ Lib.replaceAll (s.drop i) a b = Lib.replaceAll s a b) :
  (o ++ b) ++ Lib.replaceAll (s.drop (i + a.length)) a b = Lib.replaceAll s a b := by
 rw [<- ho,Zup (s.drop i) a b ha h,List.drop_drop,List.append_assoc]
theorem Zos {s a b o : List UInt8} {i : Nat} (ha : a ≠ []) (hi : i < s.length) (h : Lib.occAt s a i = false) (ho : o ++ Lib.replaceAll (s.drop i) a b = Lib.replaceAll s a b) :
  (o ++ [s[i]]) ++ Lib.replaceAll (s.drop (i + 1)) a b = Lib.replaceAll s a b := by
 have e : s.drop i = s[i] :: s.drop (i + 1) := List.drop_eq_getElem_cons hi;have h' : a.isPrefixOf (s[i] :: s.drop (i + 1)) = false := by rw [<- e];exact h
 rw [<- ho,e,Zqt _ _ a b ha h'];simp
end
section
open Go.RowKit Go.Shelf Go.Lib
theorem Znb (wd x a b : List UInt8) (g o cap : Nat) (hwd : wd.length <= 1000) (hx : x.length <= 10000) (hab : cutB 61 wd = [a,b]) (ha : a ≠ []) (hal : a.length <= 1000) (hbl : b.length <= 1000) (w : World) (hc : w.cell? ⟨g,o,none⟩ = some (.string (ba x))) (hg : g < w.heap.size) :
  Calls Tryz.prog 112 #[.string ⟨#[115,119,97,112]⟩,.string (ba wd),.slice (some ⟨g,o,none⟩) 1 cap] w fun e w' => e = .returned (.string (ba (Lib.replaceAll x a b))) /\ Below w.heap.size w w' := by
 have HL := hid1 (Zbr wd (by omega) 61 61 rfl w)
 rw [hab] at HL;have HH := hid1 fun (i : Nat) (hi : i <= x.length) V W (hW : Below V.heap.size V W) => (Znl x a i (by omega) (by omega) hi W).mono (R' := fun e w' => e = .returned (.bool (Lib.occAt x a i)) /\ Below V.heap.size V w') fun e w' ⟨h1,h2⟩ => ⟨h1,h2 ▸ hW⟩
 have HLen := hid1 (Zzd x a b ha);have zx : (x.length : Int) <= 10000 := by omega
 have za : (a.length : Int) <= 1000 := by omega
 clear hab;go_enter Tryz.func112,Tryz.ntmps112
 go_wp2_with fail;refine Calls.mono HL.out ?_;rintro e w1 ⟨v,rfl,hown,hB⟩;obtain ⟨pa,lc,rfl,hcap,hin⟩ := TRow.of_owns hown;obtain ⟨g1,cur,rfl,hg1,hcur⟩ := hin (by simp)
 have hca := Zac hg1 (hcur 0 (by simp))
 have hcb := Zac hg1 (hcur 1 (by simp))
 simp only [List.getElem_cons_zero,List.getElem_cons_succ] at hca hcb;have hcx := (hB.cell (p := ⟨g,o,none⟩) hg).trans hc;simp only [List.length_cons,List.length_nil,Nat.zero_add,Nat.reduceAdd] at hcap ⊢;have hg1w : g1 < w1.heap.size := (Array.getElem?_eq_some_iff.1 hg1).1;have hgw : g < w1.heap.size := Nat.lt_of_lt_of_le hg hB.size;clear HL hc hcur hin hown hg1;go_wp2
 go_loopw [7,23] (fun s i wr => ∃ (k : Nat) (t : List UInt8),k <= x.length /\ s = .string (ba t) /\ t ++ Lib.replaceAll (x.drop k) a b = Lib.replaceAll x a b /\ i = .int .i64 k /\ Below w1.heap.size w1 wr) (fun _ i _ => x.length - (intOf i).toNat)
 case atStart => exact ⟨0,[],Nat.zero_le _,rfl,rfl,rfl,Below.refl _ _⟩
 case round =>
  obtain ⟨k,t,hk,rfl,ht,rfl,hBr⟩ := hrel;have d0 := (hBr.cell (p := ⟨g,o,none⟩) hgw).trans hcx;have d1 := (hBr.cell (p := ⟨g1,0,none⟩) hg1w).trans hca;have d2 := (hBr.cell (p := ⟨g1,1,none⟩) hg1w).trans hcb;have hgr : g < wr.heap.size := Nat.lt_of_lt_of_le hgw hBr.size;have hg1r : g1 < wr.heap.size := Nat.lt_of_lt_of_le hg1w hBr.size;have c0 : (0 : Int) <= (k : Int) := by omega
  have htl : t.length <= 10000 * 1001 := by
   have h1 := congrArg List.length ht;rw [List.length_append] at h1;have h2 := HLen.out;have h3 : x.length * (b.length + 1) <= 10000 * 1001 := Nat.mul_le_mul hx (by omega)
   omega
  have HT := hid1 ht;clear ht;by_cases hlt : k < x.length
  ·have c1 : (k : Int) < (x.length : Int) := by omega
   have H1 := hid1 (HH.out k hk wr);have q8 : IntKind.i64.wrap ((k : Int) + 1) = (k : Int) + 1 := by rw [IntKind.wrap_i64];omega
   cases ho : Lib.occAt x a k with
   | true =>
    rw [ho] at H1;have hroom : k + a.length <= x.length := by
     rcases Lib.occAt_room ho with h | h
     ·exact h
     ·exact absurd h ha
    have HN := hid1 (Zsg ha ho HT.out);have s1 : ∀ W,(Op.stringOp .add (ba t) (ba b)).run Tryz.prog W = .ok (.string (ba (t ++ b))) W := madd t b (by omega)
    have hal1 : 0 < a.length := List.length_pos_iff.2 ha;have q9 : IntKind.i64.wrap ((k : Int) + (a.length : Int)) = (k : Int) + (a.length : Int) := by rw [IntKind.wrap_i64];omega
    generalize t ++ b = t1 at *;clear HT ho;go_wp2;go_region_held3 (fun w' => w'.cell? ⟨g,o,none⟩ = some (.string (ba x)) /\ w'.cell? ⟨g1,0,none⟩ = some (.string (ba a))) (first | go_keep | fail)
     (first | (go_at_call 168;refine (H1.out _ (by exact (Below.refl _ wr).drew)).mono ?_;rintro e w3 ⟨rfl,g3⟩;have e0 := (g3.cell (p := ⟨g,o,none⟩) hgr).trans d0;have e1 := (g3.cell (p := ⟨g1,0,none⟩) hg1r).trans d1;have e2 := (g3.cell (p := ⟨g1,1,none⟩) hg1r).trans d2) | fail)
    all_goals
     go_wp2;exact ⟨⟨k + a.length,t1,by omega,rfl,HN.out,by go_num,hBr.trans (g3.mono hBr.size)⟩,by simp [intOf];omega⟩
   | false =>
    rw [ho] at H1;have HN := hid1 (Zos ha hlt ho HT.out);have s1 : ∀ W,(Op.stringOp .add (ba t) (ba [x[k]])).run Tryz.prog W = .ok (.string (ba (t ++ [x[k]]))) W := madd t [x[k]] (by simp;omega)
    have hex : (ba x).extract k (k + 1) = ba [x[k]] := by
     rw [Txt.extract ⟨rfl⟩,List.drop_take];simp only [Nat.add_sub_cancel_left];rw [List.drop_eq_getElem_cons hlt];rfl
    have f1 : ((k : Int) + 1).toNat = k + 1 := by omega
    have f2 : (k : Int) + 1 <= (x.length : Int) := by omega
    have f3 : (k : Int) <= (k : Int) + 1 := by omega
    generalize x[k] = y at *;generalize t ++ [y] = t1 at *;clear HT ho;go_wp2;go_region_held3 (fun w' => w'.cell? ⟨g,o,none⟩ = some (.string (ba x)) /\ w'.cell? ⟨g1,0,none⟩ = some (.string (ba a))) (first | go_keep | fail)
     (first | (go_at_call 168;refine (H1.out _ (by exact (Below.refl _ wr).drew)).mono ?_;rintro e w3 ⟨rfl,g3⟩;have e0 := (g3.cell (p := ⟨g,o,none⟩) hgr).trans d0;have e1 := (g3.cell (p := ⟨g1,0,none⟩) hg1r).trans d1;have e2 := (g3.cell (p := ⟨g1,1,none⟩) hg1r).trans d2) | fail)
    all_goals
     go_wp2;exact ⟨⟨k + 1,t1,by omega,rfl,HN.out,by go_num,hBr.trans (g3.mono hBr.size)⟩,by simp [intOf];omega⟩
  ·obtain rfl : k = x.length := by omega
   have c1 : ¬ (x.length : Int) < (x.length : Int) := by omega
   have hend : t = Lib.replaceAll x a b := by
    have := HT.out;rw [List.drop_length,Zuo a b ha,List.append_nil] at this;exact this
   clear HT HH;go_wp2;go_ret;exact ⟨rfl,hB.trans (hBr.mono hB.size)⟩
end
section
open Go.RowKit Go.Shelf Go.Lib
open Af (Kd)
theorem Zrx {wd : List UInt8} (h : Af.isSwap wd = true) : cutB 61 wd = [(Lib.cut wd [61]).1,(Lib.cut wd [61]).2.1] /\ (Lib.cut wd [61]).1 ≠ [] := by
 have ha : (Lib.cut wd [61]).1 ≠ [] := by
  intro e
  unfold Af.isSwap at h;rw [e] at h;simp at h
 refine ⟨?_,ha⟩;rw [Zjx] at h;simp only [Bool.and_eq_true,decide_eq_true_eq] at h;have h2 := h.1;unfold Lib.cut;rw [Lib.index_one];by_cases hm : Lib.indexByte wd 61 = -1
 ·rw [Zcj 61 wd hm] at h2;simp at h2
 ·have hge := Lib.indexByte_ge wd 61;obtain ⟨i,hi⟩ : ∃ i : Nat,Lib.indexByte wd 61 = (i : Int) := ⟨(Lib.indexByte wd 61).toNat,by omega⟩
  obtain ⟨e1,e2⟩ := Zci 61 wd i hi;rw [e1,List.length_cons] at h2;rw [hi,e1];simp only [Int.natCast_nonneg,if_true,Int.toNat_natCast,List.length_cons,List.length_nil,Nat.zero_add];by_cases hm2 : Lib.indexByte (wd.drop (i + 1)) 61 = -1
  ·rw [Zcj 61 _ hm2]
  ·have hge2 := Lib.indexByte_ge (wd.drop (i + 1)) 61;obtain ⟨j,hj⟩ : ∃ j : Nat,Lib.indexByte (wd.drop (i + 1)) 61 = (j : Int) := ⟨(Lib.indexByte (wd.drop (i + 1)) 61).toNat,by omega⟩
   obtain ⟨f1,_⟩ := Zci 61 _ j hj;have hne := Zht 61 ((wd.drop (i + 1)).drop (j + 1));have h0 : 0 < (cutB 61 ((wd.drop (i + 1)).drop (j + 1))).length := List.length_pos_iff.2 hne;rw [f1,List.length_cons] at h2;omega
theorem Zga (wd : List UInt8) : ∀ (l : List (List UInt8)),(∀ y ∈ l,y.length <= 3000) -> (Lib.joinTail wd l).length <= l.length * (wd.length + 3000)
 | [],_ => by simp [Lib.joinTail]
 | x :: r,h => by
  have ih := Zga wd r fun y hy => h y (by simp [hy])
  have hx := h x (by simp)
  simp only [Lib.joinTail,List.map_cons,List.flatten_cons,List.length_append,List.length_cons,Nat.add_mul,Nat.one_mul] at ih ⊢;omega
theorem Zya {w : World} (k : Kd) (hk : k ≠ .write) (wd : List UInt8) (hl : wd.length <= 100) (v : Value) (ls : List (List UInt8)) (hrow : IRow w v ls) (hx : ∀ x ∈ ls,x.length <= 3000) (h1 : k.least <= ls.length) (h2 : ls.length <= k.most) (htk : k.takes wd = true) :
  Calls Tryz.prog 112 #[.string (ba k.name),.string (ba wd),v] w fun e w' => e = .returned (.string (ba (k.out wd ls))) /\ Below w.heap.size w w' := by
 obtain ⟨p,cap,rfl,hin⟩ := hrow;have hm8 : k.most <= 8 := by cases k <;> decide
 have hl1 : 1 <= k.least := by cases k <;> first | exact absurd rfl hk | decide
 obtain ⟨g,o,rfl,hg,hcur⟩ := hin (by intro e;rw [e] at h1;simp at h1;omega)
 have hone : k.most = 1 -> ∃ x,ls = [x] := fun e => one_of (by omega)
 have hx4 : ∀ x ∈ ls,x.length <= 4000 := fun x h => Nat.le_trans (hx x h) (by omega)
 cases k
 ·exact absurd rfl hk
 ·match ls,hcur,hx,h2 with
  | [],_,_,_ => simp at h1;omega
  | x :: l,hcur,hx,h2 =>
   simp only [List.length_cons] at h2;refine Zvu wd g o cap x l (by omega) (by omega) (fun y hy => Nat.le_trans (hx y (by simp [hy])) (by omega)) (fun k => ?_) w hcur
   have hx0 := hx x (by simp)
   have := Zga wd (l.take k) fun y hy => hx y (by simp [List.mem_of_mem_take hy])
   have h3 : (l.take k).length * (wd.length + 3000) <= 8 * 3100 := Nat.mul_le_mul (by simp;omega) (by omega)
   simp only [List.length_append];omega
 ·obtain ⟨x,rfl⟩ := hone rfl;have hxx := hx x (by simp)
  exact Zst wd x g o cap (by omega) w (hcur 0 (by simp)) hg
 ·obtain ⟨x,rfl⟩ := hone rfl;have hxx := hx x (by simp)
  exact Zsu wd x g o cap (by omega) (by omega) w (hcur 0 (by simp))
 ·exact Zvt wd htk g o cap ls (by omega) hx4 w hg hcur
 ·exact Zsv wd g o cap ls (by omega) hx4 w hg hcur
 ·obtain ⟨x,rfl⟩ := hone rfl;have hxx := hx x (by simp)
  obtain ⟨e1,e2⟩ := Zrx htk;have := Zld wd [61];exact Znb wd x _ _ g o cap (by omega) (by omega) e1 e2 (by omega) (by omega) w (hcur 0 (by simp)) hg
 ·obtain ⟨x,rfl⟩ := hone rfl;have hxx := hx x (by simp)
  obtain ⟨n,hn⟩ : ∃ n,numM 3 wd = some n := Option.isSome_iff_exists.1 htk
  have hJ : numJ wd = (n : Int) := by
   unfold numJ;rw [<- Zjr,hn]
  have e : Kd.head.out wd [x] = Af.told ((Af.lines x).take n) := by simp [Af.Kd.out,hn]
  rw [e];exact Zvv wd x n hJ g o cap (by omega) (by omega) w (hcur 0 (by simp))
theorem Zxc (nm wd : List UInt8) (p : Option Addr) (n cap c : Nat) (w : World) (HA : Hid (Calls Tryz.prog 39 #[.string (ba nm),.string (ba wd),.int .i64 n] w fun e w' => e = .returned (.int .i64 ((c + 1 : Nat) : Int)) /\ Below w.heap.size w w')) :
  Calls Tryz.prog 37 #[.string (ba nm),.string (ba wd),.slice p n cap] w fun e w' => e = .returned (.tuple #[.string (ba []),.int .i64 ((c + 1 : Nat) : Int)]) /\ Below w.heap.size w w' := by
 have z : (0 : Int) < ((c + 1 : Nat) : Int) := by omega
 generalize ((c + 1 : Nat) : Int) = c1 at *;go_enter Tryz.func37,Tryz.ntmps37
 go_wp2_with fail;refine Calls.mono HA.out ?_;rintro e w1 ⟨rfl,g1⟩;go_wp2;go_ret2;exact ⟨rfl,g1⟩
theorem Zqk (wd : List UInt8) (p : Option Addr) (n cap : Nat) (w : World) (hl : wd.length <= 100) (HA : Hid (Calls Tryz.prog 39 #[.string ⟨#[119,114,105,116,101]⟩,.string (ba wd),.int .i64 n] w fun e w' => e = .returned (.int .i64 0) /\ Below w.heap.size w w')) :
  Calls Tryz.prog 37 #[.string ⟨#[119,114,105,116,101]⟩,.string (ba wd),.slice p n cap] w fun e w' => e = .returned (.tuple #[.string (ba wd),.int .i64 0]) /\ Below w.heap.size w w' := by
 have z : (wd.length : Int) <= 100 := by omega
 go_enter Tryz.func37,Tryz.ntmps37
 go_wp2_with fail;refine Calls.mono HA.out ?_;rintro e w1 ⟨rfl,g1⟩;go_wp2;go_ret2;exact ⟨rfl,g1⟩
theorem Ztv (nm wd out : List UInt8) (p : Option Addr) (n cap : Nat) (w : World) (hnm : (nm == [119,114,105,116,101]) = false) (HA : Hid (Calls Tryz.prog 39 #[.string (ba nm),.string (ba wd),.int .i64 n] w fun e w' => e = .returned (.int .i64 0) /\ Below w.heap.size w w'))
  (HM : Hid (∀ W,Below w.heap.size w W -> Calls Tryz.prog 112 #[.string (ba nm),.string (ba wd),.slice p n cap] W fun e w' => e = .returned (.string (ba out)) /\ Below W.heap.size W w')) :
  Calls Tryz.prog 37 #[.string (ba nm),.string (ba wd),.slice p n cap] w fun e w' => e = .returned (.tuple #[.string (ba (if 2000 < out.length then [] else out)),.int .i64 (if 2000 < out.length then 10 else 0)]) /\ Below w.heap.size w w' := by
 by_cases h : 2000 < out.length
 ·rw [if_pos h,if_pos h];have z : (2000 : Int) < (out.length : Int) := by omega
  clear h;go_enter Tryz.func37,Tryz.ntmps37
  go_wp2_with fail;refine Calls.mono HA.out ?_;rintro e w1 ⟨rfl,g1⟩;go_wp2_with fail;refine Calls.mono (HM.out w1 g1) ?_;rintro e w2 ⟨rfl,g2⟩;go_wp2;go_ret2;exact ⟨rfl,g1.trans (g2.mono g1.size)⟩
 ·rw [if_neg h,if_neg h];have z : (out.length : Int) <= 2000 := by omega
  clear h;go_enter Tryz.func37,Tryz.ntmps37
  go_wp2_with fail;refine Calls.mono HA.out ?_;rintro e w1 ⟨rfl,g1⟩;go_wp2_with fail;refine Calls.mono (HM.out w1 g1) ?_;rintro e w2 ⟨rfl,g2⟩;go_wp2;go_ret2;exact ⟨rfl,g1.trans (g2.mono g1.size)⟩
theorem Zqp {w : World} (nm wd : List UInt8) (hl : wd.length <= 1000000) (v : Value) (ls : List (List UInt8)) (hrow : IRow w v ls) (hx : ∀ x ∈ ls,x.length <= 3000) :
  Calls Tryz.prog 37 #[.string (ba nm),.string (ba wd),v] w fun e w' => e = .returned (.tuple #[.string (ba (Af.actO nm wd ls).1),.int .i64 ((Af.actO nm wd ls).2 : Nat)]) /\ Below w.heap.size w w' := by
 have hrow' := hrow;obtain ⟨p,cap,rfl,_⟩ := hrow;have HA := hid1 (Zeb nm wd ls.length hl w);by_cases e0 : Af.actE nm wd ls.length = 0
 ·cases hk : Af.kindOf nm with
  | none => simp [Af.actE,hk] at e0
  | some k =>
   obtain rfl := Af.kindOf_some hk;have eO : Af.actO k.name wd ls = if 2000 < (k.out wd ls).length then ([],10) else (k.out wd ls,0) := by
    unfold Af.actO;rw [if_pos e0,hk]
   rw [e0] at HA;rw [Zoh] at e0;have hc : ¬ ((ls.length : Int) < k.least \/ (k.most : Int) < ls.length \/ k.takes wd = false) := fun h => by
    rw [if_pos h] at e0;cases e0
   rw [if_neg hc] at e0;have hw : ¬ 100 < wd.length := fun h => by
    rw [if_pos h] at e0;cases e0
   have ht : k.takes wd = true := by
    cases hb : k.takes wd with
    | true => rfl
    | false => exact absurd (.inr (.inr hb)) hc
   by_cases hwr : k = .write
   ·subst hwr;have : Af.actO Kd.write.name wd ls = (wd,0) := by
     rw [eO];have : ¬ 2000 < (Kd.write.out wd ls).length := by simp [Af.Kd.out];omega
     rw [if_neg this];rfl
    rw [this];exact Zqk wd p ls.length cap w (by omega) HA
   ·have := Ztv k.name wd (k.out wd ls) p ls.length cap w (by cases k <;> first | exact absurd rfl hwr | rfl) HA (hid1 fun W hW => Zya k hwr wd (by omega) _ ls (hrow'.below hW) hx (by omega) (by omega) ht)
    refine this.mono ?_;rintro e w' ⟨rfl,g⟩;refine ⟨?_,g⟩;rw [eO];split <;> rfl
 ·have eO : Af.actO nm wd ls = ([],Af.actE nm wd ls.length) := by
   unfold Af.actO;rw [if_neg e0]
  rw [eO];obtain ⟨c,hc⟩ : ∃ c,Af.actE nm wd ls.length = c + 1 := ⟨Af.actE nm wd ls.length - 1,by omega⟩
  simp only [hc] at HA ⊢;exact Zxc nm wd p ls.length cap c w HA
end
section
open Go.RowKit Go.Shelf Go.Lib
theorem E12.terr {w : World} {es : Nat -> Addr} (h : E12 w es) : TErr w (erOf es) :=
 ⟨h.c1,h.c2,h.c3,h.c5,h.c6,h.c7,fun _ => ⟨_,_,rfl⟩,rfl⟩
end
end Go.Proofs.YtbgkfmodbofalaaGreatDoor
