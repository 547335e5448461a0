import Derived.Test.YtflbofdpfgkmcaaGreatDoorRP45
set_option maxRecDepth 100000
set_option maxHeartbeats 8000000
namespace Go.Proofs.YtflbofdpfgkmcaaGreatDoor
open Go.RowKit Go.Shelf Go.Lib
theorem bytes_bound {m : Nat} : ∀ {ls : List (List UInt8)},(∀ x ∈ ls,x.length ≤ m) → Af.bytes ls ≤ ls.length * m
 | [],_ => by simp [Af.bytes]
 | x :: r,h => by
  have ih := bytes_bound (ls := r) fun y hy => h y (by simp [hy])
  have hx := h x (by simp)
  simp only [Af.bytes,List.map_cons,List.sum_cons,List.length_cons,Nat.add_mul,Nat.one_mul] at ih ⊢
  omega
theorem all_len_le : ∀ (ls : List (List UInt8)),(Af.all ls).length ≤ Af.bytes ls
 | [] => by simp [Af.all,Af.bytes]
 | x :: r => by
  have ih := all_len_le r
  have hx := Af.lines_len x
  simp only [Af.all,Af.bytes,List.flatMap_cons,List.length_append,List.map_cons,List.sum_cons] at ih ⊢
  omega
theorem take_bound {m n : Nat} {ls : List (List UInt8)} (hn : ls.length ≤ n) (h : ∀ x ∈ ls,x.length ≤ m) (k : Nat) : Af.bytes (ls.take k) ≤ n * m := by
 refine Nat.le_trans (bytes_bound fun x hx => h x (List.mem_of_mem_take hx)) (Nat.mul_le_mul_right _ ?_)
 simp
 omega
theorem made_count (wd : List UInt8) (g o cap : Nat) (ls : List (List UInt8)) (hn : ls.length ≤ 20) (hx : ∀ x ∈ ls,x.length ≤ 4000) (w : World) (hg : g < w.heap.size) (hcur : ∀ j (hj : j < ls.length),w.cell? ⟨g,o + j,none⟩ = some (.string (ba ls[j]))) :
  Calls Tryz.prog 89 #[.string ⟨#[99,111,117,110,116]⟩,.string (ba wd),.slice (some ⟨g,o,none⟩) ls.length cap] w fun e w' => e = .returned (.string (ba (Af.count ls))) ∧ Below w.heap.size w w' := by
 have zl : (ls.length : Int) ≤ 20 := by omega
 have HC := hid1 hcur
 have HX := hid1 hx
 have HTB := hid1 fun k => take_bound hn hx k
 have HLL := hid1 fun (y : List UInt8) (hy : y.length ≤ 4000) W => rLinesOf_calls y (by omega) W
 have HD := hid1 Decimal_calls
 clear hcur hx
 go_enter Tryz.func89,Tryz.ntmps89
 go_wp2
 go_loopw [19,20,21] (fun n b i wr => ∃ k : Nat,k ≤ ls.length ∧ n = .int .i64 ((Af.all (ls.take k)).length : Nat) ∧ b = .int .i64 (Af.bytes (ls.take k) : Nat) ∧ i = .int .i64 k ∧ Below w.heap.size w wr) (fun _ _ i _ => ls.length - (intOf i).toNat)
 case atStart => exact ⟨0,Nat.zero_le _,rfl,rfl,rfl,Below.refl _ _⟩
 case round =>
  obtain ⟨k,hk,rfl,rfl,rfl,hB⟩ := hrel
  have c0 : (0 : Int) ≤ (k : Int) := by omega
  have hb0 : Af.bytes (ls.take k) ≤ 80000 := HTB.out k
  have ha0 : (Af.all (ls.take k)).length ≤ 80000 := Nat.le_trans (all_len_le _) hb0
  by_cases hlt : k < ls.length
  ·have c1 : (k : Int) < (ls.length : Int) := by omega
   have hy := HX.out _ (List.getElem_mem hlt)
   have hcell := (hB.cell (p := ⟨g,o + k,none⟩) hg).trans (HC.out k hlt)
   have hgr : g < wr.heap.size := Nat.lt_of_lt_of_le hg hB.size
   have HA : Hid ((Af.all (ls.take (k + 1))).length = (Af.all (ls.take k)).length + (Af.lines ls[k]).length) := by
    refine hid1 ?_
    rw [all_take hlt,List.length_append]
   have HBy := hid1 (bytes_take hlt)
   have H1 := HLL.out ls[k] hy wr
   have hly := Af.lines_len ls[k]
   generalize ls[k] = y at *
   generalize Af.lines y = L at *
   generalize (Af.all (ls.take k)).length = n at *
   generalize Af.bytes (ls.take k) = b at *
   have q8 : IntKind.i64.wrap (k : Int) = (k : Int) := by rw [IntKind.wrap_i64];omega
   have q9 : IntKind.i64.wrap ((n : Int) + (L.length : Int)) = ((n + L.length : Nat) : Int) := by rw [IntKind.wrap_i64];omega
   have q7 : IntKind.i64.wrap ((b : Int) + (y.length : Int)) = ((b + y.length : Nat) : Int) := by rw [IntKind.wrap_i64];omega
   go_wp2_with fail
   refine Calls.mono H1 ?_
   rintro e w1 ⟨v,rfl,⟨pa,lc,rfl,hcap,_⟩,g1⟩
   have hcell1 := (g1.cell (p := ⟨g,o + k,none⟩) hgr).trans hcell
   go_wp2
   exact ⟨⟨k + 1,by omega,by rw [HA.out,Int.natCast_add],by rw [HBy.out,Int.natCast_add],by go_num,hB.trans (g1.mono hB.size)⟩,by simp [intOf];omega⟩
  ·obtain rfl : k = ls.length := by omega
   have c1 : ¬ (ls.length : Int) < (ls.length : Int) := by omega
   have HQ : Hid (Af.count ls = Lib.decDigits (Af.all ls).length ++ 32 :: (Lib.decDigits (Af.bytes ls) ++ [10])) := rfl
   rw [List.take_length] at *
   have H1 := hid1 fun W => HD.out (Af.all ls).length (by omega) W
   have H2 := hid1 fun W => HD.out (Af.bytes ls) (by omega) W
   have hd1 := digits_len (Af.all ls).length (by omega)
   have hd2 := digits_len (Af.bytes ls) (by omega)
   generalize (Af.all ls).length = n at *
   generalize Af.bytes ls = b at *
   generalize Lib.decDigits n = dn at *
   generalize Lib.decDigits b = db at *
   have s1 : ∀ W,(Op.stringOp .add (ba dn) ⟨#[32]⟩).run Tryz.prog W = .ok (.string (ba (dn ++ [32]))) W := madd dn [32] (by simp;omega)
   have s2 : ∀ W,(Op.stringOp .add (ba (dn ++ [32])) (ba db)).run Tryz.prog W = .ok (.string (ba (dn ++ [32] ++ db))) W := madd (dn ++ [32]) db (by simp;omega)
   have s3 : ∀ W,(Op.stringOp .add (ba (dn ++ [32] ++ db)) ⟨#[10]⟩).run Tryz.prog W = .ok (.string (ba (dn ++ [32] ++ db ++ [10]))) W := madd (dn ++ [32] ++ db) [10] (by simp;omega)
   have HE : Hid (Af.count ls = dn ++ [32] ++ db ++ [10]) := by
    refine hid1 ?_
    rw [HQ.out]
    simp
   generalize dn ++ [32] ++ db ++ [10] = t3 at *
   generalize dn ++ [32] ++ db = t2 at *
   generalize dn ++ [32] = t1 at *
   go_wp2_with fail
   refine Calls.mono (H1.out _) ?_
   rintro e w1 ⟨rfl,g1⟩
   go_wp2_with fail
   refine Calls.mono (H2.out _) ?_
   rintro e w2 ⟨rfl,g2⟩
   go_wp2
   go_ret
   have hB1 := hB.trans (g1.mono hB.size)
   refine ⟨?_,hB1.trans (g2.mono hB1.size)⟩
   show Ending.returned (.string (ba t3)) = _
   rw [HE.out]
theorem occAt_far {s wd : List UInt8} {i : Nat} (h : s.length < i + wd.length) (hi : i ≤ s.length) : Lib.occAt s wd i = false := by
 cases ho : Lib.occAt s wd i with
 | false => rfl
 | true =>
  rcases Lib.occAt_room ho with h1 | h1
  ·omega
  ·subst h1
   simp at h
   omega
theorem has_calls (s wd : List UInt8) (i : Nat) (hs : s.length ≤ 1000000) (hw : wd.length ≤ 1000000) (hi : i ≤ s.length) (w : World) :
  Calls Tryz.prog 143 #[.string (ba s),.int .i64 i,.string (ba wd)] w fun e w' => e = .returned (.bool (Lib.occAt s wd i)) ∧ w' = w := by
 have z1 : (s.length : Int) ≤ 1000000 := by omega
 have z2 : (wd.length : Int) ≤ 1000000 := by omega
 have z3 : (i : Int) ≤ (s.length : Int) := by omega
 have z4 : (0 : Int) ≤ (i : Int) := by omega
 have z5 : (0 : Int) ≤ (wd.length : Int) := by omega
 by_cases hr : i + wd.length ≤ s.length
 ·have ho := Lib.occAt_iff_take s wd i hr
  have d1 : decide ((i : Int) + (wd.length : Int) ≤ (s.length : Int)) = true := decide_eq_true (by omega)
  have d2 : (i : Int) + (wd.length : Int) ≤ (s.length : Int) := by omega
  have d3 : (i : Int) ≤ (i : Int) + (wd.length : Int) := by omega
  have e1 : (ba s).extract i (i + wd.length) = ba ((s.drop i).take wd.length) := by
   have := (Txt.mk (bs := ba s) (s := s) rfl).extract i (i + wd.length)
   rw [this]
   congr 1
   rw [List.drop_take,Nat.add_sub_cancel_left]
  have HO := hid1 ho
  generalize Lib.occAt s wd i = r at *
  generalize (s.drop i).take wd.length = y at *
  clear ho
  go_enter Tryz.func143,Tryz.ntmps143
  go_wp2
  go_ret
  exact ⟨ret_bool HO.out.symm,rfl⟩
 ·have ho := occAt_far (s := s) (wd := wd) (i := i) (by omega) hi
  have d1 : decide ((i : Int) + (wd.length : Int) ≤ (s.length : Int)) = false := decide_eq_false (by omega)
  rw [ho]
  clear ho
  go_enter Tryz.func143,Tryz.ntmps143
  go_wp2
  go_ret
  exact ⟨rfl,rfl⟩
theorem in_calls (s wd : List UInt8) (hs : s.length ≤ 1000000) (hw : wd.length ≤ 1000000) (w : World) :
  Calls Tryz.prog 142 #[.string (ba s),.string (ba wd)] w fun e w' => e = .returned (.bool (Lib.contains s wd)) ∧ w' = w := by
 have HH := hid1 fun (i : Nat) (hi : i ≤ s.length) => has_calls s wd i hs hw hi w
 have HI := hid1 (Lib.index_spec s wd)
 have HQ : Hid (Lib.contains s wd = decide (0 ≤ Lib.index s wd)) := rfl
 generalize Lib.contains s wd = r at *
 generalize Lib.index s wd = ix at *
 have z1 : (s.length : Int) ≤ 1000000 := by omega
 go_enter Tryz.func142,Tryz.ntmps142
 go_wp2
 go_loopw [5] (fun i wr => ∃ k : Nat,k ≤ s.length + 1 ∧ i = .int .i64 k ∧ Lib.NoOcc s wd k ∧ wr = w) (fun i _ => s.length + 1 - (intOf i).toNat)
 case atStart => exact ⟨0,by omega,rfl,Lib.NoOcc.zero _ _,rfl⟩
 case round =>
  obtain ⟨k,hk,rfl,hno,rfl⟩ := hrel
  have HNO := hid1 hno
  clear hno
  by_cases hle : k ≤ s.length
  ·have c1 : (k : Int) ≤ (s.length : Int) := by omega
   have H1 := HH.out k hle
   cases ho : Lib.occAt s wd k with
   | false =>
    rw [ho] at H1
    go_wp2_with fail
    refine Calls.mono H1 ?_
    rintro e w1 ⟨rfl,rfl⟩
    go_wp2
    exact ⟨⟨k + 1,by omega,by go_num,HNO.out.succ ho,trivial⟩,by simp [intOf];omega⟩
   | true =>
    rw [ho] at H1
    go_wp2_with fail
    refine Calls.mono H1 ?_
    rintro e w1 ⟨rfl,rfl⟩
    go_wp2
    go_ret
    refine ⟨ret_bool ?_,rfl⟩
    rw [HQ.out]
    rcases HI.out with ⟨_,h2⟩ | ⟨j,h2,_⟩
    ·rw [h2 k hle] at ho
     cases ho
    ·rw [h2];simp
  ·have c1 : (s.length : Int) < (k : Int) := by omega
   go_wp2
   go_ret
   refine ⟨ret_bool ?_,rfl⟩
   rw [HQ.out]
   rcases HI.out with ⟨h2,_⟩ | ⟨j,_,h3,h4,_⟩
   ·rw [h2];rfl
   ·have := HNO.out j (by omega)
    rw [this] at h4
    cases h4
theorem told_step (l : List (List UInt8)) (x : List UInt8) : Af.told (l ++ [x]) = Af.told l ++ x ++ [10] := by
 rw [Af.told_append]
 simp [Af.told]
theorem withW_take (wd : List UInt8) (L : List (List UInt8)) (k : Nat) (hk : k < L.length) : Af.withW wd (L.take (k + 1)) = Af.withW wd (L.take k) ++ (if Lib.contains L[k] wd then [L[k]] else []) := by
 unfold Af.withW
 rw [List.take_succ_eq_append_getElem hk,List.filter_append]
 congr 1
 by_cases h : Lib.contains L[k] wd <;> simp [h]
theorem made_lines (wd x : List UInt8) (g o cap : Nat) (hwd : wd.length ≤ 1000) (hx : x.length ≤ 100000) (w : World) (hc : w.cell? ⟨g,o,none⟩ = some (.string (ba x))) :
  Calls Tryz.prog 89 #[.string ⟨#[108,105,110,101,115]⟩,.string (ba wd),.slice (some ⟨g,o,none⟩) 1 cap] w fun e w' => e = .returned (.string (ba (Af.told (Af.withW wd (Af.lines x))))) ∧ Below w.heap.size w w' := by
 have HL := hid1 (rLinesOf_calls x (by omega) w)
 have hll : (Af.lines x).length ≤ 100000 := Nat.le_trans (Af.lines_len x) hx
 have hlx : ∀ y ∈ Af.lines x,y.length ≤ 100000 := fun y hy => Nat.le_trans (Af.line_len hy) hx
 have htl : ∀ k,(Af.told (Af.withW wd ((Af.lines x).take k))).length ≤ 100001 := fun k => by
  have h1 := withW_len wd ((Af.lines x).take k)
  have h2 := told_take_len (l := Af.lines x) k
  have h3 := (Af.told_lines_len x).2
  omega
 generalize Af.lines x = L at *
 have HX := hid1 hlx
 have HTL := hid1 htl
 have HI := hid1 fun (y : List UInt8) (hy : y.length ≤ 100000) W => in_calls y wd (by omega) (by omega) W
 have zl : (L.length : Int) ≤ 100000 := by omega
 clear hlx htl
 go_enter Tryz.func89,Tryz.ntmps89
 go_wp2_with fail
 refine Calls.mono HL.out ?_
 rintro e w1 ⟨v,rfl,hrow,hB⟩
 obtain ⟨pa,lc,rfl,hcap,hin⟩ := hrow
 have HR := hid1 hin
 clear hin HL hc
 go_wp2
 go_loopw [7,12] (fun s i wr => ∃ k : Nat,k ≤ L.length ∧ s = .string (ba (Af.told (Af.withW wd (L.take k)))) ∧ i = .int .i64 k ∧ w1 = wr) (fun _ i _ => L.length - (intOf i).toNat)
 case atStart => exact ⟨0,Nat.zero_le _,rfl,rfl,rfl⟩
 case round =>
  obtain ⟨k,hk,rfl,rfl,rfl⟩ := hrel
  have c0 : (0 : Int) ≤ (k : Int) := by omega
  have hl0 := HTL.out k
  by_cases hlt : k < L.length
  ·obtain ⟨g1,cur,rfl,hg1,hcur⟩ := HR.out (by intro e;rw [e] at hlt;simp at hlt)
   have hcell := cell_of_row hg1 (hcur k hlt)
   have c1 : (k : Int) < (L.length : Int) := by omega
   have hy := HX.out _ (List.getElem_mem hlt)
   have HW := hid1 (withW_take wd L k hlt)
   have H1 := HI.out L[k] hy w1
   clear hcur HR hg1
   generalize L[k] = y at *
   generalize Af.withW wd (L.take k) = fl at *
   have q8 : IntKind.i64.wrap (k : Int) = (k : Int) := by rw [IntKind.wrap_i64];omega
   cases hcn : Lib.contains y wd with
   | false =>
    rw [hcn] at H1
    have HE := hid1 (show Af.told (Af.withW wd (L.take (k + 1))) = Af.told fl by rw [HW.out,hcn];simp)
    generalize Af.told fl = t at *
    go_wp2_with fail
    refine Calls.mono H1 ?_
    rintro e w2 ⟨rfl,rfl⟩
    go_wp2
    exact ⟨⟨k + 1,by omega,by rw [HE.out],by go_num,trivial⟩,by simp [intOf];omega⟩
   | true =>
    rw [hcn] at H1
    have HE := hid1 (show Af.told (Af.withW wd (L.take (k + 1))) = Af.told fl ++ y ++ [10] by rw [HW.out,hcn];exact told_step fl y)
    generalize Af.told fl = t at *
    have s1 : ∀ W,(Op.stringOp .add (ba t) (ba y)).run Tryz.prog W = .ok (.string (ba (t ++ y))) W := madd t y (by omega)
    have s2 : ∀ W,(Op.stringOp .add (ba (t ++ y)) ⟨#[10]⟩).run Tryz.prog W = .ok (.string (ba (t ++ y ++ [10]))) W := madd (t ++ y) [10] (by rw [List.length_append];simp;omega)
    generalize t ++ y ++ [10] = t2 at *
    generalize t ++ y = t1 at *
    go_wp2_with fail
    refine Calls.mono H1 ?_
    rintro e w2 ⟨rfl,rfl⟩
    go_wp2
    exact ⟨⟨k + 1,by omega,by rw [HE.out],by go_num,trivial⟩,by simp [intOf];omega⟩
  ·obtain rfl : k = L.length := by omega
   have c1 : ¬ (L.length : Int) < (L.length : Int) := by omega
   rw [List.take_length] at *
   go_wp2
   go_ret
   exact ⟨rfl,hB⟩
def SoRow (w : World) (v : Value) (L : List (List UInt8)) : Prop :=
 (v = .slice none 0 0 ∧ L = []) ∨ (L ≠ [] ∧ ∃ g cap,v = .slice (some ⟨g,0,none⟩) L.length cap ∧ TRow w v L)
theorem SoRow.below {w w' : World} {v : Value} {L : List (List UInt8)} (h : SoRow w v L) (hb : Below w.heap.size w w') : SoRow w' v L := by
 rcases h with h | ⟨h0,g,cap,e,h⟩
 ·exact .inl h
 ·exact .inr ⟨h0,g,cap,e,h.below hb⟩
theorem SoRow.of_owns {w : World} {base : Nat} {v : Value} {r : List (List UInt8)} (h : w.ownsRow base 9 1 v r.length (r.map sv)) (hr : r ≠ []) : SoRow w v r := by
 have ht : TRow w v r := TRow.of_owns h
 obtain ⟨p,cap,rfl,hcap,hin⟩ := ht
 obtain ⟨g,cur,rfl,hg,hcur⟩ := hin hr
 exact .inr ⟨hr,g,cap,rfl,TRow.of_owns h⟩
theorem SoRow.cells {w : World} {v : Value} {L : List (List UInt8)} (h : SoRow w v L) : ∃ p c,v = .slice p L.length c ∧ ∀ j,j < L.length → ∃ g,p = some ⟨g,0,none⟩ ∧ ∀ i (hi : i < L.length),w.cell? ⟨g,i,none⟩ = some (.string (ba L[i])) := by
 rcases h with ⟨rfl,rfl⟩ | ⟨h0,g,cap,rfl,h⟩
 ·exact ⟨none,0,rfl,fun j hj => absurd hj (by simp)⟩
 ·obtain ⟨p,c,e,_,hin⟩ := h
  obtain ⟨g',cur,rfl,hg,hcur⟩ := hin h0
  obtain ⟨rfl,rfl⟩ : g = g' ∧ cap = c := by simpa using e
  exact ⟨_,_,rfl,fun j hj => ⟨g,rfl,fun i hi => cell_of_row hg (hcur i hi)⟩⟩
theorem laid_ne {l r : List (List UInt8)} {x : List UInt8} (h : Af.Laid l x r) : r ≠ [] := by
 obtain ⟨k,_,rfl,_⟩ := h
 simp
theorem lay_srt {w : World} {v : Value} {ms : List (List UInt8)} (h : SoRow w v (Af.srt ms)) (hl : ms.length ≤ 100000) (x : List UInt8) :
  Calls Tryz.prog 102 #[v,.string (ba x)] w fun e w' => ∃ v',e = .returned v' ∧ SoRow w' v' (Af.srt (ms ++ [x])) ∧ Below w.heap.size w w' := by
 rcases h with ⟨rfl,h0⟩ | ⟨h0,g,cap,rfl,h⟩
 ·refine (lay_calls0 x w).mono ?_
  rintro e w' ⟨v',r,rfl,hr,ho,hb⟩
  have hne := laid_ne hr
  rw [← h0] at hr
  rw [laid_srt hr] at ho hne
  exact ⟨v',rfl,SoRow.of_owns ho hne,hb⟩
 ·refine (lay_calls g cap (Af.srt ms) x (by rw [Af.srt_len];exact hl) h0 w h).mono ?_
  rintro e w' ⟨v',r,rfl,hr,ho,hb⟩
  have hne := laid_ne hr
  rw [laid_srt hr] at ho hne
  exact ⟨v',rfl,SoRow.of_owns ho hne,hb⟩
theorem told_sum {m n : Nat} {ls : List (List UInt8)} (hn : ls.length ≤ n) (hx : ∀ x ∈ ls,x.length ≤ m) : (Af.told (Af.srt (Af.all ls))).length ≤ n * (m + 1) := by
 rw [Af.told_perm (Af.srt_perm _)]
 refine Nat.le_trans (Af.told_all_len ls) ?_
 have key : ∀ (l : List (List UInt8)),(∀ x ∈ l,x.length ≤ m) → (l.map fun x => x.length + 1).sum ≤ l.length * (m + 1) := fun l => by
  induction l with
  | nil => simp
  | cons x r ih =>
   intro h
   have i1 := ih fun y hy => h y (by simp [hy])
   have i2 := h x (by simp)
   simp only [List.map_cons,List.sum_cons,List.length_cons,Nat.add_mul,Nat.one_mul] at i1 ⊢
   omega
 exact Nat.le_trans (key ls hx) (Nat.mul_le_mul_right _ hn)
theorem told_count (S : List (List UInt8)) : S.length ≤ (Af.told S).length := by
 induction S with
 | nil => simp
 | cons x r ih =>
  have e : Af.told (x :: r) = x ++ 10 :: Af.told r := by simp [Af.told]
  rw [e,List.length_append,List.length_cons,List.length_cons]
  omega
theorem line_all {m : Nat} {ls : List (List UInt8)} (hx : ∀ x ∈ ls,x.length ≤ m) : ∀ y ∈ Af.srt (Af.all ls),y.length ≤ m := fun y hy => by
 obtain ⟨s,hs,h⟩ := List.mem_flatMap.1 ((Af.srt_perm _).mem_iff.1 hy)
 exact Nat.le_trans (Af.line_len h) (hx s hs)
theorem made_sort (wd : List UInt8) (htk : Af.Kd.sort.takes wd = true) (g o cap : Nat) (ls : List (List UInt8)) (hn : ls.length ≤ 20) (hx : ∀ x ∈ ls,x.length ≤ 4000) (w : World) (hg : g < w.heap.size) (hcur : ∀ j (hj : j < ls.length),w.cell? ⟨g,o + j,none⟩ = some (.string (ba ls[j]))) :
  Calls Tryz.prog 89 #[.string ⟨#[115,111,114,116]⟩,.string (ba wd),.slice (some ⟨g,o,none⟩) ls.length cap] w fun e w' => e = .returned (.string (ba (Af.sorted wd ls))) ∧ Below w.heap.size w w' := by
 have zl : (ls.length : Int) ≤ 20 := by omega
 have hwd : wd = [] ∨ wd = oncew := by
  have : wd ∈ [[],oncew] := of_decide_eq_true htk
  simpa using this
 have HC := hid1 hcur
 have HX := hid1 hx
 have HTB := hid1 fun k => take_bound hn hx k
 have HTS := hid1 (told_sum hn hx)
 have HLA := hid1 (line_all hx)
 have HLL := hid1 fun (y : List UInt8) (hy : y.length ≤ 4000) W => rLinesOf_calls y (by omega) W
 clear hcur hx htk
 go_enter Tryz.func89,Tryz.ntmps89
 go_wp2
 go_loopw [14,15] (fun l i wr => ∃ k : Nat,k ≤ ls.length ∧ i = .int .i64 k ∧ SoRow wr l (Af.srt (Af.all (ls.take k))) ∧ Below w.heap.size w wr) (fun _ i _ => ls.length - (intOf i).toNat)
 case atStart => exact ⟨0,Nat.zero_le _,rfl,.inl ⟨rfl,srt_nil⟩,Below.refl _ _⟩
 case round =>
  obtain ⟨k,hk,rfl,hrow,hB⟩ := hrel
  have c0 : (0 : Int) ≤ (k : Int) := by omega
  have HR := hid1 hrow
  clear hrow
  by_cases hlt : k < ls.length
  ·have c1 : (k : Int) < (ls.length : Int) := by omega
   have hb0 : Af.bytes (ls.take (k + 1)) ≤ 80000 := HTB.out (k + 1)
   have ha0 : (Af.all (ls.take (k + 1))).length ≤ 80000 := Nat.le_trans (all_len_le _) hb0
   have hy := HX.out _ (List.getElem_mem hlt)
   have hcell := (hB.cell (p := ⟨g,o + k,none⟩) hg).trans (HC.out k hlt)
   have HA := hid1 (all_take hlt)
   rw [HA.out,List.length_append] at ha0
   have H1 := HLL.out ls[k] hy wr
   generalize ls[k] = y at *
   generalize Af.lines y = L at *
   generalize Af.all (ls.take k) = ms at *
   have q8 : IntKind.i64.wrap (k : Int) = (k : Int) := by rw [IntKind.wrap_i64];omega
   have zL : (L.length : Int) ≤ 80000 := by omega
   go_wp2_with fail
   refine Calls.mono H1 ?_
   rintro e w1 ⟨vL,rfl,hL,g1⟩
   have HL := hid1 hL
   obtain ⟨pa,lc,rfl,hcap,_⟩ := hL
   have HR1 := hid1 (HR.out.below g1)
   have hB1 := hB.trans (g1.mono hB.size)
   clear HR H1 hcell g1
   generalize wr = w0 at *
   go_wp2
   go_loopw [14,17] (fun l j wr => ∃ m : Nat,m ≤ L.length ∧ j = .int .i64 m ∧ SoRow wr l (Af.srt (ms ++ L.take m)) ∧ Below w1.heap.size w1 wr) (fun _ j _ => L.length - (intOf j).toNat)
   case atStart => exact ⟨0,Nat.zero_le _,rfl,by simpa using HR1.out,Below.refl _ _⟩
   case round =>
    obtain ⟨m,hm,rfl,hrow,hBr⟩ := hrel
    have HR := hid1 hrow
    clear hrow
    have c2 : (0 : Int) ≤ (m : Int) := by omega
    have q7 : IntKind.i64.wrap (m : Int) = (m : Int) := by rw [IntKind.wrap_i64];omega
    by_cases hmt : m < L.length
    ·have c3 : (m : Int) < (L.length : Int) := by omega
     obtain ⟨_,_,e1,_,hin⟩ := HL.out
     obtain ⟨g1,cur,rfl,hg1,hcur⟩ := hin (by intro e;rw [e] at hmt;simp at hmt)
     obtain ⟨rfl,rfl⟩ : pa = some ⟨g1,0,none⟩ ∧ _ := by simpa using e1
     have hc1 := (hBr.cell (p := ⟨g1,m,none⟩) (Array.getElem?_eq_some_iff.1 hg1).1).trans (cell_of_row hg1 (hcur m hmt))
     have H2 := hid1 (lay_srt HR.out (by simp;omega) L[m])
     have HS := hid1 (show ms ++ L.take m ++ [L[m]] = ms ++ L.take (m + 1) by rw [List.take_succ_eq_append_getElem hmt,List.append_assoc])
     rw [HS.out] at H2
     clear hcur hg1 hin HL
     generalize L[m] = z at *
     go_wp2_with fail
     refine Calls.mono H2.out ?_
     rintro e w3 ⟨v3,rfl,hrow3,g3⟩
     have HR3 := hid1 hrow3
     clear hrow3
     go_wp2
     exact ⟨⟨m + 1,by omega,by go_num,HR3.out,hBr.trans (g3.mono hBr.size)⟩,by simp [intOf];omega⟩
    ·obtain rfl : m = L.length := by omega
     have c3 : ¬ (L.length : Int) < (L.length : Int) := by omega
     rw [List.take_length] at *
     clear HL
     go_wp2
     exact ⟨⟨k + 1,by omega,by go_num,by rw [HA.out];exact HR.out,hB1.trans (hBr.mono hB1.size)⟩,by simp [intOf];omega⟩
  ·obtain rfl : k = ls.length := by omega
   have c1 : ¬ (ls.length : Int) < (ls.length : Int) := by omega
   rw [List.take_length] at *
   have hso : Af.sorted wd ls = Af.told (if wd = oncew then Lib.compact (Af.srt (Af.all ls)) else Af.srt (Af.all ls)) := rfl
   have HSO := hid1 hso
   clear hso HTB HX HC
   obtain ⟨p8,c8,rfl,hS0⟩ := HR.out.cells
   have hS8 := hid1 hS0
   clear hS0 HR
   generalize Af.srt (Af.all ls) = S at *
   have hS1 : S.length ≤ 80020 := by
    have h1 := HTS.out
    have h2 := told_count S
    omega
   have zS : (S.length : Int) ≤ 80020 := by omega
   generalize wr = w8 at *
   rcases hwd with hwd | hwd
   ·have q0 : wd.isEmpty = true := by rw [hwd];rfl
    have HE0 : Hid (Af.sorted wd ls = Af.told S) := by
     refine hid1 ?_
     rw [HSO.out,if_neg (by rw [hwd];decide)]
    clear hwd HSO
    go_wp2
    go_loopw [7,18] (fun s i wr => ∃ k q : Nat,k ≤ S.length ∧ s = .string (ba (Af.told (S.take k))) ∧ i = .int .i64 k ∧ wr = w8.drewN q) (fun _ i _ => S.length - (intOf i).toNat)
    case atStart => exact ⟨0,0,Nat.zero_le _,rfl,rfl,rfl⟩
    case round =>
     obtain ⟨k,q,hk,rfl,rfl,rfl⟩ := hrel
     have v0 : (0 : Int) ≤ (k : Int) := by omega
     have hl0 := Nat.le_trans (told_take_len (l := S) k) HTS.out
     by_cases hlt : k < S.length
     ·have v1 : (k : Int) < (S.length : Int) := by omega
      obtain ⟨g1,rfl,hcs⟩ := hS8.out k hlt
      have hc1 := hcs k hlt
      have hy := HLA.out _ (List.getElem_mem hlt)
      have HE := hid1 (show Af.told (S.take (k + 1)) = Af.told (S.take k) ++ S[k] ++ [10] by rw [List.take_succ_eq_append_getElem hlt];exact told_step _ _)
      clear hcs hS8 HLA
      generalize S[k] = y at *
      generalize Af.told (S.take k) = t at *
      have q8 : IntKind.i64.wrap (k : Int) = (k : Int) := by rw [IntKind.wrap_i64];omega
      have s1 : ∀ W,(Op.stringOp .add (ba t) (ba y)).run Tryz.prog W = .ok (.string (ba (t ++ y))) W := madd t y (by omega)
      have s2 : ∀ W,(Op.stringOp .add (ba (t ++ y)) ⟨#[10]⟩).run Tryz.prog W = .ok (.string (ba (t ++ y ++ [10]))) W := madd (t ++ y) [10] (by rw [List.length_append];simp;omega)
      generalize t ++ y ++ [10] = t2 at *
      generalize t ++ y = t1 at *
      go_wp2
      go_quiet (fail)
      go_wp2
      exact ⟨⟨k + 1,_,by omega,by rw [HE.out],by go_num,rfl⟩,by simp [intOf];omega⟩
     ·obtain rfl : k = S.length := by omega
      have v1 : ¬ (S.length : Int) < (S.length : Int) := by omega
      rw [List.take_length] at *
      clear hS8 HLA
      go_wp2
      go_ret
      refine ⟨?_,below_draws hB q⟩
      show Ending.returned (.string (ba (Af.told S))) = _
      rw [HE0.out]
   ·have q0 : wd.isEmpty = false := by rw [hwd];rfl
    have HE0 : Hid (Af.sorted wd ls = Af.told (Lib.compact S)) := by
     refine hid1 ?_
     rw [HSO.out,if_pos hwd]
    clear hwd HSO
    have HCU : Hid (Lib.compact S = compactUpTo S.toArray S.length) := by
     refine hid1 ?_
     rw [Lib.compact]
    go_wp2
    go_loopw [7,18] (fun s i wr => ∃ k q : Nat,k ≤ S.length ∧ s = .string (ba (Af.told (compactUpTo S.toArray k))) ∧ i = .int .i64 k ∧ wr = w8.drewN q) (fun _ i _ => S.length - (intOf i).toNat)
    case atStart => exact ⟨0,0,Nat.zero_le _,rfl,rfl,rfl⟩
    case round =>
     obtain ⟨k,q,hk,rfl,rfl,rfl⟩ := hrel
     have v0 : (0 : Int) ≤ (k : Int) := by omega
     have hl0 := Nat.le_trans (Af.compact_told_len S k hk) (Nat.le_trans (told_take_len (l := S) k) HTS.out)
     by_cases hlt : k < S.length
     ·have v1 : (k : Int) < (S.length : Int) := by omega
      obtain ⟨g1,rfl,hcs⟩ := hS8.out k hlt
      have hc1 := hcs k hlt
      have hy := HLA.out _ (List.getElem_mem hlt)
      have q8 : IntKind.i64.wrap (k : Int) = (k : Int) := by rw [IntKind.wrap_i64];omega
      have HKeep := hid1 fun hkp : keeps S.toArray k = true => show Af.told (compactUpTo S.toArray (k + 1)) = Af.told (compactUpTo S.toArray k) ++ S[k] ++ [10] by rw [(compact_keep S k hlt hkp).1];exact told_step _ _
      have HSkip := hid1 fun hkp : keeps S.toArray k = false => show Af.told (compactUpTo S.toArray (k + 1)) = Af.told (compactUpTo S.toArray k) by rw [compact_skip S k hkp]
      have s1 : ∀ W,(Op.stringOp .add (ba (Af.told (compactUpTo S.toArray k))) (ba S[k])).run Tryz.prog W = .ok (.string (ba (Af.told (compactUpTo S.toArray k) ++ S[k]))) W := madd _ S[k] (by omega)
      have s2 : ∀ W,(Op.stringOp .add (ba (Af.told (compactUpTo S.toArray k) ++ S[k])) ⟨#[10]⟩).run Tryz.prog W = .ok (.string (ba (Af.told (compactUpTo S.toArray k) ++ S[k] ++ [10]))) W := madd (Af.told (compactUpTo S.toArray k) ++ S[k]) [10] (by rw [List.length_append];simp;omega)
      by_cases h0 : k = 0
      ·subst h0
       have HE := hid1 (HKeep.out (keeps_zero S))
       clear HKeep HSkip hcs hS8 HLA
       generalize S[0] = y at *
       generalize Af.told (compactUpTo S.toArray 0) = t at *
       generalize t ++ y ++ [10] = t2 at *
       generalize t ++ y = t1 at *
       go_wp2
       go_quiet (fail)
       go_wp2
       exact ⟨⟨1,_,by omega,by rw [HE.out],by go_num,rfl⟩,by simp [intOf];omega⟩
      ·obtain ⟨i,rfl⟩ : ∃ i,k = i + 1 := ⟨k - 1,by omega⟩
       have hc0 := hcs i (by omega)
       have HKE := hid1 (keeps_succ S i hlt)
       have d0 : (((i + 1 : Nat) : Int) == 0) = false := by simp;omega
       have d0' : ((i : Int) + 1 == 0) = false := by simp;omega
       have v5 : (i : Int) < (S.length : Int) := by omega
       have v6 : (0 : Int) ≤ (i : Int) := by omega
       have v7 : (i : Int) + 1 < (S.length : Int) := by omega
       have v8 : (0 : Int) ≤ (i : Int) + 1 := by omega
       have v9 : IntKind.i64.wrap ((i : Int) + 1 - 1) = (i : Int) := by rw [IntKind.wrap_i64];omega
       cases hb : S[i + 1] == S[i] with
       | true =>
        have HE := hid1 (HSkip.out (by rw [HKE.out,hb];rfl))
        clear HKeep HSkip HKE hcs hS8 HLA s1 s2
        generalize S[i + 1] = y1 at *
        generalize S[i] = y0 at *
        generalize Af.told (compactUpTo S.toArray (i + 1)) = t at *
        go_wp2
        go_quiet (fail)
        go_wp2
        exact ⟨⟨i + 1 + 1,_,by omega,by rw [HE.out],by go_num,rfl⟩,by simp [intOf];omega⟩
       | false =>
        have HE := hid1 (HKeep.out (by rw [HKE.out,hb];rfl))
        clear HKeep HSkip HKE hcs hS8 HLA
        generalize S[i + 1] = y1 at *
        generalize S[i] = y0 at *
        generalize Af.told (compactUpTo S.toArray (i + 1)) = t at *
        generalize t ++ y1 ++ [10] = t2 at *
        generalize t ++ y1 = t1 at *
        go_wp2
        go_quiet (fail)
        go_wp2
        exact ⟨⟨i + 1 + 1,_,by omega,by rw [HE.out],by go_num,rfl⟩,by simp [intOf];omega⟩
     ·obtain rfl : k = S.length := by omega
      have v1 : ¬ (S.length : Int) < (S.length : Int) := by omega
      clear hS8 HLA
      rw [← HCU.out] at *
      go_wp2
      go_ret
      refine ⟨?_,below_draws hB q⟩
      show Ending.returned (.string (ba (Af.told (Lib.compact S)))) = _
      rw [HE0.out]
theorem upper_take (x : List UInt8) (k : Nat) (hk : k < x.length) : Af.upper (x.take (k + 1)) = Af.upper (x.take k) ++ [Af.up x[k]] := by
 unfold Af.upper
 rw [List.take_succ_eq_append_getElem hk,List.map_append]
 rfl
theorem up_yes {c : UInt8} (h1 : (97 : Int) ≤ (c.toNat : Int)) (h2 : (c.toNat : Int) ≤ 122) : [UInt8.ofNat (c.toNat - 32)] = [Af.up c] := by
 unfold Af.up
 rw [if_pos ⟨by omega,by omega⟩]
theorem up_no {c : UInt8} (h : ¬ ((97 : Int) ≤ (c.toNat : Int) ∧ (c.toNat : Int) ≤ 122)) : [c] = [Af.up c] := by
 unfold Af.up
 rw [if_neg (by omega)]
theorem made_upper (wd x : List UInt8) (g o cap : Nat) (hx : x.length ≤ 100000) (w : World) (hc : w.cell? ⟨g,o,none⟩ = some (.string (ba x))) (hg : g < w.heap.size) :
  Calls Tryz.prog 89 #[.string ⟨#[117,112,112,101,114]⟩,.string (ba wd),.slice (some ⟨g,o,none⟩) 1 cap] w fun e w' => e = .returned (.string (ba (Af.upper x))) ∧ Below w.heap.size w w' := by
 obtain ⟨bs,eb,T⟩ := txt x
 rw [eb] at hc
 clear eb
 have zx : (bs.size : Int) ≤ 100000 := by rw [T.size];omega
 have HB := hid1 Byte_calls
 have HT := hid1 T
 clear T
 go_enter Tryz.func89,Tryz.ntmps89
 go_wp2
 go_loopw [7,9] (fun s i wr => ∃ k : Nat,k ≤ x.length ∧ s = .string (ba (Af.upper (x.take k))) ∧ i = .int .i64 k ∧ Below w.heap.size w wr) (fun _ i _ => x.length - (intOf i).toNat)
 case atStart => exact ⟨0,Nat.zero_le _,rfl,rfl,Below.refl _ _⟩
 case round =>
  obtain ⟨k,hk,rfl,rfl,hB⟩ := hrel
  have hcw := (hB.cell (p := ⟨g,o,none⟩) hg).trans hc
  have c0 : (0 : Int) ≤ (k : Int) := by omega
  by_cases hlt : k < x.length
  ·have hlt2 : k < bs.size := by rw [HT.out.size];exact hlt
   have c1 : (k : Int) < (bs.size : Int) := by omega
   have hget := HT.out.get k hlt hlt2
   have HU := hid1 (upper_take x k hlt)
   have hul : (Af.upper (x.take k)).length ≤ 100000 := by simp [Af.upper];omega
   have hb : (x[k].toNat : Int) < 256 := by have := x[k].toNat_lt;omega
   generalize x[k] = b at *
   generalize Af.upper (x.take k) = t at *
   have s1 : ∀ (y : UInt8) W,(Op.stringOp .add (ba t) (ba [y])).run Tryz.prog W = .ok (.string (ba (t ++ [y]))) W := fun y => madd t [y] (by simp;omega)
   have q8 : IntKind.i64.wrap (k : Int) = (k : Int) := by rw [IntKind.wrap_i64];omega
   have q9 : IntKind.i64.wrap (b.toNat : Int) = (b.toNat : Int) := by rw [IntKind.wrap_i64];omega
   by_cases hl1 : (97 : Int) ≤ (b.toNat : Int)
   ·by_cases hl2 : (b.toNat : Int) ≤ 122
    ·have q7 : IntKind.i64.wrap ((b.toNat : Int) - 32) = ((b.toNat - 32 : Nat) : Int) := by rw [IntKind.wrap_i64];omega
     have HY := hid1 (up_yes hl1 hl2)
     have H1 := hid1 fun W => HB.out (b.toNat - 32) (by omega) W
     generalize b.toNat - 32 = n at *
     go_wp2_with fail
     refine Calls.mono (H1.out _) ?_
     rintro e w1 ⟨rfl,g1⟩
     go_wp2
     exact ⟨⟨k + 1,by omega,by rw [HU.out,HY.out],by go_num,hB.trans (g1.mono hB.size)⟩,by simp [intOf];omega⟩
    ·have hl3 : (122 : Int) < (b.toNat : Int) := by omega
     have HY := hid1 (up_no (c := b) (by omega))
     have H1 := hid1 fun W => HB.out b.toNat (by omega) W
     go_wp2_with fail
     refine Calls.mono (H1.out _) ?_
     rintro e w1 ⟨rfl,g1⟩
     go_wp2
     exact ⟨⟨k + 1,by omega,by rw [HU.out,← HY.out],by go_num,hB.trans (g1.mono hB.size)⟩,by simp [intOf];omega⟩
   ·have hl3 : (b.toNat : Int) < 97 := by omega
    have HY := hid1 (up_no (c := b) (by omega))
    have H1 := hid1 fun W => HB.out b.toNat (by omega) W
    go_wp2_with fail
    refine Calls.mono (H1.out _) ?_
    rintro e w1 ⟨rfl,g1⟩
    go_wp2
    exact ⟨⟨k + 1,by omega,by rw [HU.out,← HY.out],by go_num,hB.trans (g1.mono hB.size)⟩,by simp [intOf];omega⟩
  ·obtain rfl : k = x.length := by omega
   have c1 : (bs.size : Int) ≤ (x.length : Int) := by rw [HT.out.size];omega
   rw [List.take_length] at *
   go_wp2
   go_ret
   exact ⟨rfl,hB⟩
end Go.Proofs.YtflbofdpfgkmcaaGreatDoor
