import Derived.Test.YtdljhggillgpfaaGreatDoorSA06
set_option maxRecDepth 100000
set_option maxHeartbeats 4000000
namespace Go.Proofs.YtdljhggillgpfaaGreatDoor
open Go.RowKit Go.Shelf Go.Lib
theorem nameK_R (l : List UInt8) : nameK letter (ba l) = nameR false l := by
 have h := idx_bytes letter letter_high l (ba l).size 0 (by rw [ba_size];omega)
 unfold nameK nameR Lib.idxFunc
 rw [h,ba_toList,ba_size]
 simp [byteOk]
theorem risName_calls (stars : Bool) (s : List UInt8) (hs : s.length ≤ 1000000) (w : World) :
  Calls Tryz.prog 42 #[.string (ba s),.bool stars] w fun e w' => e = .returned (.bool (nameR stars s)) ∧ ∃ q,w' = w.drewN q := by
 obtain ⟨bs,eb,T⟩ := txt s
 rw [eb]
 clear eb
 have hz := T.size
 have e1 : bs.toList = s := by rw [T.eq,ba_toList]
 by_cases h1 : s = []
 ·have e : nameR stars s = false := by simp [nameR,h1]
  have c0 : (bs.size : Int) < 1 := by rw [hz,h1];simp
  have HE : Hid (nameR stars s = false) := e
  clear e e1 hz h1
  go_enter Tryz.func42,Tryz.ntmps42
  go_wp2
  go_ret
  exact ⟨ret_bool HE.out.symm,0,rfl⟩
 have hpos : 0 < s.length := List.length_pos_iff.2 h1
 have c0 : (1 : Int) ≤ (bs.size : Int) := by omega
 by_cases h2 : 12 < s.length
 ·have e : nameR stars s = false := by simp [nameR];intros;omega
  have c1 : (12 : Int) < (bs.size : Int) := by omega
  have HE : Hid (nameR stars s = false) := e
  clear e e1 hz h1
  go_enter Tryz.func42,Tryz.ntmps42
  go_wp2
  go_ret
  exact ⟨ret_bool HE.out.symm,0,rfl⟩
 have c1 : (bs.size : Int) ≤ 12 := by omega
 by_cases h3 : s = [46]
 ·have e : nameR stars s = false := by simp [nameR,h3]
  have c3 : (bs.toList == [46]) = true := by rw [e1,h3];rfl
  have c3' : bs.toList = [46] := by rw [e1,h3]
  have HE : Hid (nameR stars s = false) := e
  clear e e1 hz h1 h3
  go_enter Tryz.func42,Tryz.ntmps42
  go_wp2
  go_ret
  exact ⟨ret_bool HE.out.symm,0,rfl⟩
 by_cases h4 : s = [46,46]
 ·have e : nameR stars s = false := by simp [nameR,h4]
  have c3 : (bs.toList == [46]) = false := by rw [e1,h4];rfl
  have c4 : (bs.toList == [46,46]) = true := by rw [e1,h4];rfl
  have HE : Hid (nameR stars s = false) := e
  clear e e1 hz h1 h3 h4
  go_enter Tryz.func42,Tryz.ntmps42
  go_wp2
  go_ret
  exact ⟨ret_bool HE.out.symm,0,rfl⟩
 have e : nameR stars s = s.all (fun b => byteOk stars b.toNat) := by
  unfold nameR
  simp [h1,h3,h4,show s.length ≤ 12 by omega]
 rw [e]
 exact rname_round stars bs s T (by omega) h1 h3 h4 w
def okR (stars : Bool) (s : List UInt8) : Bool := decide ((Kf.parts s).length ≤ 5) && (Kf.parts s).all (fun p => nameR stars p)
theorem pathB_R (s : List UInt8) : pathB s = okR false s := by
 unfold pathB allB okR
 congr 1
 exact List.all_congr rfl (fun p => nameK_R p)
theorem part_len {s p : List UInt8} (h : p ∈ Kf.parts s) : p.length ≤ s.length := by
 have h1 := Kf.tot_parts s
 obtain ⟨a,b,e⟩ := List.append_of_mem h
 rw [e] at h1
 simp [Kf.tot] at h1
 omega
theorem partsOf_calls (stars : Bool) (s : List UInt8) (hs : s.length ≤ 1000000) (w : World) :
  Calls Tryz.prog 29 #[.string (ba s),.bool stars] w fun e w' => ∃ v,e = .returned v ∧ ((okR stars s = true ∧ w'.ownsRow w.heap.size 9 1 v (Kf.parts s).length ((Kf.parts s).map sv)) ∨ (okR stars s = false ∧ v = .slice none 0 0)) ∧ Below w.heap.size w w' := by
 go_enter Tryz.func29,Tryz.ntmps29
 go_wp2_with fail
 refine (rCut_calls s hs 47 47 rfl w).mono ?_
 rintro e w1 ⟨v,rfl,hrow,hB⟩
 rw [cutB_parts] at hrow
 obtain ⟨m,hm⟩ : ∃ m,(Kf.parts s).length = m + 1 := ⟨(Kf.parts s).length - 1,by have := List.length_pos_iff.2 (Kf.parts_ne s);omega⟩
 obtain ⟨g,cap,rfl⟩ : ∃ g cap,v = .slice (some ⟨g,0,none⟩) (Kf.parts s).length cap := by
  rw [hm] at hrow ⊢;exact ownsRow_succ hrow
 obtain ⟨o1,o2,o3⟩ := owns_cells hrow
 have hpl : ∀ p ∈ Kf.parts s,p.length ≤ 1000000 := fun p hp => Nat.le_trans (part_len hp) hs
 have HO : Hid (okR stars s = (decide ((Kf.parts s).length ≤ 5) && (Kf.parts s).all (fun p => nameR stars p))) := rfl
 clear hm o2 o3
 by_cases h5 : 5 < (Kf.parts s).length
 ·have hf : okR stars s = false := by rw [HO.out];simp;intros;omega
  have c5 : (5 : Int) < ((Kf.parts s).length : Int) := by omega
  have HF : Hid (okR stars s = false) := hf
  clear hf o1 hpl hrow
  go_wp2
  go_ret
  exact ⟨_,rfl,.inr ⟨HF.out,rfl⟩,hB⟩
 ·have c5 : ((Kf.parts s).length : Int) ≤ 5 := by omega
  have HR : Hid (w1.ownsRow w.heap.size 9 1 (.slice (some ⟨g,0,none⟩) (Kf.parts s).length cap) (Kf.parts s).length ((Kf.parts s).map sv)) := hrow
  clear hrow
  go_wp2
  go_loopw [6] (fun i wr => ∃ k : Nat,k ≤ (Kf.parts s).length ∧ i = .int .i64 k ∧ ((Kf.parts s).take k).all (fun p => nameR stars p) = true ∧ ∃ q,wr = w1.drewN q) (fun i _ => (Kf.parts s).length - (intOf i).toNat)
  case atStart => exact ⟨0,by omega,rfl,by simp,0,rfl⟩
  case round =>
   obtain ⟨k,hk,rfl,hall,q,rfl⟩ := hrel
   have HA : Hid (((Kf.parts s).take k).all (fun p => nameR stars p) = true) := hall
   clear hall
   by_cases hlt : k < (Kf.parts s).length
   ·have hck : w1.cell? ⟨g,k,none⟩ = some (.string (ba (Kf.parts s)[k])) := by
     have := o1 k (ba (Kf.parts s)[k]) (by rw [List.getElem?_map,List.getElem?_eq_getElem hlt];rfl)
     simpa using this
    have hpk := hpl (Kf.parts s)[k] (List.getElem_mem hlt)
    have c1 : (k : Int) < ((Kf.parts s).length : Int) := by omega
    have c0 : (0 : Int) ≤ (k : Int) := by omega
    generalize hy : (Kf.parts s)[k] = y at *
    have HY : Hid ((Kf.parts s)[k] = y) := hy
    clear hy o1 hpl
    cases hn : nameR stars y with
    | true =>
     have HN : Hid (nameR stars y = true) := hn
     clear hn
     go_wp2_with fail
     have hc := risName_calls stars y hpk (w1.drewN q)
     rw [HN.out] at hc
     refine hc.mono ?_
     rintro e w2 ⟨rfl,q2,rfl⟩
     clear hc
     go_wp2
     refine ⟨⟨k + 1,by omega,by go_num,?_,q + q2,?_⟩,by simp [intOf];omega⟩
     ·rw [List.take_succ_eq_append_getElem hlt,List.all_append,HA.out,HY.out]
      simp [HN.out]
     ·simp [World.drewN]
    | false =>
     have hf : okR stars s = false := by
      rw [HO.out]
      have : (Kf.parts s).all (fun p => nameR stars p) = false := by
       rw [List.all_eq_false]
       exact ⟨(Kf.parts s)[k],List.getElem_mem hlt,by rw [HY.out,hn];simp⟩
      rw [this,Bool.and_false]
     have HF : Hid (okR stars s = false) := hf
     have HN : Hid (nameR stars y = false) := hn
     clear hn hf
     go_wp2_with fail
     have hc := risName_calls stars y hpk (w1.drewN q)
     rw [HN.out] at hc
     refine hc.mono ?_
     rintro e w2 ⟨rfl,q2,rfl⟩
     clear hc
     go_wp2
     go_ret
     exact ⟨_,rfl,.inr ⟨HF.out,rfl⟩,below_draws hB _⟩
   ·have hf : okR stars s = true := by
     rw [HO.out]
     have := HA.out
     rw [List.take_of_length_le (by omega)] at this
     rw [this]
     simp;omega
    have HF : Hid (okR stars s = true) := hf
    have c1 : ((Kf.parts s).length : Int) ≤ (k : Int) := by omega
    clear hf o1 hpl
    go_wp2
    go_ret
    exact ⟨_,rfl,.inl ⟨HF.out,HR.out.kept (grownBy_drewN _ _) (.inr (by simp [Value.ownBlock]))⟩,below_draws hB q⟩
theorem IsPath_calls (s : List UInt8) (hs : s.length ≤ 1000000) (w : World) :
  Calls Tryz.prog 20 #[.string (ba s)] w fun e w' => e = .returned (.bool (okR false s)) ∧ Below w.heap.size w w' := by
 have hne := List.length_pos_iff.2 (Kf.parts_ne s)
 go_enter Tryz.func20,Tryz.ntmps20
 go_wp2_with fail
 refine (partsOf_calls false s hs w).mono ?_
 rintro e w1 ⟨v,rfl,(⟨ho,hrow⟩ | ⟨ho,rfl⟩),hB⟩
 ·have HO : Hid (okR false s = true) := ho
  obtain ⟨a,n,c,rfl,hn⟩ : ∃ a n c,v = .slice a n c ∧ 0 < n := by
   rcases hrow.2 with ⟨_,h⟩ | ⟨g,cap,cur,h,_⟩
   ·omega
   ·exact ⟨_,_,_,h,hne⟩
  go_wp2
  go_ret
  exact ⟨ret_bool (by rw [HO.out]),hB⟩
 ·have HO : Hid (okR false s = false) := ho
  go_wp2
  go_ret
  exact ⟨ret_bool HO.out.symm,hB⟩
theorem row_cells (W : World) (l : List (List UInt8)) (j : Nat) (hj : j < l.length) : (W.alloc (.cells ((l.map ba).map Value.string).toArray 9)).cell? ⟨W.heap.size,j,none⟩ = some (.string (ba l[j])) := by
 rw [World.cell?_alloc_at _ _ _ _ rfl,List.getElem?_toArray,List.getElem?_map,List.getElem?_map,List.getElem?_eq_getElem hj]
 rfl
theorem cutB_len (c : UInt8) (s : List UInt8) : (cutB c s).length ≤ s.length + 1 := by
 induction s with
 | nil => simp [cutB]
 | cons x r ih =>
  unfold cutB
  split
  ·simp;omega
  ·split
   ·simp
   ·next h => rw [h] at ih;simp at ih ⊢;omega
theorem strCutG (s sep : List UInt8) (m : Int) (w : World) (hs : s.length ≤ 1000000) (hm : w.cell? ⟨13,0,none⟩ = some (.int .i64 m)) :
  Calls Tryz.prog 33 #[.string (ba s),.string (ba sep)] w fun e w' => e = .returned (.tuple #[.string (ba (Lib.cut s sep).1),.string (ba (Lib.cut s sep).2.1),.bool (Lib.cut s sep).2.2]) ∧ ∃ n,w' = w.drewN n :=
 Tryz.strings_Cut (ba s) (ba sep) m w (by rw [ba_size];omega) hm
open Go.Sort (grow)
theorem empty_not {l : List UInt8} (h : l ≠ []) : l.isEmpty = false := by
 cases l with
 | nil => exact absurd rfl h
 | cons c r => rfl
def LRow (B : Nat) (w : World) (v : Value) (l : List (List UInt8)) : Prop :=
 ∃ g cap cur,v = .slice (some ⟨g,0,none⟩) l.length cap ∧ B ≤ g ∧ l.length ≤ cap ∧ w.heap[g]? = some (.cells cur 9 (0,0)) ∧ ∀ j (hj : j < l.length),cur[j]? = some (.string (ba l[j]))
def CRow (w : World) (v : Value) (l : List (List UInt8)) : Prop :=
 ∃ p cap,v = .slice p l.length cap ∧ ∀ k (hk : k < l.length),∃ g,p = some ⟨g,0,none⟩ ∧ g < w.heap.size ∧ w.cell? ⟨g,k,none⟩ = some (.string (ba l[k]))
theorem linesOf_calls (s : List UInt8) (hs : s.length ≤ 1000000) (m : Int) (w : World) (hm : w.cell? ⟨13,0,none⟩ = some (.int .i64 m)) :
  Calls Tryz.prog 289 #[.string (ba s)] w fun e w' => ∃ v,e = .returned v ∧ LRow w.heap.size w' v (Af.lines s) ∧ Below w.heap.size w w' := by
 obtain ⟨o,l,hc,hl⟩ := Af.lines_of_cut s
 have HS : Hid (Calls Tryz.prog 47 #[.string (ba s),.string ⟨#[10]⟩] w fun e w' => e = .returned (.slice (some ⟨w.heap.size,0,none⟩) (o.length + 1) (o.length + 1)) ∧ w' = w.alloc (.cells (((o ++ [l]).map ba).map Value.string).toArray 9)) := by
  have := Tryz.strings_Split (ba s) (ba [10]) m w (by rw [ba_size];omega) hm (by rw [ba_size];simp)
  rw [splitB_cut,count_cut,hc] at this
  exact hid1 (by simpa using this)
 have hol : o.length ≤ 1000000 := by
  have := cutB_len 10 s
  rw [hc] at this
  simp at this
  omega
 have HL : Hid (Af.lines s = (if l = [] then o else o ++ [l])) := hl
 clear hl hc
 generalize Af.lines s = L at *
 have hB3 : Below w.heap.size w (w.alloc (.cells (((o ++ [l]).map ba).map Value.string).toArray 9)) := (Below.refl _ w).alloc (Nat.le_refl _) _
 have hblk : (w.alloc (.cells (((o ++ [l]).map ba).map Value.string).toArray 9)).heap[w.heap.size]? = some (.cells (((o ++ [l]).map ba).map Value.string).toArray 9 (0,0)) := by
  show (w.heap.push _)[w.heap.size]? = _
  simp
 have hcz : (w.alloc (.cells (((o ++ [l]).map ba).map Value.string).toArray 9)).cell? ⟨w.heap.size,o.length,none⟩ = some (.string (ba l)) := by
  have := row_cells w (o ++ [l]) o.length (by simp)
  rw [List.getElem_append_right (by omega)] at this
  simp only [Nat.sub_self,List.getElem_cons_zero] at this
  exact this
 go_enter Tryz.func289,Tryz.ntmps289
 go_wp2_with fail
 refine HS.out.mono ?_
 rintro e w3 ⟨rfl,hw3⟩
 rw [← hw3] at hB3 hblk hcz
 clear hw3 HS hm
 have z1 : (o.length : Int) ≤ 1000000 := by omega
 have hcur : ∀ (l' : List (List UInt8)),(∃ t,l' ++ t = o ++ [l]) → ∀ j (hj : j < l'.length),(((o ++ [l]).map ba).map Value.string).toArray[j]? = some (.string (ba l'[j])) := by
  rintro l' ⟨t,ht⟩ j hj
  rw [← ht]
  simp only [List.map_map,List.map_append,List.getElem?_toArray]
  rw [List.getElem?_append_left (by simpa using hj)]
  simp [hj]
 by_cases he : l = []
 ·subst he
  have d1 : (ba ([] : List UInt8) == ⟨#[]⟩) = true := by rfl
  have hL : L = o := by rw [HL.out,if_pos rfl]
  subst hL
  go_wp2
  go_ret
  exact ⟨_,rfl,⟨_,_,_,rfl,Nat.le_refl _,by omega,hblk,hcur L ⟨_,rfl⟩⟩,hB3⟩
 ·have d1 : l.isEmpty = false := empty_not he
  have hL : L = o ++ [l] := by rw [HL.out,if_neg he]
  subst hL
  go_wp2
  go_ret
  exact ⟨_,rfl,⟨w.heap.size,o.length + 1,_,by simp,Nat.le_refl _,by simp,hblk,hcur _ ⟨[],by simp⟩⟩,hB3⟩
theorem owns_stays {w w' : World} {B n : Nat} {v : Value} {xs : List Value} (h : w.ownsRow B 9 1 v n xs) (hb : Below w.heap.size w w') : w'.ownsRow B 9 1 v n xs :=
 h.kept (row := none) ⟨hb.os,hb.tape,hb.output,hb.size,fun k hk _ => hb.block k hk⟩ (by cases v.ownBlock <;> simp)
theorem all_take {ls : List (List UInt8)} {k : Nat} (hk : k < ls.length) : Af.all (ls.take (k + 1)) = Af.all (ls.take k) ++ Af.lines ls[k] := by
 unfold Af.all
 rw [List.take_succ_eq_append_getElem hk,List.flatMap_append,List.flatMap_cons,List.flatMap_nil,List.append_nil]
theorem all_len {ls : List (List UInt8)} (h : ∀ x ∈ ls,x.length ≤ 100000) : ∀ k,k ≤ ls.length → (Af.all (ls.take k)).length ≤ k * 100000
 | 0,_ => by simp [Af.all]
 | k + 1,hk => by
  have ih := all_len h k (by omega)
  rw [all_take (by omega),List.length_append]
  have h1 := Af.lines_len ls[k]
  have h2 := h _ (List.getElem_mem (show k < ls.length by omega))
  omega
theorem allLines_calls (v : Value) (ls : List (List UInt8)) (hn : ls.length ≤ 1000) (hx : ∀ x ∈ ls,x.length ≤ 100000) (m : Int) (w : World) (hrow : TRow w v ls) (hm : w.cell? ⟨13,0,none⟩ = some (.int .i64 m)) :
  Calls Tryz.prog 292 #[v] w fun e w' => ∃ v',e = .returned v' ∧ w'.ownsRow w.heap.size 9 1 v' (Af.all ls).length ((Af.all ls).map sv) ∧ Below w.heap.size w w' := by
 obtain ⟨i0,hi,hz0,hz1,hz2⟩ := info_parts Tryz.infoStr
 obtain ⟨pa,cap,rfl,hcap,hin⟩ := hrow
 have hR : Hid (∀ W,Below w.heap.size w W → ∀ k (hk : k < ls.length),∃ g,pa = some ⟨g,0,none⟩ ∧ W.cell? ⟨g,k,none⟩ = some (.string (ba ls[k]))) := fun W hW k hk => by
  obtain ⟨g,cur,rfl,hg,hcur⟩ := hin (by intro e;rw [e] at hk;simp at hk)
  exact ⟨g,rfl,cell_of_row ((hW.block g (Array.getElem?_eq_some_iff.1 hg).1).trans hg) (hcur k hk)⟩
 have hM : Hid (∀ W,Below w.heap.size w W → W.cell? ⟨13,0,none⟩ = some (.int .i64 m)) := fun W hW => cell_below' hm hW
 have hA := all_len hx
 clear hin hm
 go_enter Tryz.func292,Tryz.ntmps292
 go_wp2
 go_loopw [3,8] (fun out i wr => ∃ k : Nat,k ≤ ls.length ∧ i = .int .i64 k ∧ wr.ownsRow w.heap.size 9 1 out (Af.all (ls.take k)).length ((Af.all (ls.take k)).map sv) ∧ Below w.heap.size w wr) (fun _ i _ => ls.length - (intOf i).toNat)
 case atStart => exact ⟨0,Nat.zero_le _,rfl,World.ownsRow_nil _ _ _ _,Below.refl _ _⟩
 case round =>
  obtain ⟨k,hk,rfl,hown,hB⟩ := hrel
  by_cases hlt : k < ls.length
  ·have c1 : (k : Int) < (ls.length : Int) := by omega
   have c0 : (0 : Int) ≤ (k : Int) := by omega
   obtain ⟨g,rfl,hcell⟩ := hR.out wr hB k hlt
   have HA : Hid (Af.all (ls.take (k + 1)) = Af.all (ls.take k) ++ Af.lines ls[k]) := all_take hlt
   have hA1 := hA (k + 1) (by omega)
   rw [HA.out,List.length_append] at hA1
   have HC := hid1 (linesOf_calls ls[k] (by have := hx _ (List.getElem_mem hlt);omega) m wr (hM.out wr hB))
   generalize Af.lines ls[k] = L at *
   generalize ls[k] = x at *
   generalize Af.all (ls.take k) = A at *
   go_wp2_with fail
   refine Calls.mono HC.out ?_
   rintro e w2 ⟨v2,rfl,⟨g2,cap2,cur2,rfl,hg2,hc2,hblk2,hcur2⟩,hb2⟩
   have hown2 := owns_stays hown hb2
   have hB2 : Below w.heap.size w w2 := hB.trans (hb2.mono hB.size)
   have hsrc : ∀ j u,(L.map sv)[j]? = some u → w2.cell? ((⟨g2,0,none⟩ : Addr).add j) = some u := fun j u hj => by
    have hjl : j < L.length := by simpa using (List.getElem?_eq_some_iff.1 hj).1
    have := cell_of_row hblk2 (hcur2 j hjl)
    rw [List.getElem?_map,List.getElem?_eq_getElem hjl] at hj
    simp at hj
    rw [← hj,add_at]
    exact this
   clear HC hcell
   go_wp2_with (at_builtin;refine wpList_append_own _ rfl _ _ 22 rfl w.heap.size 9 i0 (.string ⟨#[]⟩) 1 16 Tryz.underlying22 hi hz0 hz1 hz2 rfl (by decide) _ _ _ rfl hown2 ⟨g2,0,none⟩ L.length cap2 (L.map sv) rfl (by simp) hsrc (by simp [Value.oneCell']) (by unfold maxLen;omega) (by omega) hB2.size ?_;intro v' w1 hown' hgrow _)
   go_roundw
   case rel => exact ⟨k + 1,by omega,by go_num,by rw [HA.out,List.length_append,List.map_append];exact hown',below_more hB2 hB2.size hown2 hgrow⟩
   case measure => simp [intOf];omega
  ·have c1 : (ls.length : Int) ≤ (k : Int) := by omega
   obtain rfl : k = ls.length := by omega
   rw [List.take_length] at hown
   go_wp2
   go_ret
   exact ⟨_,rfl,hown,hB⟩
theorem told_take {l : List (List UInt8)} {k : Nat} (hk : k < l.length) : Af.told (l.take (k + 1)) = Af.told (l.take k) ++ l[k] ++ [10] := by
 unfold Af.told
 rw [List.take_succ_eq_append_getElem hk,List.flatMap_append,List.flatMap_cons,List.flatMap_nil,List.append_nil,List.append_assoc]
theorem told_take_len {l : List (List UInt8)} (k : Nat) : (Af.told (l.take k)).length ≤ (Af.told l).length := by
 conv => rhs;rw [← List.take_append_drop k l,Af.told_append,List.length_append]
 omega
theorem told_calls (v : Value) (l : List (List UInt8)) (w : World) (hrow : CRow w v l) (hlen : (Af.told l).length ≤ 100000000) :
  Calls Tryz.prog 288 #[v] w fun e w' => e = .returned (.string (ba (Af.told l))) ∧ Below w.heap.size w w' := by
 have g0 : Below w.heap.size w (w.alloc (.cells #[.pointer none,.slice none 0 0] 187)) := (Below.refl _ w).alloc (Nat.le_refl _) _
 have b0 : Lib.IsBuilderF 187 5 w.heap.size w.heap.size [] (w.alloc (.cells #[.pointer none,.slice none 0 0] 187)) := Lib.IsBuilderF.of (Lib.fresh_isBuilder 187 5 w)
 obtain ⟨pa,cap,rfl,hin⟩ := hrow
 have hln : l.length ≤ (Af.told l).length := by
  have : ∀ l : List (List UInt8),l.length ≤ (Af.told l).length := fun l => by
   induction l with
   | nil => simp
   | cons x r ih => simp [Af.told] at ih ⊢;omega
  exact this l
 have hR : Hid (∀ W,Below w.heap.size w W → ∀ k (hk : k < l.length),∃ g,pa = some ⟨g,0,none⟩ ∧ W.cell? ⟨g,k,none⟩ = some (.string (ba l[k]))) := fun W hW k hk => by
  obtain ⟨g,rfl,hg,hcur⟩ := hin k hk
  exact ⟨g,rfl,(World.cell?_of_block (hW.block g hg)).trans hcur⟩
 have HW : Hid (∀ (bs : List UInt8) (s : List UInt8) W,bs.length + s.length ≤ 100000000 → w.heap.size ≤ W.heap.size → Lib.IsBuilderF 187 5 w.heap.size w.heap.size (Lib.byteCells bs) W → Calls Tryz.prog 119 #[.pointer (some ⟨w.heap.size,0,none⟩),.string (ba s)] W fun e w' =>
   e = .returned (.tuple #[.int .i64 s.length,.nilIface]) ∧ Lib.IsBuilderF 187 5 w.heap.size w.heap.size (Lib.byteCells (bs ++ s)) w' ∧ Below w.heap.size W w') := fun bs s W hl hW hb => by
  refine (Any.Builder_WriteString_k Tryz.lays166 Tryz.Builder_Extra_166 w.heap.size w.heap.size (Lib.byteCells bs) (ba s) W hb (by rw [Lib.byteCells_length,ba_size];omega) hW).mono ?_
  rintro e w' ⟨rfl,h1,h2,h3⟩
  refine ⟨by rw [ba_size],.inr ?_,h2⟩
  rw [Lib.byteCells_append]
  exact h1
 have HS : Hid (∀ W,w.heap.size ≤ W.heap.size → Lib.IsBuilderF 187 5 w.heap.size w.heap.size (Lib.byteCells (Af.told l)) W → Calls Tryz.prog 120 #[.pointer (some ⟨w.heap.size,0,none⟩)] W fun e w' => e = .returned (.string (ba (Af.told l))) ∧ Below w.heap.size W w') := fun W hW hb => by
  refine (Any.Builder_String_any_k Tryz.lays169 Tryz.Builder_Extra_169 w.heap.size w.heap.size (Af.told l) W hb hW).mono ?_
  rintro e w' ⟨rfl,_,h2,_⟩
  exact ⟨rfl,h2⟩
 have hT := told_take_len (l := l)
 have hzn : (l.length : Int) ≤ 100000000 := by omega
 clear hin
 go_enter Tryz.func288,Tryz.ntmps288
 go_wp2
 go_loopw [8] (fun i wr => ∃ k : Nat,k ≤ l.length ∧ i = .int .i64 k ∧ Lib.IsBuilderF 187 5 w.heap.size w.heap.size (Lib.byteCells (Af.told (l.take k))) wr ∧ Below w.heap.size w wr) (fun i _ => l.length - (intOf i).toNat)
 case atStart => exact ⟨0,Nat.zero_le _,rfl,by simpa [Af.told,Lib.byteCells] using b0,g0⟩
 case round =>
  obtain ⟨k,hk,rfl,hbld,hB⟩ := hrel
  by_cases hlt : k < l.length
  ·have c1 : (k : Int) < (l.length : Int) := by omega
   have c0 : (0 : Int) ≤ (k : Int) := by omega
   obtain ⟨g,rfl,hcell⟩ := hR.out wr hB k hlt
   have HA : Hid (Af.told (l.take (k + 1)) = Af.told (l.take k) ++ l[k] ++ [10]) := told_take hlt
   have hA1 := hT (k + 1)
   rw [HA.out] at hA1
   simp only [List.length_append,List.length_cons,List.length_nil] at hA1
   generalize l[k] = x at *
   generalize Af.told (l.take k) = A at *
   go_wp2_with fail
   refine (HW.out A x wr (by omega) hB.size hbld).mono ?_
   rintro e w2 ⟨rfl,B2,h2⟩
   have G2 := hB.trans h2
   have HW2 := HW.out (A ++ x) [10] w2 (by simp;omega) G2.size B2
   go_wp2_with fail
   refine HW2.mono ?_
   rintro e w3 ⟨rfl,B3,h3⟩
   go_wp2
   go_roundw
   case rel => exact ⟨k + 1,by omega,by go_num,by rw [HA.out];exact B3,G2.trans h3⟩
   case measure => simp [intOf];omega
  ·have c1 : (l.length : Int) ≤ (k : Int) := by omega
   obtain rfl : k = l.length := by omega
   rw [List.take_length] at hbld
   have HS' := HS.out wr hB.size hbld
   go_wp2_with fail
   refine HS'.mono ?_
   rintro e w5 ⟨rfl,g5⟩
   go_wp2
   go_ret
   exact ⟨rfl,hB.trans g5⟩
end Go.Proofs.YtdljhggillgpfaaGreatDoor
