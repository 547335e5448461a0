import Derived.Test.YthchjnopgagilaaGreatDoorPA06
set_option maxRecDepth 100000
set_option maxHeartbeats 4000000
namespace Go.Proofs.YthchjnopgagilaaGreatDoor
open Go.RowKit Go.Shelf Go.Lib
open Go.Sort (grow)
theorem empty_not {l : List UInt8} (h : l ≠ []) : l.isEmpty = false := by
 cases l with
 | nil => exact absurd rfl h
 | cons c r => rfl
def LRow (B : Nat) (w : World) (v : Value) (l : List (List UInt8)) : Prop :=
 ∃ g cap cur,v = .slice (some ⟨g,0,none⟩) l.length cap ∧ B ≤ g ∧ l.length ≤ cap ∧ w.heap[g]? = some (.cells cur 9 (0,0)) ∧ ∀ j (hj : j < l.length),cur[j]? = some (.string (ba l[j]))
def CRow (w : World) (v : Value) (l : List (List UInt8)) : Prop :=
 ∃ p cap,v = .slice p l.length cap ∧ ∀ k (hk : k < l.length),∃ g,p = some ⟨g,0,none⟩ ∧ g < w.heap.size ∧ w.cell? ⟨g,k,none⟩ = some (.string (ba l[k]))
theorem linesOf_calls (s : List UInt8) (hs : s.length ≤ 1000000) (m : Int) (w : World) (hm : w.cell? ⟨14,0,none⟩ = some (.int .i64 m)) :
  Calls Tryz.prog 320 #[.string (ba s)] w fun e w' => ∃ v,e = .returned v ∧ LRow w.heap.size w' v (Af.lines s) ∧ Below w.heap.size w w' := by
 obtain ⟨o,l,hc,hl⟩ := Af.lines_of_cut s
 have HS : Hid (Calls Tryz.prog 314 #[.string (ba s),.string ⟨#[10]⟩] w fun e w' => e = .returned (.slice (some ⟨w.heap.size,0,none⟩) (o.length + 1) (o.length + 1)) ∧ w' = w.alloc (.cells (((o ++ [l]).map ba).map Value.string).toArray 9)) := by
  have := Tryz.strings_Split (ba s) (ba [10]) m w (by rw [ba_size];omega) hm (by rw [ba_size];simp)
  rw [splitB_cut,count_cut,hc] at this
  exact hid1 (by simpa using this)
 have hol : o.length ≤ 1000000 := by
  have := cutB_len 10 s
  rw [hc] at this
  simp at this
  omega
 have HL : Hid (Af.lines s = (if l = [] then o else o ++ [l])) := hl
 clear hl hc
 generalize Af.lines s = L at *
 have hB3 : Below w.heap.size w (w.alloc (.cells (((o ++ [l]).map ba).map Value.string).toArray 9)) := (Below.refl _ w).alloc (Nat.le_refl _) _
 have hblk : (w.alloc (.cells (((o ++ [l]).map ba).map Value.string).toArray 9)).heap[w.heap.size]? = some (.cells (((o ++ [l]).map ba).map Value.string).toArray 9 (0,0)) := by
  show (w.heap.push _)[w.heap.size]? = _
  simp
 have hcz : (w.alloc (.cells (((o ++ [l]).map ba).map Value.string).toArray 9)).cell? ⟨w.heap.size,o.length,none⟩ = some (.string (ba l)) := by
  have := row_cells w (o ++ [l]) o.length (by simp)
  rw [List.getElem_append_right (by omega)] at this
  simp only [Nat.sub_self,List.getElem_cons_zero] at this
  exact this
 go_enter Tryz.func320,Tryz.ntmps320
 go_wp2_with fail
 refine HS.out.mono ?_
 rintro e w3 ⟨rfl,hw3⟩
 rw [← hw3] at hB3 hblk hcz
 clear hw3 HS hm
 have z1 : (o.length : Int) ≤ 1000000 := by omega
 have hcur : ∀ (l' : List (List UInt8)),(∃ t,l' ++ t = o ++ [l]) → ∀ j (hj : j < l'.length),(((o ++ [l]).map ba).map Value.string).toArray[j]? = some (.string (ba l'[j])) := by
  rintro l' ⟨t,ht⟩ j hj
  rw [← ht]
  simp only [List.map_map,List.map_append,List.getElem?_toArray]
  rw [List.getElem?_append_left (by simpa using hj)]
  simp [hj]
 by_cases he : l = []
 ·subst he
  have d1 : (ba ([] : List UInt8) == ⟨#[]⟩) = true := by rfl
  have hL : L = o := by rw [HL.out,if_pos rfl]
  subst hL
  go_wp2
  go_ret
  exact ⟨_,rfl,⟨_,_,_,rfl,Nat.le_refl _,by omega,hblk,hcur L ⟨_,rfl⟩⟩,hB3⟩
 ·have d1 : l.isEmpty = false := empty_not he
  have hL : L = o ++ [l] := by rw [HL.out,if_neg he]
  subst hL
  go_wp2
  go_ret
  exact ⟨_,rfl,⟨w.heap.size,o.length + 1,_,by simp,Nat.le_refl _,by simp,hblk,hcur _ ⟨[],by simp⟩⟩,hB3⟩
theorem owns_stays {w w' : World} {B n : Nat} {v : Value} {xs : List Value} (h : w.ownsRow B 9 1 v n xs) (hb : Below w.heap.size w w') : w'.ownsRow B 9 1 v n xs :=
 h.kept (row := none) ⟨hb.os,hb.tape,hb.output,hb.size,fun k hk _ => hb.block k hk⟩ (by cases v.ownBlock <;> simp)
theorem all_take {ls : List (List UInt8)} {k : Nat} (hk : k < ls.length) : Af.all (ls.take (k + 1)) = Af.all (ls.take k) ++ Af.lines ls[k] := by
 unfold Af.all
 rw [List.take_succ_eq_append_getElem hk,List.flatMap_append,List.flatMap_cons,List.flatMap_nil,List.append_nil]
theorem all_len {ls : List (List UInt8)} (h : ∀ x ∈ ls,x.length ≤ 100000) : ∀ k,k ≤ ls.length → (Af.all (ls.take k)).length ≤ k * 100000
 | 0,_ => by simp [Af.all]
 | k + 1,hk => by
  have ih := all_len h k (by omega)
  rw [all_take (by omega),List.length_append]
  have h1 := Af.lines_len ls[k]
  have h2 := h _ (List.getElem_mem (show k < ls.length by omega))
  omega
theorem allLines_calls (v : Value) (ls : List (List UInt8)) (hn : ls.length ≤ 1000) (hx : ∀ x ∈ ls,x.length ≤ 100000) (m : Int) (w : World) (hrow : TRow w v ls) (hm : w.cell? ⟨14,0,none⟩ = some (.int .i64 m)) :
  Calls Tryz.prog 323 #[v] w fun e w' => ∃ v',e = .returned v' ∧ w'.ownsRow w.heap.size 9 1 v' (Af.all ls).length ((Af.all ls).map sv) ∧ Below w.heap.size w w' := by
 obtain ⟨i0,hi,hz0,hz1,hz2⟩ := info_parts Tryz.infoStr
 obtain ⟨pa,cap,rfl,hcap,hin⟩ := hrow
 have hR : Hid (∀ W,Below w.heap.size w W → ∀ k (hk : k < ls.length),∃ g,pa = some ⟨g,0,none⟩ ∧ W.cell? ⟨g,k,none⟩ = some (.string (ba ls[k]))) := fun W hW k hk => by
  obtain ⟨g,cur,rfl,hg,hcur⟩ := hin (by intro e;rw [e] at hk;simp at hk)
  exact ⟨g,rfl,cell_of_row ((hW.block g (Array.getElem?_eq_some_iff.1 hg).1).trans hg) (hcur k hk)⟩
 have hM : Hid (∀ W,Below w.heap.size w W → W.cell? ⟨14,0,none⟩ = some (.int .i64 m)) := fun W hW => cell_below' hm hW
 have hA := all_len hx
 have hzn : (ls.length : Int) ≤ 1000 := by omega
 clear hin hm
 go_enter Tryz.func323,Tryz.ntmps323
 go_wp2
 go_loopw [3,8] (fun out i wr => ∃ k : Nat,k ≤ ls.length ∧ i = .int .i64 k ∧ wr.ownsRow w.heap.size 9 1 out (Af.all (ls.take k)).length ((Af.all (ls.take k)).map sv) ∧ Below w.heap.size w wr) (fun _ i _ => ls.length - (intOf i).toNat)
 case atStart => exact ⟨0,Nat.zero_le _,rfl,World.ownsRow_nil _ _ _ _,Below.refl _ _⟩
 case round =>
  obtain ⟨k,hk,rfl,hown,hB⟩ := hrel
  by_cases hlt : k < ls.length
  ·have c1 : (k : Int) < (ls.length : Int) := by omega
   have c0 : (0 : Int) ≤ (k : Int) := by omega
   obtain ⟨g,rfl,hcell⟩ := hR.out wr hB k hlt
   have HA : Hid (Af.all (ls.take (k + 1)) = Af.all (ls.take k) ++ Af.lines ls[k]) := all_take hlt
   have hA1 := hA (k + 1) (by omega)
   rw [HA.out,List.length_append] at hA1
   have HC := hid1 (linesOf_calls ls[k] (by have := hx _ (List.getElem_mem hlt);omega) m wr (hM.out wr hB))
   generalize Af.lines ls[k] = L at *
   generalize ls[k] = x at *
   generalize Af.all (ls.take k) = A at *
   go_wp2_with fail
   refine Calls.mono HC.out ?_
   rintro e w2 ⟨v2,rfl,⟨g2,cap2,cur2,rfl,hg2,hc2,hblk2,hcur2⟩,hb2⟩
   have hown2 := owns_stays hown hb2
   have hB2 : Below w.heap.size w w2 := hB.trans (hb2.mono hB.size)
   have hsrc : ∀ j u,(L.map sv)[j]? = some u → w2.cell? ((⟨g2,0,none⟩ : Addr).add j) = some u := fun j u hj => by
    have hjl : j < L.length := by simpa using (List.getElem?_eq_some_iff.1 hj).1
    have := cell_of_row hblk2 (hcur2 j hjl)
    rw [List.getElem?_map,List.getElem?_eq_getElem hjl] at hj
    simp at hj
    rw [← hj,add_at]
    exact this
   clear HC hcell
   go_wp2_with (at_builtin;refine wpList_append_own _ rfl _ _ 45 rfl w.heap.size 9 i0 (.string ⟨#[]⟩) 1 16 Tryz.underlying45 hi hz0 hz1 hz2 rfl (by decide) _ _ _ rfl hown2 ⟨g2,0,none⟩ L.length cap2 (L.map sv) rfl (by simp) hsrc (by simp [Value.oneCell']) (by unfold maxLen;omega) (by omega) hB2.size ?_;intro v' w1 hown' hgrow _)
   go_roundw
   case rel => exact ⟨k + 1,by omega,by go_num,by rw [HA.out,List.length_append,List.map_append];exact hown',below_more hB2 hB2.size hown2 hgrow⟩
   case measure => simp [intOf];omega
  ·have c1 : (ls.length : Int) ≤ (k : Int) := by omega
   obtain rfl : k = ls.length := by omega
   rw [List.take_length] at hown
   go_wp2
   go_ret
   exact ⟨_,rfl,hown,hB⟩
theorem told_take {l : List (List UInt8)} {k : Nat} (hk : k < l.length) : Af.told (l.take (k + 1)) = Af.told (l.take k) ++ l[k] ++ [10] := by
 unfold Af.told
 rw [List.take_succ_eq_append_getElem hk,List.flatMap_append,List.flatMap_cons,List.flatMap_nil,List.append_nil,List.append_assoc]
theorem told_take_len {l : List (List UInt8)} (k : Nat) : (Af.told (l.take k)).length ≤ (Af.told l).length := by
 conv => rhs;rw [← List.take_append_drop k l,Af.told_append,List.length_append]
 omega
theorem told_calls (v : Value) (l : List (List UInt8)) (w : World) (hrow : CRow w v l) (hlen : (Af.told l).length ≤ 100000000) :
  Calls Tryz.prog 318 #[v] w fun e w' => e = .returned (.string (ba (Af.told l))) ∧ Below w.heap.size w w' := by
 have g0 : Below w.heap.size w (w.alloc (.cells #[.pointer none,.slice none 0 0] 163)) := (Below.refl _ w).alloc (Nat.le_refl _) _
 have b0 : Lib.IsBuilderF 163 5 w.heap.size w.heap.size [] (w.alloc (.cells #[.pointer none,.slice none 0 0] 163)) := Lib.IsBuilderF.of (Lib.fresh_isBuilder 163 5 w)
 obtain ⟨pa,cap,rfl,hin⟩ := hrow
 have hln : l.length ≤ (Af.told l).length := by
  have : ∀ l : List (List UInt8),l.length ≤ (Af.told l).length := fun l => by
   induction l with
   | nil => simp
   | cons x r ih => simp [Af.told] at ih ⊢;omega
  exact this l
 have hR : Hid (∀ W,Below w.heap.size w W → ∀ k (hk : k < l.length),∃ g,pa = some ⟨g,0,none⟩ ∧ W.cell? ⟨g,k,none⟩ = some (.string (ba l[k]))) := fun W hW k hk => by
  obtain ⟨g,rfl,hg,hcur⟩ := hin k hk
  exact ⟨g,rfl,(World.cell?_of_block (hW.block g hg)).trans hcur⟩
 have HW : Hid (∀ (bs : List UInt8) (s : List UInt8) W,bs.length + s.length ≤ 100000000 → w.heap.size ≤ W.heap.size → Lib.IsBuilderF 163 5 w.heap.size w.heap.size (Lib.byteCells bs) W → Calls Tryz.prog 102 #[.pointer (some ⟨w.heap.size,0,none⟩),.string (ba s)] W fun e w' =>
   e = .returned (.tuple #[.int .i64 s.length,.nilIface]) ∧ Lib.IsBuilderF 163 5 w.heap.size w.heap.size (Lib.byteCells (bs ++ s)) w' ∧ Below w.heap.size W w') := fun bs s W hl hW hb => by
  refine (Any.Builder_WriteString_k Tryz.lays166 Tryz.Builder_Extra_166 w.heap.size w.heap.size (Lib.byteCells bs) (ba s) W hb (by rw [Lib.byteCells_length,ba_size];omega) hW).mono ?_
  rintro e w' ⟨rfl,h1,h2,h3⟩
  refine ⟨by rw [ba_size],.inr ?_,h2⟩
  rw [Lib.byteCells_append]
  exact h1
 have HS : Hid (∀ W,w.heap.size ≤ W.heap.size → Lib.IsBuilderF 163 5 w.heap.size w.heap.size (Lib.byteCells (Af.told l)) W → Calls Tryz.prog 104 #[.pointer (some ⟨w.heap.size,0,none⟩)] W fun e w' => e = .returned (.string (ba (Af.told l))) ∧ Below w.heap.size W w') := fun W hW hb => by
  refine (Any.Builder_String_any_k Tryz.lays169 Tryz.Builder_Extra_169 w.heap.size w.heap.size (Af.told l) W hb hW).mono ?_
  rintro e w' ⟨rfl,_,h2,_⟩
  exact ⟨rfl,h2⟩
 have hT := told_take_len (l := l)
 have hzn : (l.length : Int) ≤ 100000000 := by omega
 clear hin
 go_enter Tryz.func318,Tryz.ntmps318
 go_wp2
 go_loopw [8] (fun i wr => ∃ k : Nat,k ≤ l.length ∧ i = .int .i64 k ∧ Lib.IsBuilderF 163 5 w.heap.size w.heap.size (Lib.byteCells (Af.told (l.take k))) wr ∧ Below w.heap.size w wr) (fun i _ => l.length - (intOf i).toNat)
 case atStart => exact ⟨0,Nat.zero_le _,rfl,by simpa [Af.told,Lib.byteCells] using b0,g0⟩
 case round =>
  obtain ⟨k,hk,rfl,hbld,hB⟩ := hrel
  by_cases hlt : k < l.length
  ·have c1 : (k : Int) < (l.length : Int) := by omega
   have c0 : (0 : Int) ≤ (k : Int) := by omega
   obtain ⟨g,rfl,hcell⟩ := hR.out wr hB k hlt
   have HA : Hid (Af.told (l.take (k + 1)) = Af.told (l.take k) ++ l[k] ++ [10]) := told_take hlt
   have hA1 := hT (k + 1)
   rw [HA.out] at hA1
   simp only [List.length_append,List.length_cons,List.length_nil] at hA1
   generalize l[k] = x at *
   generalize Af.told (l.take k) = A at *
   go_wp2_with fail
   refine (HW.out A x wr (by omega) hB.size hbld).mono ?_
   rintro e w2 ⟨rfl,B2,h2⟩
   have G2 := hB.trans h2
   have HW2 := HW.out (A ++ x) [10] w2 (by simp;omega) G2.size B2
   go_wp2_with fail
   refine HW2.mono ?_
   rintro e w3 ⟨rfl,B3,h3⟩
   go_wp2
   go_roundw
   case rel => exact ⟨k + 1,by omega,by go_num,by rw [HA.out];exact B3,G2.trans h3⟩
   case measure => simp [intOf];omega
  ·have c1 : (l.length : Int) ≤ (k : Int) := by omega
   obtain rfl : k = l.length := by omega
   rw [List.take_length] at hbld
   have HS' := HS.out wr hB.size hbld
   go_wp2_with fail
   refine HS'.mono ?_
   rintro e w5 ⟨rfl,g5⟩
   go_wp2
   go_ret
   exact ⟨rfl,hB.trans g5⟩
end Go.Proofs.YthchjnopgagilaaGreatDoor
