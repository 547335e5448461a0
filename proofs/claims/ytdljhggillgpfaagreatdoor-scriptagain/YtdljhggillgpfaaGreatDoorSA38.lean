import Derived.Test.YtdljhggillgpfaaGreatDoorSA36
import Derived.Test.YtdljhggillgpfaaGreatDoorSA37
set_option maxRecDepth 100000
set_option maxHeartbeats 8000000
namespace Go.Proofs.YtdljhggillgpfaaGreatDoor
open Go.RowKit Go.Shelf Go.Lib
theorem bax (t : List UInt8) (a b : Nat) : (ba t).extract a b = ba ((t.drop a).take (b - a)) := ba_eq (by rw [← Lib.toList_data,Lib.extract_toList])
theorem cutKind_calls (s : List UInt8) (w : World) :
  Calls Tryz.prog 135 #[.string (ba s)] w fun e w' => e = .returned (.tuple #[.string (ba (Rd.cutKind s).1),.string (ba (Rd.cutKind s).2)]) ∧ Below w.heap.size w w' := by
 have hI : Hid (Calls Tryz.prog 107 #[.string (ba s),.string ⟨#[32]⟩] w fun e w' => e = .returned (.int .i64 (Lib.indexByte s 32)) ∧ w' = w) := hid1 (by
  have := Tryz.strings_Index_one (ba s) 32 w
  simpa using this)
 have hge := Lib.indexByte_ge s 32
 have hz := ba_size s
 unfold Rd.cutKind
 by_cases h0 : Lib.indexByte s 32 < 0
 ·rw [if_pos h0]
  generalize Lib.indexByte s 32 = i at *
  go_enter Tryz.func135,Tryz.ntmps135
  go_wp2_with fail
  refine hI.out.mono ?_
  rintro e w1 ⟨rfl,rfl⟩
  go_wp2
  go_ret2
  exact ⟨rfl,Below.refl _ _⟩
 ·rw [if_neg h0]
  obtain ⟨k,hk⟩ : ∃ k : Nat,Lib.indexByte s 32 = (k : Int) := ⟨(Lib.indexByte s 32).toNat,by omega⟩
  rw [hk] at hI ⊢
  have e1 : (ba s).extract 0 k = ba (s.take k) := by rw [bax];simp
  have e2 : (ba s).extract k s.length = ba (s.drop k) := by rw [bax,List.take_of_length_le (by simp)]
  have e3 : ((k : Int)).toNat = k := by omega
  rw [e3,← e1,← e2]
  have c1 : (0 : Int) ≤ (k : Int) := by omega
  have hkl : k ≤ s.length := by
   have := (List.getElem?_eq_some_iff.1 (Lib.indexByte_some hk).1).1
   omega
  have c2 : (k : Int) ≤ ((ba s).size : Int) := by omega
  clear hk h0 hge e1 e2 e3
  generalize ba s = bs at *
  go_enter Tryz.func135,Tryz.ntmps135
  go_wp2_with fail
  refine hI.out.mono ?_
  rintro e w1 ⟨rfl,rfl⟩
  go_wp2
  go_region
  go_wp2
  go_ret2
  exact ⟨rfl,(Below.refl _ _).drew⟩
theorem XRow.stay {w V : World} {v : Value} {l : List (List UInt8)} (h : XRow w v l) (hz : w.heap.size ≤ V.heap.size) (hb : l ≠ [] → ∀ a n c,v = .slice (some a) n c → V.heap[a.block]? = w.heap[a.block]?) : XRow V v l := by
 obtain ⟨p,cap,rfl,h0,hn,h1⟩ := h
 refine ⟨p,cap,rfl,h0,hn,fun hl => ?_⟩
 obtain ⟨g,o,rfl,hg,hc⟩ := h1 hl
 refine ⟨g,o,rfl,by omega,fun j hj => ?_⟩
 rw [← hc j hj]
 have := hb hl _ _ _ rfl
 simp only at this
 unfold World.cell?
 simp only [this]
theorem cutPrefix_calls (s p : List UInt8) (w : World) :
  Calls Tryz.prog 182 #[.string (ba s),.string (ba p)] w fun e w' => e = .returned (.tuple #[.string (ba (Lib.trimPrefix s p)),.bool (Lib.hasPrefix s p)]) ∧ w' = w := by
 have := Tryz.strings_CutPrefix (ba s) (ba p) w
 exact this
theorem trim_yes {s p : List UInt8} (h : Lib.hasPrefix s p = true) : Lib.trimPrefix s p = s.drop p.length := by
 unfold Lib.trimPrefix
 rw [if_pos h]
theorem trim_no {s p : List UInt8} (h : Lib.hasPrefix s p = false) : Lib.trimPrefix s p = s := by
 unfold Lib.trimPrefix
 rw [if_neg (by rw [h];decide)]
theorem cutWord_calls (s : List UInt8) (hs : s.length ≤ 100000) (w : World) :
  Calls Tryz.prog 136 #[.string (ba s)] w fun e w' => (match Rd.cutWord s with | some x => e = .returned (.tuple #[.string (ba x.1),.string (ba x.2),.bool true]) | none => ∃ a b,e = .returned (.tuple #[a,b,.bool false])) ∧ Below w.heap.size w w' := by
 have H1 := hid1 (cutPrefix_calls s [32,34] w)
 have H2 := hid1 (unquoted_calls (s.drop 2) (by simp;omega) w)
 obtain ⟨o,ho⟩ : ∃ o,Rd.cutWord s = o := ⟨_,rfl⟩
 rw [ho]
 unfold Rd.cutWord at ho
 by_cases hp : Lib.hasPrefix s [32,34] = true
 ·rw [if_pos hp] at ho
  have e0 : Lib.trimPrefix s [32,34] = s.drop 2 := trim_yes hp
  rw [e0,hp] at H1
  clear e0 hp
  generalize s.drop 2 = t at *
  generalize ba s = bs at *
  cases hu : Rd.unq t with
  | none =>
   rw [hu] at H2 ho
   obtain rfl : o = none := ho.symm
   simp only [Rd.unqV] at H2
   clear hu
   go_enter Tryz.func136,Tryz.ntmps136
   go_wp2_with fail
   refine H1.out.mono ?_
   rintro e w1 ⟨rfl,rfl⟩
   go_wp2_with fail
   refine H2.out.mono ?_
   rintro e w2 ⟨rfl,g⟩
   go_wp2
   go_ret3
   exact ⟨⟨_,_,rfl⟩,g⟩
  | some x =>
   obtain ⟨a,b⟩ := x
   rw [hu] at H2 ho
   simp only [Rd.unqV] at H2
   clear hu
   by_cases ha : a = []
   ·obtain rfl : o = none := by rw [← ho];simp [ha]
    subst ha
    clear ho
    go_enter Tryz.func136,Tryz.ntmps136
    go_wp2_with fail
    refine H1.out.mono ?_
    rintro e w1 ⟨rfl,rfl⟩
    go_wp2_with fail
    refine H2.out.mono ?_
    rintro e w2 ⟨rfl,g⟩
    go_wp2
    go_ret3
    exact ⟨⟨_,_,rfl⟩,g⟩
   ·obtain rfl : o = some (a,b) := by rw [← ho];simp [ha]
    have hne : (ba a).toList.isEmpty = false := by
     rw [ba_toList]
     cases a with
     | nil => exact absurd rfl ha
     | cons c r => rfl
    clear ho ha
    show Calls Tryz.prog 136 #[.string bs] w fun e w' => e = .returned (.tuple #[.string (ba a),.string (ba b),.bool true]) ∧ Below w.heap.size w w'
    generalize ba a = ab at *
    generalize ba b = bb at *
    go_enter Tryz.func136,Tryz.ntmps136
    go_wp2_with fail
    refine H1.out.mono ?_
    rintro e w1 ⟨rfl,rfl⟩
    go_wp2_with fail
    refine H2.out.mono ?_
    rintro e w2 ⟨rfl,g⟩
    go_wp2
    go_ret3
    exact ⟨rfl,g⟩
 ·rw [if_neg hp] at ho
  obtain rfl := ho
  have hp' : Lib.hasPrefix s [32,34] = false := by simpa using hp
  have e0 : Lib.trimPrefix s [32,34] = s := trim_no hp'
  rw [e0,hp'] at H1
  clear e0 hp hp' H2
  show Calls Tryz.prog 136 #[.string (ba s)] w fun e w' => e = .returned (.tuple #[.string (ba []),.string (ba s),.bool true]) ∧ Below w.heap.size w w'
  generalize ba s = bs at *
  go_enter Tryz.func136,Tryz.ntmps136
  go_wp2_with fail
  refine H1.out.mono ?_
  rintro e w1 ⟨rfl,rfl⟩
  go_wp2
  go_ret3
  exact ⟨rfl,Below.refl _ _⟩
theorem readInputs_calls (s : List UInt8) (hs : s.length ≤ 100000) (m : Int) (w : World) (hm : w.cell? ⟨13,0,none⟩ = some (.int .i64 m)) :
  Calls Tryz.prog 137 #[.string (ba s)] w fun e w' => (match Rd.inputs s with | some l => ∃ v,e = .returned (.tuple #[v,.bool true]) ∧ XRow w' v l ∧ ∀ a n c,v = .slice (some a) n c → w.heap.size ≤ a.block | none => ∃ a,e = .returned (.tuple #[a,.bool false])) ∧ Below w.heap.size w w' := by
 obtain ⟨o,ho⟩ : ∃ o,Rd.inputs s = o := ⟨_,rfl⟩
 rw [ho]
 unfold Rd.inputs at ho
 by_cases he : s = []
 ·subst he
  rw [if_pos rfl] at ho
  obtain rfl := ho
  go_enter Tryz.func137,Tryz.ntmps137
  go_wp2
  go_ret2
  exact ⟨⟨_,rfl,⟨none,0,rfl,by simp,fun _ => rfl,fun h => absurd rfl h⟩,(fun a n c h => by cases h)⟩,Below.refl _ _⟩
 ·rw [if_neg he] at ho
  have hne : (ba s).toList.isEmpty = false := by
   rw [ba_toList]
   cases s with
   | nil => exact absurd rfl he
   | cons c r => rfl
  obtain ⟨t,ht⟩ : ∃ t,Lib.trimPrefix s [32] = t := ⟨_,rfl⟩
  have H1 := hid1 (cutPrefix_calls s [32] w)
  rw [ht] at H1
  have htl : t.length ≤ 100000 := by
   rw [← ht]
   unfold Lib.trimPrefix
   split
   ·simp;omega
   ·exact hs
  have HS : Hid (Calls Tryz.prog 47 #[.string (ba t),.string ⟨#[32]⟩] w fun e w' => e = .returned (.slice (some ⟨w.heap.size,0,none⟩) (cutB 32 t).length (cutB 32 t).length) ∧ w' = w.alloc (.cells (((cutB 32 t).map ba).map Value.string).toArray 9)) := by
   have := Tryz.strings_Split (ba t) (ba [32]) m w (by rw [ba_size];omega) hm (by rw [ba_size];simp)
   rw [splitB_cut,count_cut] at this
   exact hid1 this
  have hrc := row_cells w (cutB 32 t)
  have hll := cutB_len 32 t
  have hg : Below w.heap.size w (w.alloc (.cells (((cutB 32 t).map ba).map Value.string).toArray 9)) := (Below.refl _ w).alloc (Nat.le_refl _) _
  have hzz : (w.alloc (.cells (((cutB 32 t).map ba).map Value.string).toArray 9)).heap.size = w.heap.size + 1 := by simp
  by_cases hp : Lib.hasPrefix s [32] = true
  ·have e0 : t = s.drop 1 := by rw [← ht,trim_yes hp];rfl
   rw [hp] at H1 ho
   rw [← e0] at ho
   clear ht e0 he hp
   generalize w.alloc (.cells (((cutB 32 t).map ba).map Value.string).toArray 9) = W at *
   generalize cutB 32 t = L at *
   have HC := hid1 (contains_x (w := W) w.heap.size 0 L.length L.length L [] (Nat.le_refl _) (by omega) (fun j hj => by rw [Nat.zero_add];exact hrc j hj))
   rw [List.take_length] at HC
   have HX : Hid (XRow W (.slice (some ⟨w.heap.size,0,none⟩) L.length L.length) L) := hid1 ⟨_,_,rfl,Nat.le_refl _,(fun h => by cases h),fun _ => ⟨_,0,rfl,by omega,fun j hj => by rw [Nat.zero_add];exact hrc j hj⟩⟩
   clear hrc
   generalize ba s = bs at *
   generalize ba t = bt at *
   by_cases hin : [] ∈ L
   ·obtain rfl : o = none := by rw [← ho,if_pos (.inr hin)]
    rw [show decide ([] ∈ L) = true by simp [hin]] at HC
    clear ho hin
    go_enter Tryz.func137,Tryz.ntmps137
    go_wp2_with fail
    refine H1.out.mono ?_
    rintro e w1 ⟨rfl,rfl⟩
    go_wp2_with fail
    refine HS.out.mono ?_
    rintro e w2 ⟨rfl,rfl⟩
    go_wp2_with fail
    refine HC.out.mono ?_
    rintro e w2 ⟨rfl,rfl⟩
    go_wp2
    go_ret2
    exact ⟨⟨_,rfl⟩,hg⟩
   ·obtain rfl : o = some L := by rw [← ho,if_neg (by simp [hin])]
    rw [show decide ([] ∈ L) = false by simp [hin]] at HC
    clear ho hin
    go_enter Tryz.func137,Tryz.ntmps137
    go_wp2_with fail
    refine H1.out.mono ?_
    rintro e w1 ⟨rfl,rfl⟩
    go_wp2_with fail
    refine HS.out.mono ?_
    rintro e w2 ⟨rfl,rfl⟩
    go_wp2_with fail
    refine HC.out.mono ?_
    rintro e w2 ⟨rfl,rfl⟩
    go_wp2
    go_ret2
    exact ⟨⟨_,rfl,HX.out,(fun a n c h => by cases h;exact Nat.le_refl _)⟩,hg⟩
  ·have hp' : Lib.hasPrefix s [32] = false := by simpa using hp
   rw [hp'] at H1 ho
   obtain rfl : o = none := by rw [← ho,if_pos (.inl rfl)]
   clear ht he hp hp' ho hrc hzz
   generalize w.alloc (.cells (((cutB 32 t).map ba).map Value.string).toArray 9) = W at *
   generalize cutB 32 t = L at *
   generalize ba s = bs at *
   generalize ba t = bt at *
   go_enter Tryz.func137,Tryz.ntmps137
   go_wp2_with fail
   refine H1.out.mono ?_
   rintro e w1 ⟨rfl,rfl⟩
   go_wp2_with fail
   refine HS.out.mono ?_
   rintro e w2 ⟨rfl,rfl⟩
   go_wp2
   go_ret2
   exact ⟨⟨_,rfl⟩,hg⟩
theorem four_set {W : World} {b : Nat} {t : TypeId} {a0 a1 a2 a3 : Value} (h : W.heap[b]? = some (.cells #[a0,a1,a2,a3] t (0,0))) (v0 v1 v2 v3 : Value) :
  ((((W.setCell ⟨b,0,none⟩ v0).setCell ⟨b,1,none⟩ v1).setCell ⟨b,2,none⟩ v2).setCell ⟨b,3,none⟩ v3).cell? ⟨b,0,none⟩ = some v0 ∧
  ((((W.setCell ⟨b,0,none⟩ v0).setCell ⟨b,1,none⟩ v1).setCell ⟨b,2,none⟩ v2).setCell ⟨b,3,none⟩ v3).cell? ⟨b,1,none⟩ = some v1 ∧
  ((((W.setCell ⟨b,0,none⟩ v0).setCell ⟨b,1,none⟩ v1).setCell ⟨b,2,none⟩ v2).setCell ⟨b,3,none⟩ v3).cell? ⟨b,2,none⟩ = some v2 ∧
  ((((W.setCell ⟨b,0,none⟩ v0).setCell ⟨b,1,none⟩ v1).setCell ⟨b,2,none⟩ v2).setCell ⟨b,3,none⟩ v3).cell? ⟨b,3,none⟩ = some v3 := by
 have c0 : W.cell? ⟨b,0,none⟩ = some a0 := cell_of_row h rfl
 have c1 : W.cell? ⟨b,1,none⟩ = some a1 := cell_of_row h rfl
 have c2 : W.cell? ⟨b,2,none⟩ = some a2 := cell_of_row h rfl
 have c3 : W.cell? ⟨b,3,none⟩ = some a3 := cell_of_row h rfl
 refine ⟨?_,?_,?_,?_⟩
 ·rw [World.cell?_setCell_other _ _ _ _ (by simp),World.cell?_setCell_other _ _ _ _ (by simp),World.cell?_setCell_other _ _ _ _ (by simp)]
  exact World.cell?_setCell_same' _ _ _ (by rw [c0];rfl)
 ·rw [World.cell?_setCell_other _ _ _ _ (by simp),World.cell?_setCell_other _ _ _ _ (by simp)]
  exact World.cell?_setCell_same' _ _ _ (by rw [World.cell?_setCell_other _ _ _ _ (by simp),c1];rfl)
 ·rw [World.cell?_setCell_other _ _ _ _ (by simp)]
  exact World.cell?_setCell_same' _ _ _ (by rw [World.cell?_setCell_other _ _ _ _ (by simp),World.cell?_setCell_other _ _ _ _ (by simp),c2];rfl)
 ·exact World.cell?_setCell_same' _ _ _ (by rw [World.cell?_setCell_other _ _ _ _ (by simp),World.cell?_setCell_other _ _ _ _ (by simp),World.cell?_setCell_other _ _ _ _ (by simp),c3];rfl)
theorem below_four {w W : World} {n b : Nat} (h : Below n w W) (hb : n ≤ b) (v0 v1 v2 v3 : Value) :
  Below n w ((((W.setCell ⟨b,0,none⟩ v0).setCell ⟨b,1,none⟩ v1).setCell ⟨b,2,none⟩ v2).setCell ⟨b,3,none⟩ v3) :=
 (((h.setCell (p := ⟨b,0,none⟩) hb _).setCell (p := ⟨b,1,none⟩) hb _).setCell (p := ⟨b,2,none⟩) hb _).setCell (p := ⟨b,3,none⟩) hb _
abbrev noRule : Value := .agg #[.string ⟨#[]⟩,.string ⟨#[]⟩,.string ⟨#[]⟩,.slice none 0 0]
theorem rcut_calls (s sep : List UInt8) (hs : s.length ≤ 1000000) (m : Int) (w : World) (hm : w.cell? ⟨13,0,none⟩ = some (.int .i64 m)) :
  Calls Tryz.prog 33 #[.string (ba s),.string (ba sep)] w fun e w' => e = .returned (.tuple #[.string (ba (Lib.cut s sep).1),.string (ba (Lib.cut s sep).2.1),.bool (Lib.cut s sep).2.2]) ∧ Below w.heap.size w w' :=
 (Tryz.strings_Cut (ba s) (ba sep) m w (by rw [ba_size];omega) hm).mono fun e w' ⟨h1,n,h2⟩ => ⟨h1,h2 ▸ below_draws (Below.refl _ w) n⟩
theorem readLine_calls (s : List UInt8) (hs : s.length ≤ 100000) (m : Int) (w : World) (hm : w.cell? ⟨13,0,none⟩ = some (.int .i64 m)) :
  Calls Tryz.prog 99 #[.string (ba s)] w fun e w' => (match Rd.line s with | some r => ∃ v,e = .returned (.tuple #[ruV r v,.bool true]) ∧ XRow w' v r.ins ∧ ∀ a n c,v = .slice (some a) n c → w.heap.size ≤ a.block | none => e = .returned (.tuple #[noRule,.bool false])) ∧ Below w.heap.size w w' := by
 obtain ⟨o,ho⟩ : ∃ o,Rd.line s = o := ⟨_,rfl⟩
 rw [ho]
 obtain ⟨t,ht⟩ : ∃ t,Lib.trimSuffix s [10] = t := ⟨_,rfl⟩
 have htl : t.length ≤ 100000 := by
  rw [← ht]
  unfold Lib.trimSuffix
  split
  ·simp;omega
  ·exact hs
 have g0 : Below w.heap.size w (w.alloc (.cells #[.string ⟨#[]⟩,.string ⟨#[]⟩,.string ⟨#[]⟩,.slice none 0 0] 36)) := (Below.refl _ w).alloc (Nat.le_refl _) _
 have r0 : (w.alloc (.cells #[.string ⟨#[]⟩,.string ⟨#[]⟩,.string ⟨#[]⟩,.slice none 0 0] 36)).heap[w.heap.size]? = some (.cells #[.string ⟨#[]⟩,.string ⟨#[]⟩,.string ⟨#[]⟩,.slice none 0 0] 36 (0,0)) := (MapKept.heap_alloc w _).1
 have z0 : (w.alloc (.cells #[.string ⟨#[]⟩,.string ⟨#[]⟩,.string ⟨#[]⟩,.slice none 0 0] 36)).heap.size = w.heap.size + 1 := by simp
 have H1 : Hid (∀ W,Calls Tryz.prog 134 #[.string (ba s),.string (ba [10])] W fun e w' => e = .returned (.tuple #[.string (ba t),.bool (Lib.hasSuffix s [10])]) ∧ w' = W) := hid1 fun W => by
  have := Tryz.strings_CutSuffix (ba s) (ba [10]) W (by rw [ba_size];omega)
  rw [← ht]
  exact this
 have H2 : Hid (∀ W,Below w.heap.size w W → Calls Tryz.prog 33 #[.string (ba t),.string (ba [32,61,32])] W fun e w' => e = .returned (.tuple #[.string (ba (Lib.cut t [32,61,32]).1),.string (ba (Lib.cut t [32,61,32]).2.1),.bool (Lib.cut t [32,61,32]).2.2]) ∧ Below W.heap.size W w') := hid1 fun W hW => rcut_calls t [32,61,32] (by omega) m W (cell_below' hm hW)
 have hcl : (Lib.cut t [32,61,32]).2.1.length ≤ 100000 := by
  unfold Lib.cut
  split <;> simp <;> omega
 have hline : o = if Lib.hasSuffix s [10] = true ∧ (Lib.cut t [32,61,32]).2.2 = true then (Rd.cutWord (Rd.cutKind (Lib.cut t [32,61,32]).2.1).2).bind fun x => (Rd.inputs x.2).map fun l => ⟨(Lib.cut t [32,61,32]).1,(Rd.cutKind (Lib.cut t [32,61,32]).2.1).1,x.1,l⟩ else none := by
  rw [← ho]
  unfold Rd.line
  by_cases hq : Lib.hasSuffix s [10] = true
  ·have et : s.take (s.length - 1) = t := by
    rw [← ht]
    unfold Lib.trimSuffix
    rw [if_pos hq]
    rfl
   rw [if_pos hq,et]
   unfold Rd.bare Lib.cut
   by_cases hi : 0 ≤ Lib.index t [32,61,32]
   ·simp only [hi,hq,if_true,and_self]
    rfl
   ·simp [hi]
  ·rw [if_neg hq,if_neg (fun h => hq h.1)]
 generalize Lib.cut t [32,61,32] = ct at *
 obtain ⟨out,rest,is⟩ := ct
 simp only at H2 hcl hline
 generalize Lib.hasSuffix s [10] = en at *
 have H3 := hid1 fun (W : World) => cutKind_calls rest W
 generalize hck : Rd.cutKind rest = ck at *
 obtain ⟨kind,rest2⟩ := ck
 simp only at H3 hline
 have hr2 : rest2.length ≤ 100000 := by
  have : rest2 = (Rd.cutKind rest).2 := by rw [hck]
  rw [this]
  unfold Rd.cutKind
  split <;> simp
  omega
 have H4 := hid1 fun (W : World) => cutWord_calls rest2 hr2 W
 clear hck ht htl ho
 have HO := hid1 hline
 clear hline
 generalize hW0 : w.alloc (.cells #[.string ⟨#[]⟩,.string ⟨#[]⟩,.string ⟨#[]⟩,.slice none 0 0] 36) = W0 at *
 have hz1 : w.heap.size < W0.heap.size := by omega
 go_enter Tryz.func99,Tryz.ntmps99
 go_wp2_with fail
 refine (H1.out W0).mono ?_
 rintro e w1 ⟨rfl,rfl⟩
 go_wp2_with fail
 refine (H2.out _ g0).mono ?_
 rintro e w2 ⟨rfl,g2'⟩
 have gw2 := below_then g0 g2'
 have rw2 := (g2'.block _ hz1).trans r0
 have z2 : w.heap.size < w2.heap.size := by have := g2'.size;omega
 have c0w2 : w2.cell? ⟨w.heap.size,0,none⟩ = some (.string ⟨#[]⟩) := cell_of_row rw2 rfl
 have c1w2 : w2.cell? ⟨w.heap.size,1,none⟩ = some (.string ⟨#[]⟩) := cell_of_row rw2 rfl
 have c2w2 : w2.cell? ⟨w.heap.size,2,none⟩ = some (.string ⟨#[]⟩) := cell_of_row rw2 rfl
 have c3w2 : w2.cell? ⟨w.heap.size,3,none⟩ = some (.slice none 0 0) := cell_of_row rw2 rfl
 have f0w2 : w2.frozen? ⟨w.heap.size,0,none⟩ = false := by simp [World.frozen?,rw2]
 have f1w2 : w2.frozen? ⟨w.heap.size,1,none⟩ = false := by simp [World.frozen?,rw2]
 have f2w2 : w2.frozen? ⟨w.heap.size,2,none⟩ = false := by simp [World.frozen?,rw2]
 have f3w2 : w2.frozen? ⟨w.heap.size,3,none⟩ = false := by simp [World.frozen?,rw2]
 clear r0 g0 g2' H1 H2
 by_cases hen : en = true ∧ is = true
 ·obtain ⟨rfl,rfl⟩ := hen
  have HO' : Hid (o = (Rd.cutWord rest2).bind fun x => (Rd.inputs x.2).map fun l => ⟨out,kind,x.1,l⟩) := hid1 (by rw [HO.out];simp)
  clear HO
  go_wp2_with fail
  refine (H3.out w2).mono ?_
  rintro e w3 ⟨rfl,g3'⟩
  have gw3 := below_then gw2 g3'
  have rw3 := (g3'.block _ z2).trans rw2
  have z3 : w.heap.size < w3.heap.size := by have := g3'.size;omega
  have c0w3 : w3.cell? ⟨w.heap.size,0,none⟩ = some (.string ⟨#[]⟩) := cell_of_row rw3 rfl
  have c1w3 : w3.cell? ⟨w.heap.size,1,none⟩ = some (.string ⟨#[]⟩) := cell_of_row rw3 rfl
  have c2w3 : w3.cell? ⟨w.heap.size,2,none⟩ = some (.string ⟨#[]⟩) := cell_of_row rw3 rfl
  have c3w3 : w3.cell? ⟨w.heap.size,3,none⟩ = some (.slice none 0 0) := cell_of_row rw3 rfl
  have f0w3 : w3.frozen? ⟨w.heap.size,0,none⟩ = false := by simp [World.frozen?,rw3]
  have f1w3 : w3.frozen? ⟨w.heap.size,1,none⟩ = false := by simp [World.frozen?,rw3]
  have f2w3 : w3.frozen? ⟨w.heap.size,2,none⟩ = false := by simp [World.frozen?,rw3]
  have f3w3 : w3.frozen? ⟨w.heap.size,3,none⟩ = false := by simp [World.frozen?,rw3]
  clear rw2 gw2 g3' H3 c0w2 c1w2 c2w2 c3w2 f0w2 f1w2 f2w2 f3w2
  have H4' := hid1 (H4.out w3)
  clear H4
  cases hw : Rd.cutWord rest2 with
  | none =>
   rw [hw] at H4' HO'
   obtain rfl : o = none := HO'.out
   clear HO' hw
   go_wp2_with fail
   refine H4'.out.mono ?_
   rintro e w4 ⟨⟨a,b,rfl⟩,g4'⟩
   have gw4 := below_then gw3 g4'
   have rw4 := (g4'.block _ z3).trans rw3
   have c0w4 : w4.cell? ⟨w.heap.size,0,none⟩ = some (.string ⟨#[]⟩) := cell_of_row rw4 rfl
   have c1w4 : w4.cell? ⟨w.heap.size,1,none⟩ = some (.string ⟨#[]⟩) := cell_of_row rw4 rfl
   have c2w4 : w4.cell? ⟨w.heap.size,2,none⟩ = some (.string ⟨#[]⟩) := cell_of_row rw4 rfl
   have c3w4 : w4.cell? ⟨w.heap.size,3,none⟩ = some (.slice none 0 0) := cell_of_row rw4 rfl
   have f0w4 : w4.frozen? ⟨w.heap.size,0,none⟩ = false := by simp [World.frozen?,rw4]
   have f1w4 : w4.frozen? ⟨w.heap.size,1,none⟩ = false := by simp [World.frozen?,rw4]
   have f2w4 : w4.frozen? ⟨w.heap.size,2,none⟩ = false := by simp [World.frozen?,rw4]
   have f3w4 : w4.frozen? ⟨w.heap.size,3,none⟩ = false := by simp [World.frozen?,rw4]
   clear rw3 gw3 g4' H4' c0w3 c1w3 c2w3 c3w3 f0w3 f1w3 f2w3 f3w3
   go_wp2
   obtain ⟨h0,h1,h2,h3⟩ := four_set rw4 (.string ⟨#[]⟩) (.string ⟨#[]⟩) (.string ⟨#[]⟩) (.slice none 0 0)
   refine bodyPost_ret (v := .tuple #[noRule,.bool false]) ?_ rfl ?_
   ·simp [results,Tryz.f99,go_sem,h0,h1,h2,h3]
   ·exact ⟨rfl,below_four gw4 (Nat.le_refl _) _ _ _ _⟩
  | some x =>
   obtain ⟨word,rest3⟩ := x
   have hr3 : rest3.length ≤ 100000 := Nat.le_trans (Rd.cutWord_len hw) hr2
   rw [hw] at H4' HO'
   clear hw
   go_wp2_with fail
   refine H4'.out.mono ?_
   rintro e w4 ⟨rfl,g4'⟩
   have gw4 := below_then gw3 g4'
   have rw4 := (g4'.block _ z3).trans rw3
   have z4 : w.heap.size < w4.heap.size := by have := g4'.size;omega
   have c0w4 : w4.cell? ⟨w.heap.size,0,none⟩ = some (.string ⟨#[]⟩) := cell_of_row rw4 rfl
   have c1w4 : w4.cell? ⟨w.heap.size,1,none⟩ = some (.string ⟨#[]⟩) := cell_of_row rw4 rfl
   have c2w4 : w4.cell? ⟨w.heap.size,2,none⟩ = some (.string ⟨#[]⟩) := cell_of_row rw4 rfl
   have c3w4 : w4.cell? ⟨w.heap.size,3,none⟩ = some (.slice none 0 0) := cell_of_row rw4 rfl
   have f0w4 : w4.frozen? ⟨w.heap.size,0,none⟩ = false := by simp [World.frozen?,rw4]
   have f1w4 : w4.frozen? ⟨w.heap.size,1,none⟩ = false := by simp [World.frozen?,rw4]
   have f2w4 : w4.frozen? ⟨w.heap.size,2,none⟩ = false := by simp [World.frozen?,rw4]
   have f3w4 : w4.frozen? ⟨w.heap.size,3,none⟩ = false := by simp [World.frozen?,rw4]
   clear rw3 gw3 g4' H4' c0w3 c1w3 c2w3 c3w3 f0w3 f1w3 f2w3 f3w3
   have H5 := hid1 (readInputs_calls rest3 hr3 m w4 (cell_below' hm gw4))
   cases hi : Rd.inputs rest3 with
   | none =>
    rw [hi] at H5
    obtain rfl : o = none := by rw [HO'.out];simp [hi]
    clear HO' hi
    go_wp2_with fail
    refine H5.out.mono ?_
    rintro e w5 ⟨⟨a,rfl⟩,g5'⟩
    have gw5 := below_then gw4 g5'
    have rw5 := (g5'.block _ z4).trans rw4
    have c0w5 : w5.cell? ⟨w.heap.size,0,none⟩ = some (.string ⟨#[]⟩) := cell_of_row rw5 rfl
    have c1w5 : w5.cell? ⟨w.heap.size,1,none⟩ = some (.string ⟨#[]⟩) := cell_of_row rw5 rfl
    have c2w5 : w5.cell? ⟨w.heap.size,2,none⟩ = some (.string ⟨#[]⟩) := cell_of_row rw5 rfl
    have c3w5 : w5.cell? ⟨w.heap.size,3,none⟩ = some (.slice none 0 0) := cell_of_row rw5 rfl
    have f0w5 : w5.frozen? ⟨w.heap.size,0,none⟩ = false := by simp [World.frozen?,rw5]
    have f1w5 : w5.frozen? ⟨w.heap.size,1,none⟩ = false := by simp [World.frozen?,rw5]
    have f2w5 : w5.frozen? ⟨w.heap.size,2,none⟩ = false := by simp [World.frozen?,rw5]
    have f3w5 : w5.frozen? ⟨w.heap.size,3,none⟩ = false := by simp [World.frozen?,rw5]
    clear rw4 gw4 g5' H5 c0w4 c1w4 c2w4 c3w4 f0w4 f1w4 f2w4 f3w4
    go_wp2
    obtain ⟨h0,h1,h2,h3⟩ := four_set rw5 (.string ⟨#[]⟩) (.string ⟨#[]⟩) (.string ⟨#[]⟩) (.slice none 0 0)
    refine bodyPost_ret (v := .tuple #[noRule,.bool false]) ?_ rfl ?_
    ·simp [results,Tryz.f99,go_sem,h0,h1,h2,h3]
    ·exact ⟨rfl,below_four gw5 (Nat.le_refl _) _ _ _ _⟩
   | some l =>
    rw [hi] at H5
    obtain rfl : o = some ⟨out,kind,word,l⟩ := by rw [HO'.out];simp [hi]
    clear HO' hi
    go_wp2_with fail
    refine H5.out.mono ?_
    rintro e w5 ⟨⟨v,rfl,hx,hnew⟩,g5'⟩
    have gw5 := below_then gw4 g5'
    have rw5 := (g5'.block _ z4).trans rw4
    have HX := hid1 hx
    have HNw := hid1 hnew
    obtain ⟨pv,cv,rfl,-⟩ := hx
    clear hnew
    have c0w5 : w5.cell? ⟨w.heap.size,0,none⟩ = some (.string ⟨#[]⟩) := cell_of_row rw5 rfl
    have c1w5 : w5.cell? ⟨w.heap.size,1,none⟩ = some (.string ⟨#[]⟩) := cell_of_row rw5 rfl
    have c2w5 : w5.cell? ⟨w.heap.size,2,none⟩ = some (.string ⟨#[]⟩) := cell_of_row rw5 rfl
    have c3w5 : w5.cell? ⟨w.heap.size,3,none⟩ = some (.slice none 0 0) := cell_of_row rw5 rfl
    have f0w5 : w5.frozen? ⟨w.heap.size,0,none⟩ = false := by simp [World.frozen?,rw5]
    have f1w5 : w5.frozen? ⟨w.heap.size,1,none⟩ = false := by simp [World.frozen?,rw5]
    have f2w5 : w5.frozen? ⟨w.heap.size,2,none⟩ = false := by simp [World.frozen?,rw5]
    have f3w5 : w5.frozen? ⟨w.heap.size,3,none⟩ = false := by simp [World.frozen?,rw5]
    clear rw4 gw4 g5' H5 c0w4 c1w4 c2w4 c3w4 f0w4 f1w4 f2w4 f3w4
    go_wp2
    obtain ⟨h0,h1,h2,h3⟩ := four_set rw5 (.string (ba out)) (.string (ba kind)) (.string (ba word)) (.slice pv l.length cv)
    refine bodyPost_ret (v := .tuple #[ruV ⟨out,kind,word,l⟩ (.slice pv l.length cv),.bool true]) ?_ rfl ?_
    ·simp [results,Tryz.f99,go_sem,h0,h1,h2,h3]
    ·refine ⟨⟨_,rfl,HX.out.stay (by simp) fun _ a n c h => ?_,fun a n c h => Nat.le_trans (Nat.le_of_lt z4) (HNw.out a n c h)⟩,below_four gw5 (Nat.le_refl _) _ _ _ _⟩
     have h1 : a.block ≠ w.heap.size := by have := HNw.out a n c h;omega
     exact (((Below.heap_setCell _ _ _ _ h1).trans (Below.heap_setCell _ _ _ _ h1)).trans (Below.heap_setCell _ _ _ _ h1)).trans (Below.heap_setCell _ _ _ _ h1)
 ·obtain rfl : o = none := by rw [HO.out,if_neg hen]
  clear HO H3 H4
  cases en with
  | false =>
   go_wp2
   obtain ⟨h0,h1,h2,h3⟩ := four_set rw2 (.string ⟨#[]⟩) (.string ⟨#[]⟩) (.string ⟨#[]⟩) (.slice none 0 0)
   refine bodyPost_ret (v := .tuple #[noRule,.bool false]) ?_ rfl ?_
   ·simp [results,Tryz.f99,go_sem,h0,h1,h2,h3]
   ·exact ⟨rfl,below_four gw2 (Nat.le_refl _) _ _ _ _⟩
  | true =>
   cases is with
   | true => exact absurd ⟨rfl,rfl⟩ hen
   | false =>
    go_wp2
    obtain ⟨h0,h1,h2,h3⟩ := four_set rw2 (.string ⟨#[]⟩) (.string ⟨#[]⟩) (.string ⟨#[]⟩) (.slice none 0 0)
    refine bodyPost_ret (v := .tuple #[noRule,.bool false]) ?_ rfl ?_
    ·simp [results,Tryz.f99,go_sem,h0,h1,h2,h3]
    ·exact ⟨rfl,below_four gw2 (Nat.le_refl _) _ _ _ _⟩
attribute [local go_sem] Oper.semAt_some
def leftIn (w : World) (b : Nat) : Nat :=
 match w.cell? ⟨b,0,none⟩ with
 | some (.string s) => s.size
 | _ => 0
theorem lines1_in (n : Nat) (hn : 1 ≤ n) (l Bn : Nat) (s : List UInt8) (hs : s.length ≤ 100000) (J : List (List UInt8) → World → Prop)
  (hset : ∀ pre W v,J pre W → J pre (W.setCell ⟨Bn,0,none⟩ v)) (hdrew : ∀ pre W,J pre W → J pre W.drew)
  (hY : ∀ pre x W,J pre W → pre.length < (Rd.lines s).length → YieldAt Fence.wide (n - 1) Tryz.prog l #[.string (ba x)] W fun e W' =>
   e = .returned (.bool true) ∧ J (pre ++ [x]) W' ∧ W'.cell? ⟨Bn,0,none⟩ = W.cell? ⟨Bn,0,none⟩ ∧ W'.frozen? ⟨Bn,0,none⟩ = W.frozen? ⟨Bn,0,none⟩)
  (W : World) (hBn : W.cell? ⟨Bn,0,none⟩ = some (.string (ba s))) (hfz : W.frozen? ⟨Bn,0,none⟩ = false) (h0 : J [] W) :
  CallsIn Fence.wide n Tryz.prog 132 #[.func (.yield l) #[] #[],.pointer (some ⟨Bn,0,none⟩)] W fun e W' => (∃ v,e = .returned v) ∧ J (Rd.lines s) W' := by
 have hfc : Fence.wide.fn 133 := trivial
 refine callsIn_of_wp Tryz.func132 rfl trivial ?_ rfl
 simp only [Tryz.ntmps132,List.size_toArray,List.length_cons,List.length_nil,Nat.reduceAdd,Nat.reduceSub,Array.replicate_succ,Array.replicate_zero,List.push_toArray,List.append_toArray,List.nil_append,List.cons_append]
 gi_wp2
 gi_loopw [5] (fun _ wr => ∃ (pre : List (List UInt8)) (r : List UInt8),r.length ≤ 100000 ∧ J pre wr ∧ wr.cell? ⟨Bn,0,none⟩ = some (.string (ba r)) ∧ wr.frozen? ⟨Bn,0,none⟩ = false ∧ Hid (Rd.lines s = pre ++ Rd.lines r))
  (fun _ wr => leftIn wr Bn)
 case atStart =>
  exact ⟨[],s,hs,h0,hBn,hfz,hid1 rfl⟩
 case round =>
  obtain ⟨pre,r,hr,hJ,hc,hf,HL⟩ := hrel
  have HJ := hid1 hJ
  clear hJ
  by_cases he : r = []
  ·subst he
   gi_wp2
   go_end0
   refine ⟨⟨_,rfl⟩,?_⟩
   rw [HL.out]
   simpa [Rd.lines] using HJ.out
  ·have hsz : (ba r).size = r.length := ba_size r
   have hpos : 0 < r.length := by cases r with | nil => exact absurd rfl he | cons c t => simp
   have zpos : (0 : Int) < ((ba r).size : Int) := by omega
   have HI : Hid (∀ V : World,Calls Tryz.prog 133 #[.string (ba r),.int .u8 10] V fun e w' => e = .returned (.int .i64 (Lib.indexByte r 10)) ∧ w' = V) := hid1 fun V => Tryz.strings_IndexByte (ba r) 10 V
   have hge := Lib.indexByte_ge r 10
   have hlen : pre.length < (Rd.lines s).length := by
    have h1 : Rd.lines r ≠ [] := by
     by_cases hm : Lib.indexByte r 10 = -1
     ·rw [Rd.lines_miss r he hm];simp
     ·obtain ⟨i,hi⟩ : ∃ i : Nat,Lib.indexByte r 10 = (i : Int) := ⟨(Lib.indexByte r 10).toNat,by omega⟩
      rw [(Rd.lines_hit r i hi).1];simp
    have := List.length_pos_iff.2 h1
    rw [HL.out]
    simp
    omega
   by_cases hm : Lib.indexByte r 10 = -1
   ·have HM : Hid (Rd.lines s = (pre ++ [r]) ++ Rd.lines []) := hid1 (by rw [HL.out,Rd.lines_miss r he hm];simp [Rd.lines])
    rw [hm] at HI
    have hJ1 := hset pre wr (.string ⟨#[]⟩) HJ.out
    have hc1 : (wr.setCell ⟨Bn,0,none⟩ (.string ⟨#[]⟩)).cell? ⟨Bn,0,none⟩ = some (.string ⟨#[]⟩) := World.cell?_setCell_same' _ _ _ (by rw [hc];rfl)
    have hf1 : (wr.setCell ⟨Bn,0,none⟩ (.string ⟨#[]⟩)).frozen? ⟨Bn,0,none⟩ = false := by rw [World.frozen?_setCell];exact hf
    obtain ⟨fn,tmps,assign,body,hy,hR⟩ := hY pre r _ hJ1 hlen
    have hmea : leftIn wr Bn = r.length := by unfold leftIn;rw [hc];exact hsz
    have HC := hid1 hc1
    have HF := hid1 hf1
    have HMe := hid1 hmea
    clear HL hm hge HJ hJ1 hY hc1 hf1 hmea
    gi_wp2_with fail
    refine (callsIn_wide.2 (HI.out _)).mono ?_
    rintro e w1 ⟨rfl,rfl⟩
    gi_wp2
    refine hR.mono ?_
    rintro e W3 ⟨rfl,hJ3,hc3,hf3⟩
    rw [HC.out] at hc3
    rw [HF.out] at hf3
    gi_wp2
    go_roundw
    case rel => exact ⟨pre ++ [r],[],by simp,hJ3,hc3,hf3,HM⟩
    case measure =>
     show leftIn W3 Bn < leftIn w1 Bn
     rw [HMe.out]
     unfold leftIn
     rw [hc3]
     exact hpos
   ·obtain ⟨i,hi⟩ : ∃ i : Nat,Lib.indexByte r 10 = (i : Int) := ⟨(Lib.indexByte r 10).toNat,by omega⟩
    obtain ⟨el,hil⟩ := Rd.lines_hit r i hi
    have HM : Hid (Rd.lines s = (pre ++ [r.take (i + 1)]) ++ Rd.lines (r.drop (i + 1))) := hid1 (by rw [HL.out,el];simp)
    rw [hi] at HI
    have e1 : (ba r).extract 0 (i + 1) = ba (r.take (i + 1)) := by rw [bax];simp
    have e2 : (ba r).extract (i + 1) r.length = ba (r.drop (i + 1)) := by rw [bax,List.take_of_length_le (by simp)]
    have hJ1 := hdrew pre _ (hset pre wr (.string (ba (r.drop (i + 1)))) HJ.out)
    have hc1 : (wr.setCell ⟨Bn,0,none⟩ (.string (ba (r.drop (i + 1))))).drew.cell? ⟨Bn,0,none⟩ = some (.string (ba (r.drop (i + 1)))) := World.cell?_setCell_same' wr _ _ (by rw [hc];rfl)
    have hf1 : (wr.setCell ⟨Bn,0,none⟩ (.string (ba (r.drop (i + 1))))).drew.frozen? ⟨Bn,0,none⟩ = false := (World.frozen?_setCell wr _ _ _).trans hf
    obtain ⟨fn,tmps,assign,body,hy,hR⟩ := hY pre (r.take (i + 1)) _ hJ1 hlen
    have hmea : leftIn wr Bn = r.length := by unfold leftIn;rw [hc];exact hsz
    have HC := hid1 hc1
    have HF := hid1 hf1
    have HMe := hid1 hmea
    have z1 : (0 : Int) ≤ (i : Int) := by omega
    have z2 : (i : Int) + 1 ≤ ((ba r).size : Int) := by omega
    have z3 : (0 : Int) ≤ (i : Int) + 1 := by omega
    have z4 : ((ba r).size : Int) ≤ 100000 := by omega
    have z5 : IntKind.i64.wrap ((i : Int) + 1) = (i : Int) + 1 := by simp [IntKind.wrap,IntKind.bits,IntKind.signed];omega
    clear HL hm hge HJ hJ1 hY hc1 hf1 hmea el
    gi_wp2_with fail
    refine (callsIn_wide.2 (HI.out _)).mono ?_
    rintro e w1 ⟨rfl,rfl⟩
    gi_wp2
    gi_region
    gi_wp2
    refine hR.mono ?_
    rintro e W3 ⟨rfl,hJ3,hc3,hf3⟩
    rw [HC.out] at hc3
    rw [HF.out] at hf3
    gi_wp2
    go_roundw
    case rel => exact ⟨pre ++ [r.take (i + 1)],r.drop (i + 1),by simp;omega,hJ3,hc3,hf3,HM⟩
    case measure =>
     show leftIn W3 Bn < leftIn w1 Bn
     rw [HMe.out]
     unfold leftIn
     rw [hc3]
     show (ba (r.drop (i + 1))).size < r.length
     rw [ba_size]
     simp
     omega
end Go.Proofs.YtdljhggillgpfaaGreatDoor
