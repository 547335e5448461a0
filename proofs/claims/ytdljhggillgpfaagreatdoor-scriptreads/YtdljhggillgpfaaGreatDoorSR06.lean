import Derived.Test.YtdljhggillgpfaaGreatDoorSR03
import Derived.Test.YtdljhggillgpfaaGreatDoorSR05
import Derived.Lib.SmallJoins
import Derived.Lib.ItoaLen
import Derived.Sort.Grow
import Derived.Lib.SlicesCompact
set_option maxRecDepth 100000
set_option maxHeartbeats 4000000
namespace Go.Proofs.YtdljhggillgpfaaGreatDoor
open Go.RowKit Go.Shelf Go.Lib Go.Maps
open Go.Sort (grow)
def TRow (w : World) (v : Value) (l : List (List UInt8)) : Prop :=
 ∃ p cap,v = .slice p l.length cap ∧ l.length ≤ cap ∧ (l ≠ [] → ∃ g cur,p = some ⟨g,0,none⟩ ∧ w.heap[g]? = some (.cells cur 9 (0,0)) ∧ ∀ j (hj : j < l.length),cur[j]? = some (.string (ba l[j])))
theorem TRow.of_owns {w : World} {base : Nat} {v : Value} {l : List (List UInt8)} {n : Nat} (h : w.ownsRow base 9 1 v n (l.map encStr)) : TRow w v l := by
 have hn : n = l.length := by have := h.1;simp at this;omega
 subst hn
 rcases h.2 with ⟨rfl,hn⟩ | ⟨g,cap,cur,rfl,_,hb,h1,_,_,h4⟩
 ·obtain rfl : l = [] := by simpa using hn
  exact ⟨none,0,rfl,Nat.le_refl _,fun h => absurd rfl h⟩
 ·refine ⟨_,cap,rfl,h1,fun _ => ⟨g,cur,rfl,hb,fun j hj => ?_⟩⟩
  have := congrArg (fun x => x[j]?) h4
  simp only [Nat.mul_one,List.getElem?_take,hj,if_true,List.getElem?_map,List.getElem?_eq_getElem hj,Option.map_some,Array.getElem?_toList] at this
  exact this
theorem TRow.below {w w' : World} {v : Value} {l : List (List UInt8)} (h : TRow w v l) (hb : Below w.heap.size w w') : TRow w' v l := by
 obtain ⟨p,cap,e,h0,h1⟩ := h
 refine ⟨p,cap,e,h0,fun hl => ?_⟩
 obtain ⟨g,cur,e,hg,hc⟩ := h1 hl
 exact ⟨g,cur,e,(hb.block g (Array.getElem?_eq_some_iff.1 hg).1).trans hg,hc⟩
theorem cell_of_row {w : World} {g j : Nat} {cur : Array Value} {t : TypeId} {fz : Nat × Nat} {x : Value} (hg : w.heap[g]? = some (.cells cur t fz)) (hc : cur[j]? = some x) : w.cell? ⟨g,j,none⟩ = some x := by
 simp [World.cell?,hg,hc]
theorem below_grow (w : World) (k : Nat) (os : Array Obj) : Below w.heap.size w (grow (w.drewN k) os) :=
 ⟨rfl,rfl,rfl,by simp [grow],fun i hi => by simp [grow,Array.getElem?_append_left hi]⟩
abbrev Pow (w : World) : Prop := Lib.TabIs Tryz.prog w "internal/strconv.uint64pow10" .u64 Lib.pow10Tab
theorem pow_below {w w' : World} (h : Pow w) (hb : Below w.heap.size w w') : Pow w' := Go.Joins.tab_stays (g := 16) (by kernel_rfl) h hb (Nat.le_refl _)
theorem digits_len (n : Nat) (h : n ≤ 100000) : (Lib.decDigits n).length ≤ 21 := by
 have := Lib.itoa_length_le (n : Int) (by omega) (by omega)
 rwa [Lib.itoa_nonneg] at this
end Go.Proofs.YtdljhggillgpfaaGreatDoor
namespace Go.Proofs.YtdljhggillgpfaaGreatDoor
open Go.RowKit Go.Shelf Go.Lib
def IRow (w : World) (v : Value) (l : List (List UInt8)) : Prop :=
 ∃ p cap,v = .slice p l.length cap ∧ (l ≠ [] → ∃ g o,p = some ⟨g,o,none⟩ ∧ g < w.heap.size ∧ ∀ j (hj : j < l.length),w.cell? ⟨g,o + j,none⟩ = some (.string (ba l[j])))
theorem IRow.below {w w' : World} {v : Value} {l : List (List UInt8)} (h : IRow w v l) (hb : Below w.heap.size w w') : IRow w' v l := by
 obtain ⟨p,cap,e,h1⟩ := h
 refine ⟨p,cap,e,fun hl => ?_⟩
 obtain ⟨g,o,e,hg,hc⟩ := h1 hl
 exact ⟨g,o,e,Nat.lt_of_lt_of_le hg hb.size,fun j hj => (hb.cell (p := ⟨g,o + j,none⟩) hg).trans (hc j hj)⟩
def XRow (w : World) (v : Value) (l : List (List UInt8)) : Prop :=
 ∃ p cap,v = .slice p l.length cap ∧ l.length ≤ cap ∧ (p = none → cap = 0) ∧ (l ≠ [] → ∃ g o,p = some ⟨g,o,none⟩ ∧ g < w.heap.size ∧ ∀ j (hj : j < l.length),w.cell? ⟨g,o + j,none⟩ = some (.string (ba l[j])))
theorem XRow.below {w w' : World} {v : Value} {l : List (List UInt8)} (h : XRow w v l) (hb : Below w.heap.size w w') : XRow w' v l := by
 obtain ⟨p,cap,e,h0,hn,h1⟩ := h
 refine ⟨p,cap,e,h0,hn,fun hl => ?_⟩
 obtain ⟨g,o,e,hg,hc⟩ := h1 hl
 exact ⟨g,o,e,Nat.lt_of_lt_of_le hg hb.size,fun j hj => (hb.cell (p := ⟨g,o + j,none⟩) hg).trans (hc j hj)⟩
theorem XRow.irow {w : World} {v : Value} {l : List (List UInt8)} (h : XRow w v l) : IRow w v l := by
 obtain ⟨p,cap,e,_,_,h1⟩ := h
 exact ⟨p,cap,e,h1⟩
theorem XRow.nil (w : World) : XRow w (.slice none 0 0) [] := ⟨none,0,rfl,Nat.le_refl _,fun _ => rfl,fun h => absurd rfl h⟩
theorem XRow.of_owns {w : World} {base : Nat} {v : Value} {l : List (List UInt8)} {n : Nat} (h : w.ownsRow base 9 1 v n (l.map sv)) : XRow w v l := by
 have hn : n = l.length := by have := h.1;simp at this;omega
 subst hn
 rcases h.2 with ⟨rfl,hn⟩ | ⟨g,cap,cur,rfl,_,hb,h1,_,_,h4⟩
 ·obtain rfl : l = [] := by simpa using hn
  exact XRow.nil w
 ·refine ⟨_,cap,rfl,h1,fun h => (by cases h),fun _ => ⟨g,0,rfl,(Array.getElem?_eq_some_iff.1 hb).1,fun j hj => ?_⟩⟩
  have := congrArg (fun x => x[j]?) h4
  simp only [Nat.mul_one,List.getElem?_take,hj,if_true,List.getElem?_map,List.getElem?_eq_getElem hj,Option.map_some,Array.getElem?_toList] at this
  rw [Nat.zero_add]
  exact cell_of_row hb this
theorem add_at2 (g k j : Nat) : (⟨g,k,none⟩ : Addr).add j = ⟨g,k + j,none⟩ := by
 by_cases h0 : j = 0 <;> simp [Addr.add,h0]
end Go.Proofs.YtdljhggillgpfaaGreatDoor
namespace Go.Proofs.YtdljhggillgpfaaGreatDoor
open Go.RowKit Go.Shelf Go.Lib
structure Ru where
 out : List UInt8
 kind : List UInt8
 word : List UInt8
 ins : List (List UInt8)
namespace Ru
def firstFrom (c : Nat → Nat) : Nat → Nat → Option Nat
 | _,0 => none
 | k,n + 1 => if c k = 0 then firstFrom c (k + 1) n else some k
def first (c : Nat → Nat) (n : Nat) : Option Nat := firstFrom c 0 n
def firstC (c : Nat → Nat) (n : Nat) : Nat := match first c n with | some k => c k | none => 0
theorem firstFrom_none {c : Nat → Nat} : ∀ {n k : Nat},(∀ j,k ≤ j → j < k + n → c j = 0) → firstFrom c k n = none
 | 0,_,_ => rfl
 | n + 1,k,h => by
  unfold firstFrom
  rw [if_pos (h k (Nat.le_refl _) (by omega))]
  exact firstFrom_none fun j h1 h2 => h j (by omega) (by omega)
theorem firstFrom_some {c : Nat → Nat} {m : Nat} : ∀ {n k : Nat},k ≤ m → m < k + n → c m ≠ 0 → (∀ j,k ≤ j → j < m → c j = 0) → firstFrom c k n = some m
 | 0,_,h1,h2,_,_ => by omega
 | n + 1,k,h1,h2,hc,h => by
  unfold firstFrom
  by_cases e : k = m
  ·subst e
   rw [if_neg hc]
  ·rw [if_pos (h k (Nat.le_refl _) (by omega))]
   exact firstFrom_some (by omega) (by omega) hc fun j h1 h2 => h j (by omega) h2
theorem first_none {c : Nat → Nat} {n : Nat} (h : ∀ j,j < n → c j = 0) : first c n = none := firstFrom_none fun j _ h2 => h j (by omega)
theorem first_some {c : Nat → Nat} {n m : Nat} (hm : m < n) (hc : c m ≠ 0) (h : ∀ j,j < m → c j = 0) : first c n = some m := firstFrom_some (Nat.zero_le _) (by omega) hc fun j _ h2 => h j h2
theorem firstFrom_none_zero {c : Nat → Nat} : ∀ {n k : Nat},firstFrom c k n = none → ∀ j,k ≤ j → j < k + n → c j = 0
 | 0,_,_,j,h1,h2 => by omega
 | n + 1,k,h,j,h1,h2 => by
  unfold firstFrom at h
  split at h
  ·rename_i h0
   by_cases e : j = k
   ·rw [e];exact h0
   ·exact firstFrom_none_zero h j (by omega) (by omega)
  ·cases h
theorem firstFrom_some_ne {c : Nat → Nat} {m : Nat} : ∀ {n k : Nat},firstFrom c k n = some m → c m ≠ 0
 | 0,_,h => by cases h
 | n + 1,k,h => by
  unfold firstFrom at h
  split at h
  ·exact firstFrom_some_ne h
  ·rename_i h0
   rw [← Option.some.inj h]
   exact h0
theorem first_none_zero {c : Nat → Nat} {n : Nat} (h : first c n = none) (j : Nat) (hj : j < n) : c j = 0 := firstFrom_none_zero h j (Nat.zero_le _) (by omega)
theorem first_some_ne {c : Nat → Nat} {n m : Nat} (h : first c n = some m) : c m ≠ 0 := firstFrom_some_ne h
theorem firstC_none {c : Nat → Nat} {n : Nat} (h : ∀ j,j < n → c j = 0) : firstC c n = 0 := by unfold firstC;rw [first_none h]
theorem firstC_some {c : Nat → Nat} {n m : Nat} (hm : m < n) (hc : c m ≠ 0) (h : ∀ j,j < m → c j = 0) : firstC c n = c m := by unfold firstC;rw [first_some hm hc h]
theorem firstC_zero {c : Nat → Nat} {n : Nat} (h : firstC c n = 0) (j : Nat) (hj : j < n) : c j = 0 := by
 unfold firstC at h
 cases hf : first c n with
 | none => exact first_none_zero hf j hj
 | some k =>
  rw [hf] at h
  exact absurd h (first_some_ne hf)
theorem firstC_const {c : Nat → Nat} {n d : Nat} (h : ∀ j,c j = 0 ∨ c j = d) : firstC c n = 0 ∨ firstC c n = d := by
 unfold firstC
 split
 ·exact h _
 ·exact .inl rfl
structure Small (r : Ru) : Prop where
 out : r.out.length ≤ 100
 kind : r.kind.length ≤ 60
 word : r.word.length ≤ 150
 many : r.ins.length ≤ 12
 ins : ∀ x ∈ r.ins,x.length ≤ 300
end Ru
abbrev ruV (r : Ru) (v : Value) : Value := .agg #[.string (ba r.out),.string (ba r.kind),.string (ba r.word),v]
def RuAt (w : World) (g o : Nat) (r : Ru) : Prop :=
 w.cell? ⟨g,o,none⟩ = some (.string (ba r.out)) ∧ w.cell? ⟨g,o + 1,none⟩ = some (.string (ba r.kind)) ∧ w.cell? ⟨g,o + 2,none⟩ = some (.string (ba r.word)) ∧ ∃ v,w.cell? ⟨g,o + 3,none⟩ = some v ∧ XRow w v r.ins
theorem RuAt.below {w w' : World} {g o : Nat} {r : Ru} (h : RuAt w g o r) (hb : Below w.heap.size w w') : RuAt w' g o r := by
 obtain ⟨h0,h1,h2,v,h3,h4⟩ := h
 exact ⟨cell_below' h0 hb,cell_below' h1 hb,cell_below' h2 hb,v,cell_below' h3 hb,h4.below hb⟩
def RRow (w : World) (v : Value) (l : List Ru) : Prop :=
 ∃ p cap,v = .slice p l.length cap ∧ l.length ≤ cap ∧ (p = none → cap = 0) ∧ (l ≠ [] → ∃ g o,p = some ⟨g,o,none⟩ ∧ g < w.heap.size ∧ ∀ j (hj : j < l.length),RuAt w g (o + j * 4) l[j])
theorem RRow.below {w w' : World} {v : Value} {l : List Ru} (h : RRow w v l) (hb : Below w.heap.size w w') : RRow w' v l := by
 obtain ⟨p,cap,e,h0,hn,h1⟩ := h
 refine ⟨p,cap,e,h0,hn,fun hl => ?_⟩
 obtain ⟨g,o,e,hg,hc⟩ := h1 hl
 exact ⟨g,o,e,Nat.lt_of_lt_of_le hg hb.size,fun j hj => (hc j hj).below hb⟩
theorem RRow.nil (w : World) : RRow w (.slice none 0 0) [] := ⟨none,0,rfl,Nat.le_refl _,fun _ => rfl,fun h => absurd rfl h⟩
end Go.Proofs.YtdljhggillgpfaaGreatDoor
namespace Go.Proofs.YtdljhggillgpfaaGreatDoor
open Go.RowKit Go.Shelf Go.Lib
namespace Af
def lines : List UInt8 → List (List UInt8)
 | [] => []
 | c :: r => if c = 10 then [] :: lines r else match lines r with
  | [] => [[c]]
  | p :: ps => (c :: p) :: ps
def told (l : List (List UInt8)) : List UInt8 := l.flatMap fun x => x ++ [10]
def all (l : List (List UInt8)) : List (List UInt8) := l.flatMap lines
def srt (l : List (List UInt8)) : List (List UInt8) := l.mergeSort fun x y => decide (x ≤ y)
theorem cut_lines (s : List UInt8) : cutB 10 s = (if s = [] then [[]] else if s.getLast? = some 10 then lines s ++ [[]] else lines s) := by
 induction s with
 | nil => rfl
 | cons c r ih =>
  rw [if_neg (List.cons_ne_nil c r)]
  by_cases hr : r = []
  ·subst hr
   by_cases hc : c = 10 <;> simp [hc,cutB,lines]
  ·rw [if_neg hr] at ih
   have hg : (c :: r).getLast? = r.getLast? := by
    cases r with
    | nil => exact absurd rfl hr
    | cons x y => exact List.getLast?_cons_cons
   rw [hg]
   have hl : lines r ≠ [] := by
    cases r with
    | nil => exact absurd rfl hr
    | cons x y =>
     unfold lines
     split
     ·simp
     ·split <;> simp
   by_cases hc : c = 10
   ·simp only [cutB,lines,if_pos hc,ih]
    split <;> simp
   ·simp only [cutB,lines,if_neg hc]
    by_cases h10 : r.getLast? = some 10
    ·rw [if_pos h10] at ih
     simp only [ih,if_pos h10]
     cases hL : lines r with
     | nil => exact absurd hL hl
     | cons p ps => simp
    ·rw [if_neg h10] at ih
     simp only [ih,if_neg h10]
     cases lines r <;> rfl
theorem lines_ne {s : List UInt8} (h : s ≠ []) : lines s ≠ [] := by
 cases s with
 | nil => exact absurd rfl h
 | cons x y =>
  unfold lines
  split
  ·simp
  ·split <;> simp
theorem lines_last : ∀ {s : List UInt8},s ≠ [] → s.getLast? ≠ some 10 → ∃ o l,lines s = o ++ [l] ∧ l ≠ []
 | [],h,_ => absurd rfl h
 | [c],_,h1 => by
  have hc : c ≠ 10 := by simpa using h1
  exact ⟨[],[c],by simp [lines,hc],by simp⟩
 | c :: x :: r,_,h1 => by
  obtain ⟨o,l,e,hl⟩ := lines_last (s := x :: r) (by simp) (by simpa using h1)
  unfold lines
  rw [e]
  by_cases hc : c = 10
  ·exact ⟨[] :: o,l,by simp [hc],hl⟩
  ·cases o with
   | nil => exact ⟨[],c :: l,by simp [hc],by simp⟩
   | cons p ps => exact ⟨(c :: p) :: ps,l,by simp [hc],hl⟩
theorem lines_of_cut (s : List UInt8) : ∃ o l,cutB 10 s = o ++ [l] ∧ lines s = (if l = [] then o else o ++ [l]) := by
 by_cases hs : s = []
 ·subst hs
  exact ⟨[],[],rfl,rfl⟩
 ·by_cases h1 : s.getLast? = some 10
  ·exact ⟨lines s,[],by rw [cut_lines,if_neg hs,if_pos h1],by simp⟩
  ·obtain ⟨o,l,e,hl⟩ := lines_last hs h1
   exact ⟨o,l,by rw [cut_lines,if_neg hs,if_neg h1,e],by rw [if_neg hl,e]⟩
theorem told_len : ∀ (l : List (List UInt8)),(told l).length = (l.map fun x => x.length + 1).sum
 | [] => rfl
 | x :: r => by
  have e : told (x :: r) = x ++ 10 :: told r := by simp [told]
  rw [e,List.length_append,List.length_cons,told_len r,List.map_cons,List.sum_cons]
  omega
theorem told_lines : ∀ (s : List UInt8),told (lines s) = s ∨ told (lines s) = s ++ [10]
 | [] => .inl rfl
 | c :: r => by
  have ih := told_lines r
  unfold lines
  by_cases hc : c = 10
  ·rw [if_pos hc]
   have e : told ([] :: lines r) = 10 :: told (lines r) := by simp [told]
   rw [e,hc]
   rcases ih with ih | ih <;> rw [ih] <;> simp
  ·rw [if_neg hc]
   cases hL : lines r with
   | nil =>
    have hr : r = [] := Classical.byContradiction fun h => lines_ne h hL
    subst hr
    right
    simp [told]
   | cons p ps =>
    rw [hL] at ih
    have e : told ((c :: p) :: ps) = c :: told (p :: ps) := by simp [told]
    simp only [e]
    rcases ih with ih | ih <;> rw [ih] <;> simp
theorem told_lines_len (s : List UInt8) : s.length ≤ (told (lines s)).length ∧ (told (lines s)).length ≤ s.length + 1 := by
 rcases told_lines s with h | h <;> rw [h] <;> simp
theorem lines_len (s : List UInt8) : (lines s).length ≤ s.length := by
 induction s with
 | nil => simp [lines]
 | cons c r ih =>
  unfold lines
  split
  ·simp;omega
  ·split
   ·simp
   ·next h => rw [h] at ih;simp at ih ⊢;omega
theorem mem_le_sum : ∀ {l : List Nat} {n : Nat},n ∈ l → n ≤ l.sum
 | [],_,h => by simp at h
 | x :: r,n,h => by
  rw [List.sum_cons]
  rcases List.mem_cons.1 h with rfl | h
  ·omega
  ·have := mem_le_sum h
   omega
theorem line_len {s x : List UInt8} (h : x ∈ lines s) : x.length ≤ s.length := by
 have h2 : x.length + 1 ≤ (told (lines s)).length := by
  rw [told_len]
  have : x.length + 1 ∈ (lines s).map fun x => x.length + 1 := List.mem_map.2 ⟨x,h,rfl⟩
  exact mem_le_sum this
 have := told_lines_len s
 omega
theorem srt_perm (l : List (List UInt8)) : (srt l).Perm l := List.mergeSort_perm _ _
theorem srt_sorted (l : List (List UInt8)) : (srt l).Pairwise (fun x y => x ≤ y) := by
 have := List.pairwise_mergeSort (le := fun (x y : List UInt8) => decide (x ≤ y)) (by intro a b c h1 h2;simp at *;exact List.le_trans h1 h2) (by intro a b;simp;exact List.le_total a b) l
 exact this.imp (by intro a b h;simpa using h)
theorem srt_len (l : List (List UInt8)) : (srt l).length = l.length := (srt_perm l).length_eq
theorem told_perm {l l' : List (List UInt8)} (h : l.Perm l') : (told l).length = (told l').length := by
 rw [told_len,told_len]
 exact (h.map _).sum_nat
theorem told_append (a b : List (List UInt8)) : told (a ++ b) = told a ++ told b := by simp [told]
theorem told_all_len : ∀ (l : List (List UInt8)),(told (all l)).length ≤ (l.map fun x => x.length + 1).sum
 | [] => by simp [all,told]
 | x :: r => by
  have h1 := told_all_len r
  have h2 := (told_lines_len x).2
  have e : all (x :: r) = lines x ++ all r := by simp [all]
  rw [e,told_append]
  simp
  omega
theorem compact_succ (zs : List (List UInt8)) (m : Nat) : compactUpTo zs.toArray (m + 1) = compactUpTo zs.toArray m ++ (if keeps zs.toArray m then [zs.toArray[m]!] else []) := compactUpTo_succ _ m
theorem compact_told_len (zs : List (List UInt8)) : ∀ m,m ≤ zs.length → (told (compactUpTo zs.toArray m)).length ≤ (told (zs.take m)).length
 | 0,_ => by simp [compactUpTo,told]
 | m + 1,h => by
  have ih := compact_told_len zs m (by omega)
  have hm : m < zs.length := by omega
  rw [compact_succ,told_append,List.take_succ_eq_append_getElem hm,told_append]
  simp only [List.length_append]
  split
  ·have e : zs.toArray[m]! = zs[m] := by simp [hm]
   rw [e]
   omega
  ·simp [told] at ih ⊢
   omega
end Af
end Go.Proofs.YtdljhggillgpfaaGreatDoor
namespace Go.Proofs.YtdljhggillgpfaaGreatDoor
open Go.RowKit Go.Shelf Go.Lib
def byteOk (stars : Bool) (c : Nat) : Bool := letter c || (stars && c == 42)
def nameR (stars : Bool) (s : List UInt8) : Bool := !(decide (s = [])) && decide (s.length ≤ 12) && !(decide (s = [46])) && !(decide (s = [46,46])) && s.all (fun b => byteOk stars b.toNat)
end Go.Proofs.YtdljhggillgpfaaGreatDoor
namespace Go.Proofs.YtdljhggillgpfaaGreatDoor
open Go.RowKit Go.Shelf Go.Lib
theorem decode_high (s : ByteArray) (i : Nat) (h : 128 ≤ (s.get! i).toNat) : 128 ≤ (Utf8.decode s i).1 := by
 unfold Utf8.decode
 simp only [Nat.add_zero]
 rw [if_neg (by omega)]
 have hr : 128 ≤ Utf8.runeError := by decide
 split
 ·split
  ·simpa using ‹_›
  ·exact hr
 ·split
  ·split
   ·rename_i h2
    simp at h2
    simp only
    omega
   ·exact hr
  ·split
   ·split
    ·rename_i h2
     simp at h2
     simp only
     omega
    ·exact hr
   ·exact hr
theorem decode_low (s : ByteArray) (i : Nat) (h : (s.get! i).toNat < 128) : Utf8.decode s i = ((s.get! i).toNat,1) := by
 unfold Utf8.decode
 simp only [Nat.add_zero]
 rw [if_pos (by omega)]
theorem idx_bytes (p : Nat → Bool) (hp : ∀ x,128 ≤ x → p x = false) (l : List UInt8) : ∀ (f pos : Nat),l.length ≤ pos + f →
  (decide (0 ≤ Lib.idxFuncFrom (fun x => !p x) true (ba l) f pos) = !((l.drop pos).all (fun b => p b.toNat)))
 | 0,pos,h => by
  simp [Lib.idxFuncFrom,List.drop_of_length_le (show l.length ≤ pos by omega)]
 | f + 1,pos,h => by
  unfold Lib.idxFuncFrom
  have hz := ba_size l
  by_cases hlt : pos < l.length
  ·rw [if_pos (by rw [hz];exact hlt)]
   have hget : ((ba l).get! pos) = l[pos] := by
    show (l.toArray)[pos]! = _
    rw [getElem!_pos _ _ (by simpa using hlt)]
    simp
   rw [List.drop_eq_getElem_cons hlt,List.all_cons]
   by_cases hc : l[pos].toNat < 128
   ·rw [decode_low _ _ (by rw [hget];exact hc),hget]
    simp only
    cases hpc : p l[pos].toNat with
    | true =>
     simp only [Bool.not_true,Bool.false_eq_true,if_false,Bool.true_and]
     exact idx_bytes p hp l f (pos + 1) (by omega)
    | false => simp
   ·have h1 := decode_high (ba l) pos (by rw [hget];omega)
    rw [hp _ h1,hp l[pos].toNat (by omega)]
    simp
  ·rw [if_neg (by rw [hz];exact hlt),List.drop_of_length_le (by omega)]
   simp
theorem letter_high (x : Nat) (h : 128 ≤ x) : letter x = false := by simp [letter];omega
end Go.Proofs.YtdljhggillgpfaaGreatDoor
namespace Go.Proofs.YtdljhggillgpfaaGreatDoor
open Go.RowKit Go.Shelf Go.Lib
theorem nameK_R (l : List UInt8) : nameK letter (ba l) = nameR false l := by
 have h := idx_bytes letter letter_high l (ba l).size 0 (by rw [ba_size];omega)
 unfold nameK nameR Lib.idxFunc
 rw [h,ba_toList,ba_size]
 simp [byteOk]
def okR (stars : Bool) (s : List UInt8) : Bool := decide ((Kf.parts s).length ≤ 5) && (Kf.parts s).all (fun p => nameR stars p)
theorem pathB_R (s : List UInt8) : pathB s = okR false s := by
 unfold pathB allB okR
 congr 1
 exact List.all_congr rfl (fun p => nameK_R p)
end Go.Proofs.YtdljhggillgpfaaGreatDoor
namespace Go.Proofs.YtdljhggillgpfaaGreatDoor
open Go.RowKit Go.Shelf Go.Lib
theorem row_cells (W : World) (l : List (List UInt8)) (j : Nat) (hj : j < l.length) : (W.alloc (.cells ((l.map ba).map Value.string).toArray 9)).cell? ⟨W.heap.size,j,none⟩ = some (.string (ba l[j])) := by
 rw [World.cell?_alloc_at _ _ _ _ rfl,List.getElem?_toArray,List.getElem?_map,List.getElem?_map,List.getElem?_eq_getElem hj]
 rfl
theorem cutB_len (c : UInt8) (s : List UInt8) : (cutB c s).length ≤ s.length + 1 := by
 induction s with
 | nil => simp [cutB]
 | cons x r ih =>
  unfold cutB
  split
  ·simp;omega
  ·split
   ·simp
   ·next h => rw [h] at ih;simp at ih ⊢;omega
theorem strCutG (s sep : List UInt8) (m : Int) (w : World) (hs : s.length ≤ 1000000) (hm : w.cell? ⟨13,0,none⟩ = some (.int .i64 m)) :
  Calls Tryz.prog 33 #[.string (ba s),.string (ba sep)] w fun e w' => e = .returned (.tuple #[.string (ba (Lib.cut s sep).1),.string (ba (Lib.cut s sep).2.1),.bool (Lib.cut s sep).2.2]) ∧ ∃ n,w' = w.drewN n :=
 Tryz.strings_Cut (ba s) (ba sep) m w (by rw [ba_size];omega) hm
end Go.Proofs.YtdljhggillgpfaaGreatDoor
namespace Go.Proofs.YtdljhggillgpfaaGreatDoor
open Go.RowKit Go.Shelf Go.Lib
open Go.Sort (grow)
theorem empty_not {l : List UInt8} (h : l ≠ []) : l.isEmpty = false := by
 cases l with
 | nil => exact absurd rfl h
 | cons c r => rfl
def LRow (B : Nat) (w : World) (v : Value) (l : List (List UInt8)) : Prop :=
 ∃ g cap cur,v = .slice (some ⟨g,0,none⟩) l.length cap ∧ B ≤ g ∧ l.length ≤ cap ∧ w.heap[g]? = some (.cells cur 9 (0,0)) ∧ ∀ j (hj : j < l.length),cur[j]? = some (.string (ba l[j]))
def CRow (w : World) (v : Value) (l : List (List UInt8)) : Prop :=
 ∃ p cap,v = .slice p l.length cap ∧ ∀ k (hk : k < l.length),∃ g,p = some ⟨g,0,none⟩ ∧ g < w.heap.size ∧ w.cell? ⟨g,k,none⟩ = some (.string (ba l[k]))
theorem linesOf_calls (s : List UInt8) (hs : s.length ≤ 1000000) (m : Int) (w : World) (hm : w.cell? ⟨13,0,none⟩ = some (.int .i64 m)) :
  Calls Tryz.prog 289 #[.string (ba s)] w fun e w' => ∃ v,e = .returned v ∧ LRow w.heap.size w' v (Af.lines s) ∧ Below w.heap.size w w' := by
 obtain ⟨o,l,hc,hl⟩ := Af.lines_of_cut s
 have HS : Hid (Calls Tryz.prog 47 #[.string (ba s),.string ⟨#[10]⟩] w fun e w' => e = .returned (.slice (some ⟨w.heap.size,0,none⟩) (o.length + 1) (o.length + 1)) ∧ w' = w.alloc (.cells (((o ++ [l]).map ba).map Value.string).toArray 9)) := by
  have := Tryz.strings_Split (ba s) (ba [10]) m w (by rw [ba_size];omega) hm (by rw [ba_size];simp)
  rw [splitB_cut,count_cut,hc] at this
  exact hid1 (by simpa using this)
 have hol : o.length ≤ 1000000 := by
  have := cutB_len 10 s
  rw [hc] at this
  simp at this
  omega
 have HL : Hid (Af.lines s = (if l = [] then o else o ++ [l])) := hl
 clear hl hc
 generalize Af.lines s = L at *
 have hB3 : Below w.heap.size w (w.alloc (.cells (((o ++ [l]).map ba).map Value.string).toArray 9)) := (Below.refl _ w).alloc (Nat.le_refl _) _
 have hblk : (w.alloc (.cells (((o ++ [l]).map ba).map Value.string).toArray 9)).heap[w.heap.size]? = some (.cells (((o ++ [l]).map ba).map Value.string).toArray 9 (0,0)) := by
  show (w.heap.push _)[w.heap.size]? = _
  simp
 have hcz : (w.alloc (.cells (((o ++ [l]).map ba).map Value.string).toArray 9)).cell? ⟨w.heap.size,o.length,none⟩ = some (.string (ba l)) := by
  have := row_cells w (o ++ [l]) o.length (by simp)
  rw [List.getElem_append_right (by omega)] at this
  simp only [Nat.sub_self,List.getElem_cons_zero] at this
  exact this
 go_enter Tryz.func289,Tryz.ntmps289
 go_wp2_with fail
 refine HS.out.mono ?_
 rintro e w3 ⟨rfl,hw3⟩
 rw [← hw3] at hB3 hblk hcz
 clear hw3 HS hm
 have z1 : (o.length : Int) ≤ 1000000 := by omega
 have hcur : ∀ (l' : List (List UInt8)),(∃ t,l' ++ t = o ++ [l]) → ∀ j (hj : j < l'.length),(((o ++ [l]).map ba).map Value.string).toArray[j]? = some (.string (ba l'[j])) := by
  rintro l' ⟨t,ht⟩ j hj
  rw [← ht]
  simp only [List.map_map,List.map_append,List.getElem?_toArray]
  rw [List.getElem?_append_left (by simpa using hj)]
  simp [hj]
 by_cases he : l = []
 ·subst he
  have d1 : (ba ([] : List UInt8) == ⟨#[]⟩) = true := by rfl
  have hL : L = o := by rw [HL.out,if_pos rfl]
  subst hL
  go_wp2
  go_ret
  exact ⟨_,rfl,⟨_,_,_,rfl,Nat.le_refl _,by omega,hblk,hcur L ⟨_,rfl⟩⟩,hB3⟩
 ·have d1 : l.isEmpty = false := empty_not he
  have hL : L = o ++ [l] := by rw [HL.out,if_neg he]
  subst hL
  go_wp2
  go_ret
  exact ⟨_,rfl,⟨w.heap.size,o.length + 1,_,by simp,Nat.le_refl _,by simp,hblk,hcur _ ⟨[],by simp⟩⟩,hB3⟩
theorem owns_stays {w w' : World} {B n : Nat} {v : Value} {xs : List Value} (h : w.ownsRow B 9 1 v n xs) (hb : Below w.heap.size w w') : w'.ownsRow B 9 1 v n xs :=
 h.kept (row := none) ⟨hb.os,hb.tape,hb.output,hb.size,fun k hk _ => hb.block k hk⟩ (by cases v.ownBlock <;> simp)
theorem all_take {ls : List (List UInt8)} {k : Nat} (hk : k < ls.length) : Af.all (ls.take (k + 1)) = Af.all (ls.take k) ++ Af.lines ls[k] := by
 unfold Af.all
 rw [List.take_succ_eq_append_getElem hk,List.flatMap_append,List.flatMap_cons,List.flatMap_nil,List.append_nil]
theorem all_len {ls : List (List UInt8)} (h : ∀ x ∈ ls,x.length ≤ 100000) : ∀ k,k ≤ ls.length → (Af.all (ls.take k)).length ≤ k * 100000
 | 0,_ => by simp [Af.all]
 | k + 1,hk => by
  have ih := all_len h k (by omega)
  rw [all_take (by omega),List.length_append]
  have h1 := Af.lines_len ls[k]
  have h2 := h _ (List.getElem_mem (show k < ls.length by omega))
  omega
theorem allLines_calls (v : Value) (ls : List (List UInt8)) (hn : ls.length ≤ 1000) (hx : ∀ x ∈ ls,x.length ≤ 100000) (m : Int) (w : World) (hrow : TRow w v ls) (hm : w.cell? ⟨13,0,none⟩ = some (.int .i64 m)) :
  Calls Tryz.prog 292 #[v] w fun e w' => ∃ v',e = .returned v' ∧ w'.ownsRow w.heap.size 9 1 v' (Af.all ls).length ((Af.all ls).map sv) ∧ Below w.heap.size w w' := by
 obtain ⟨i0,hi,hz0,hz1,hz2⟩ := info_parts Tryz.infoStr
 obtain ⟨pa,cap,rfl,hcap,hin⟩ := hrow
 have hR : Hid (∀ W,Below w.heap.size w W → ∀ k (hk : k < ls.length),∃ g,pa = some ⟨g,0,none⟩ ∧ W.cell? ⟨g,k,none⟩ = some (.string (ba ls[k]))) := fun W hW k hk => by
  obtain ⟨g,cur,rfl,hg,hcur⟩ := hin (by intro e;rw [e] at hk;simp at hk)
  exact ⟨g,rfl,cell_of_row ((hW.block g (Array.getElem?_eq_some_iff.1 hg).1).trans hg) (hcur k hk)⟩
 have hM : Hid (∀ W,Below w.heap.size w W → W.cell? ⟨13,0,none⟩ = some (.int .i64 m)) := fun W hW => cell_below' hm hW
 have hA := all_len hx
 clear hin hm
 go_enter Tryz.func292,Tryz.ntmps292
 go_wp2
 go_loopw [3,8] (fun out i wr => ∃ k : Nat,k ≤ ls.length ∧ i = .int .i64 k ∧ wr.ownsRow w.heap.size 9 1 out (Af.all (ls.take k)).length ((Af.all (ls.take k)).map sv) ∧ Below w.heap.size w wr) (fun _ i _ => ls.length - (intOf i).toNat)
 case atStart => exact ⟨0,Nat.zero_le _,rfl,World.ownsRow_nil _ _ _ _,Below.refl _ _⟩
 case round =>
  obtain ⟨k,hk,rfl,hown,hB⟩ := hrel
  by_cases hlt : k < ls.length
  ·have c1 : (k : Int) < (ls.length : Int) := by omega
   have c0 : (0 : Int) ≤ (k : Int) := by omega
   obtain ⟨g,rfl,hcell⟩ := hR.out wr hB k hlt
   have HA : Hid (Af.all (ls.take (k + 1)) = Af.all (ls.take k) ++ Af.lines ls[k]) := all_take hlt
   have hA1 := hA (k + 1) (by omega)
   rw [HA.out,List.length_append] at hA1
   have HC := hid1 (linesOf_calls ls[k] (by have := hx _ (List.getElem_mem hlt);omega) m wr (hM.out wr hB))
   generalize Af.lines ls[k] = L at *
   generalize ls[k] = x at *
   generalize Af.all (ls.take k) = A at *
   go_wp2_with fail
   refine Calls.mono HC.out ?_
   rintro e w2 ⟨v2,rfl,⟨g2,cap2,cur2,rfl,hg2,hc2,hblk2,hcur2⟩,hb2⟩
   have hown2 := owns_stays hown hb2
   have hB2 : Below w.heap.size w w2 := hB.trans (hb2.mono hB.size)
   have hsrc : ∀ j u,(L.map sv)[j]? = some u → w2.cell? ((⟨g2,0,none⟩ : Addr).add j) = some u := fun j u hj => by
    have hjl : j < L.length := by simpa using (List.getElem?_eq_some_iff.1 hj).1
    have := cell_of_row hblk2 (hcur2 j hjl)
    rw [List.getElem?_map,List.getElem?_eq_getElem hjl] at hj
    simp at hj
    rw [← hj,add_at]
    exact this
   clear HC hcell
   go_wp2_with (at_builtin;refine wpList_append_own _ rfl _ _ 22 rfl w.heap.size 9 i0 (.string ⟨#[]⟩) 1 16 Tryz.underlying22 hi hz0 hz1 hz2 rfl (by decide) _ _ _ rfl hown2 ⟨g2,0,none⟩ L.length cap2 (L.map sv) rfl (by simp) hsrc (by simp [Value.oneCell']) (by unfold maxLen;omega) (by omega) hB2.size ?_;intro v' w1 hown' hgrow _)
   go_roundw
   case rel => exact ⟨k + 1,by omega,by go_num,by rw [HA.out,List.length_append,List.map_append];exact hown',below_more hB2 hB2.size hown2 hgrow⟩
   case measure => simp [intOf];omega
  ·have c1 : (ls.length : Int) ≤ (k : Int) := by omega
   obtain rfl : k = ls.length := by omega
   rw [List.take_length] at hown
   go_wp2
   go_ret
   exact ⟨_,rfl,hown,hB⟩
theorem told_take {l : List (List UInt8)} {k : Nat} (hk : k < l.length) : Af.told (l.take (k + 1)) = Af.told (l.take k) ++ l[k] ++ [10] := by
 unfold Af.told
 rw [List.take_succ_eq_append_getElem hk,List.flatMap_append,List.flatMap_cons,List.flatMap_nil,List.append_nil,List.append_assoc]
theorem told_take_len {l : List (List UInt8)} (k : Nat) : (Af.told (l.take k)).length ≤ (Af.told l).length := by
 conv => rhs;rw [← List.take_append_drop k l,Af.told_append,List.length_append]
 omega
theorem told_calls (v : Value) (l : List (List UInt8)) (w : World) (hrow : CRow w v l) (hlen : (Af.told l).length ≤ 100000000) :
  Calls Tryz.prog 288 #[v] w fun e w' => e = .returned (.string (ba (Af.told l))) ∧ Below w.heap.size w w' := by
 have g0 : Below w.heap.size w (w.alloc (.cells #[.pointer none,.slice none 0 0] 187)) := (Below.refl _ w).alloc (Nat.le_refl _) _
 have b0 : Lib.IsBuilderF 187 5 w.heap.size w.heap.size [] (w.alloc (.cells #[.pointer none,.slice none 0 0] 187)) := Lib.IsBuilderF.of (Lib.fresh_isBuilder 187 5 w)
 obtain ⟨pa,cap,rfl,hin⟩ := hrow
 have hln : l.length ≤ (Af.told l).length := by
  have : ∀ l : List (List UInt8),l.length ≤ (Af.told l).length := fun l => by
   induction l with
   | nil => simp
   | cons x r ih => simp [Af.told] at ih ⊢;omega
  exact this l
 have hR : Hid (∀ W,Below w.heap.size w W → ∀ k (hk : k < l.length),∃ g,pa = some ⟨g,0,none⟩ ∧ W.cell? ⟨g,k,none⟩ = some (.string (ba l[k]))) := fun W hW k hk => by
  obtain ⟨g,rfl,hg,hcur⟩ := hin k hk
  exact ⟨g,rfl,(World.cell?_of_block (hW.block g hg)).trans hcur⟩
 have HW : Hid (∀ (bs : List UInt8) (s : List UInt8) W,bs.length + s.length ≤ 100000000 → w.heap.size ≤ W.heap.size → Lib.IsBuilderF 187 5 w.heap.size w.heap.size (Lib.byteCells bs) W → Calls Tryz.prog 119 #[.pointer (some ⟨w.heap.size,0,none⟩),.string (ba s)] W fun e w' =>
   e = .returned (.tuple #[.int .i64 s.length,.nilIface]) ∧ Lib.IsBuilderF 187 5 w.heap.size w.heap.size (Lib.byteCells (bs ++ s)) w' ∧ Below w.heap.size W w') := fun bs s W hl hW hb => by
  refine (Any.Builder_WriteString_k Tryz.lays166 Tryz.Builder_Extra_166 w.heap.size w.heap.size (Lib.byteCells bs) (ba s) W hb (by rw [Lib.byteCells_length,ba_size];omega) hW).mono ?_
  rintro e w' ⟨rfl,h1,h2,h3⟩
  refine ⟨by rw [ba_size],.inr ?_,h2⟩
  rw [Lib.byteCells_append]
  exact h1
 have HS : Hid (∀ W,w.heap.size ≤ W.heap.size → Lib.IsBuilderF 187 5 w.heap.size w.heap.size (Lib.byteCells (Af.told l)) W → Calls Tryz.prog 120 #[.pointer (some ⟨w.heap.size,0,none⟩)] W fun e w' => e = .returned (.string (ba (Af.told l))) ∧ Below w.heap.size W w') := fun W hW hb => by
  refine (Any.Builder_String_any_k Tryz.lays169 Tryz.Builder_Extra_169 w.heap.size w.heap.size (Af.told l) W hb hW).mono ?_
  rintro e w' ⟨rfl,_,h2,_⟩
  exact ⟨rfl,h2⟩
 have hT := told_take_len (l := l)
 have hzn : (l.length : Int) ≤ 100000000 := by omega
 clear hin
 go_enter Tryz.func288,Tryz.ntmps288
 go_wp2
 go_loopw [8] (fun i wr => ∃ k : Nat,k ≤ l.length ∧ i = .int .i64 k ∧ Lib.IsBuilderF 187 5 w.heap.size w.heap.size (Lib.byteCells (Af.told (l.take k))) wr ∧ Below w.heap.size w wr) (fun i _ => l.length - (intOf i).toNat)
 case atStart => exact ⟨0,Nat.zero_le _,rfl,by simpa [Af.told,Lib.byteCells] using b0,g0⟩
 case round =>
  obtain ⟨k,hk,rfl,hbld,hB⟩ := hrel
  by_cases hlt : k < l.length
  ·have c1 : (k : Int) < (l.length : Int) := by omega
   have c0 : (0 : Int) ≤ (k : Int) := by omega
   obtain ⟨g,rfl,hcell⟩ := hR.out wr hB k hlt
   have HA : Hid (Af.told (l.take (k + 1)) = Af.told (l.take k) ++ l[k] ++ [10]) := told_take hlt
   have hA1 := hT (k + 1)
   rw [HA.out] at hA1
   simp only [List.length_append,List.length_cons,List.length_nil] at hA1
   generalize l[k] = x at *
   generalize Af.told (l.take k) = A at *
   go_wp2_with fail
   refine (HW.out A x wr (by omega) hB.size hbld).mono ?_
   rintro e w2 ⟨rfl,B2,h2⟩
   have G2 := hB.trans h2
   have HW2 := HW.out (A ++ x) [10] w2 (by simp;omega) G2.size B2
   go_wp2_with fail
   refine HW2.mono ?_
   rintro e w3 ⟨rfl,B3,h3⟩
   go_wp2
   go_roundw
   case rel => exact ⟨k + 1,by omega,by go_num,by rw [HA.out];exact B3,G2.trans h3⟩
   case measure => simp [intOf];omega
  ·have c1 : (l.length : Int) ≤ (k : Int) := by omega
   obtain rfl : k = l.length := by omega
   rw [List.take_length] at hbld
   have HS' := HS.out wr hB.size hbld
   go_wp2_with fail
   refine HS'.mono ?_
   rintro e w5 ⟨rfl,g5⟩
   go_wp2
   go_ret
   exact ⟨rfl,hB.trans g5⟩
end Go.Proofs.YtdljhggillgpfaaGreatDoor
