import Derived.Test.YtdljhggillgpfaaGreatDoorSA07
import Derived.Test.YtdljhggillgpfaaGreatDoorSA09
import Derived.Sort.OwnSorted
import Derived.Lib.Strings
import Derived.Lib.IndexMore
import Derived.Lib.Atoi
import Derived.Lib.ItoaNum
import Derived.Lib.ItoaMem
import Derived.Maps.OwnSet
import Derived.Sort.KeysCollected
import Derived.WideAt
import Derived.WideShapes
import Derived.Lib.IndexLaws
import Derived.Deep.RegionHeld3
set_option maxRecDepth 100000
set_option maxHeartbeats 4000000
namespace Go.Proofs.YtdljhggillgpfaaGreatDoor
open Go.RowKit Go.Shelf Go.Lib
open Go.Sort (grow Holds putRow)
def HRow (B : Nat) (w : World) (v : Value) (l : List (List UInt8)) : Prop :=
 (l = [] ∧ v = .slice none 0 0) ∨ ∃ g cap,v = .slice (some ⟨g,0,none⟩) l.length cap ∧ B ≤ g ∧ g < w.heap.size ∧ l.length ≤ cap ∧ Holds encStr w g 0 l.toArray
theorem HRow.of_owns {B : Nat} {w : World} {v : Value} {l : List (List UInt8)} (h : w.ownsRow B 9 1 v l.length (l.map sv)) : HRow B w v l := by
 rcases h.2 with ⟨rfl,hn⟩ | ⟨g,cap,cur,rfl,hBg,hb,h1,_,_,h4⟩
 ·exact .inl ⟨List.length_eq_zero_iff.1 hn,rfl⟩
 ·refine .inr ⟨g,cap,rfl,hBg,(Array.getElem?_eq_some_iff.1 hb).1,h1,fun j hj => ?_⟩
  have hj' : j < l.length := by simpa using hj
  have := congrArg (fun x => x[j]?) h4
  simp only [Nat.mul_one,List.getElem?_take,hj',if_true,List.getElem?_map,List.getElem?_eq_getElem hj',Option.map_some,Array.getElem?_toList] at this
  refine ⟨?_,by simp [World.frozen?,hb]⟩
  rw [Nat.zero_add,cell_of_row hb this]
  simp [hj']
theorem HRow.cells {B : Nat} {w : World} {v : Value} {l : List (List UInt8)} (h : HRow B w v l) : CRow w v l := by
 rcases h with ⟨rfl,rfl⟩ | ⟨g,cap,rfl,_,h2,_,hH⟩
 ·exact ⟨none,0,rfl,fun k hk => by simp at hk⟩
 ·refine ⟨_,cap,rfl,fun k hk => ⟨g,rfl,h2,?_⟩⟩
  have := (hH k (by simpa using hk)).1
  rw [Nat.zero_add] at this
  rw [this]
  simp [hk]
theorem below_put {w : World} {B g n : Nat} {os : Array Obj} (d : Array (List UInt8)) (hg : B ≤ g) (hB : B ≤ w.heap.size) : Below B w (grow (putRow encStr (Sort.ahead w n) g 0 d) os) :=
 (Below.refl B w).grown (grownBy_sorted d) hB (fun j hj => by cases hj;exact hg)
theorem sort_calls {B : Nat} {w : World} {v : Value} {l : List (List UInt8)} (h : HRow B w v l) (hB : B ≤ w.heap.size) (hl : l.length ≤ 1000000000) :
  Calls Tryz.prog 83 #[v] w fun e w' => e = .returned (.tuple #[]) ∧ HRow B w' v (Af.srt l) ∧ Below B w w' := by
 rcases h with ⟨rfl,rfl⟩ | ⟨g,cap,rfl,h1,h2,h3,hH⟩
 ·refine (Tryz.slices_Sort_string_none none 0 w).mono ?_
  rintro e w' ⟨rfl,rfl⟩
  exact ⟨rfl,.inl ⟨List.length_eq_zero_iff.1 (Af.srt_len []),rfl⟩,Below.refl _ _⟩
 ·refine (Tryz.slices_Sort_string g 0 cap l w hH h2 (by omega)).mono ?_
  rintro e w' ⟨rfl,n,os,rfl⟩
  refine ⟨rfl,.inr ⟨g,cap,by rw [Af.srt_len],h1,?_,by rw [Af.srt_len];exact h3,?_⟩,below_put _ h1 hB⟩
  ·rw [Go.Sort.size_grow,Go.Sort.size_putRow]
   exact Nat.lt_of_lt_of_le h2 (Nat.le_add_right _ _)
  ·refine Go.Sort.holds_grow _ _ _ _ _ _ (by rw [Go.Sort.size_putRow];exact h2) ?_
   exact Go.Sort.holds_putRow encStr (Sort.ahead w n) g 0 l.toArray _ hH (by simp)
theorem compact_calls {B : Nat} {w : World} {v : Value} {l : List (List UInt8)} (h : HRow B w v l) (hB : B ≤ w.heap.size) (hl : l.length ≤ 1000000000) :
  Calls Tryz.prog 125 #[v] w fun e w' => ∃ v',e = .returned v' ∧ HRow B w' v' (Lib.compact l) ∧ Below B w w' := by
 rcases h with ⟨rfl,rfl⟩ | ⟨g,cap,rfl,h1,h2,h3,hH⟩
 ·refine (Tryz.slices_Compact_string_empty none 0 w).mono ?_
  rintro e w' ⟨rfl,rfl⟩
  exact ⟨_,rfl,.inl ⟨rfl,rfl⟩,Below.refl _ _⟩
 ·refine (Tryz.slices_Compact_string g 0 cap l w hH (by omega) h3).mono ?_
  rintro e w' ⟨rfl,q,rfl⟩
  have hc := Lib.compact_length_le l
  have hp := Go.Sort.holds_putRow encStr (Sort.ahead w q) g 0 l.toArray (Lib.compact l ++ List.replicate (l.length - (Lib.compact l).length) []).toArray hH (by simp;omega)
  refine ⟨_,rfl,.inr ⟨g,cap,rfl,h1,by rw [Go.Sort.size_putRow];exact h2,by omega,fun j hj => ?_⟩,?_⟩
  ·have hj' : j < (Lib.compact l).length := by simpa using hj
   obtain ⟨p1,p2⟩ := hp j (by simp;omega)
   refine ⟨?_,p2⟩
   rw [p1]
   have e1 : (Lib.compact l ++ List.replicate (l.length - (Lib.compact l).length) []).toArray[j]! = (Lib.compact l)[j] := by
    simp [List.getElem?_append_left hj',hj']
   have e2 : (Lib.compact l).toArray[j]! = (Lib.compact l)[j] := by simp [hj']
   rw [e1,e2]
  ·have := below_put (w := w) (B := B) (g := g) (n := q) (os := #[]) (Lib.compact l ++ List.replicate (l.length - (Lib.compact l).length) []).toArray h1 hB
   rwa [Go.Sort.grow_empty] at this
def Af.sorted (wd : List UInt8) (ls : List (List UInt8)) : List UInt8 := Af.told (if wd = [111,110,99,101] then Lib.compact (Af.srt (Af.all ls)) else Af.srt (Af.all ls))
theorem sorted_calls (wd : List UInt8) (v : Value) (ls : List (List UInt8)) (hn : ls.length ≤ 1000) (hx : ∀ x ∈ ls,x.length ≤ 100000) (hl : (Af.told (Af.all ls)).length ≤ 100000000) (m : Int) (w : World) (hrow : TRow w v ls) (hm : w.cell? ⟨13,0,none⟩ = some (.int .i64 m)) :
  Calls Tryz.prog 273 #[.string (ba wd),v] w fun e w' => e = .returned (.string (ba (Af.sorted wd ls))) ∧ Below w.heap.size w w' := by
 have HA := hid1 (allLines_calls v ls hn hx m w hrow hm)
 have hal : (Af.all ls).length ≤ 100000000 := by
  have := all_len hx ls.length (Nat.le_refl _)
  rw [List.take_length] at this
  omega
 have hl1 : (Af.told (Af.srt (Af.all ls))).length ≤ 100000000 := by rw [Af.told_perm (Af.srt_perm _)];exact hl
 have hl2 : (Af.told (Lib.compact (Af.srt (Af.all ls)))).length ≤ 100000000 := by
  have := Af.compact_told_len (Af.srt (Af.all ls)) (Af.srt (Af.all ls)).length (Nat.le_refl _)
  rw [List.take_length] at this
  exact Nat.le_trans this hl1
 have hsl : (Af.srt (Af.all ls)).length ≤ 1000000000 := by rw [Af.srt_len];omega
 have HQ : Hid (Af.sorted wd ls = Af.told (if wd = [111,110,99,101] then Lib.compact (Af.srt (Af.all ls)) else Af.srt (Af.all ls))) := rfl
 generalize Af.sorted wd ls = out at *
 go_enter Tryz.func273,Tryz.ntmps273
 go_wp2_with fail
 refine Calls.mono HA.out ?_
 rintro e w1 ⟨v1,rfl,hown,g1⟩
 have HS := hid1 (sort_calls (HRow.of_owns hown) g1.size (by omega))
 clear hown
 go_wp2_with fail
 refine Calls.mono HS.out ?_
 rintro e w2 ⟨rfl,h2,g2⟩
 have G2 : Below w.heap.size w w2 := g1.trans g2
 clear HS HA
 by_cases h1 : wd = [111,110,99,101]
 ·subst h1
  have HC := hid1 (compact_calls h2 G2.size hsl)
  go_wp2_with fail
  refine Calls.mono HC.out ?_
  rintro e w3 ⟨v3,rfl,h3,g3⟩
  have HT := hid1 (told_calls v3 _ w3 h3.cells hl2)
  go_wp2_with fail
  refine Calls.mono HT.out ?_
  rintro e w4 ⟨rfl,g4⟩
  have G3 : Below w.heap.size w w3 := G2.trans g3
  go_wp2
  go_ret
  exact ⟨ret_eq (by rw [HQ.out,if_pos trivial];rfl),G3.trans (g4.mono G3.size)⟩
 ·have HT := hid1 (told_calls v1 _ w2 h2.cells hl1)
  have hone : (wd == [111,110,99,101]) = false := by simpa using h1
  go_wp2_with fail
  refine Calls.mono HT.out ?_
  rintro e w4 ⟨rfl,g4⟩
  go_wp2
  go_ret
  exact ⟨ret_eq (by rw [HQ.out,if_neg h1];rfl),G2.trans (g4.mono G2.size)⟩
def Af.bytes (ls : List (List UInt8)) : Nat := (ls.map List.length).sum
def Af.count (ls : List (List UInt8)) : List UInt8 := Lib.decDigits (Af.all ls).length ++ 32 :: (Lib.decDigits (Af.bytes ls) ++ [10])
theorem bytes_take {ls : List (List UInt8)} {k : Nat} (hk : k < ls.length) : Af.bytes (ls.take (k + 1)) = Af.bytes (ls.take k) + ls[k].length := by
 unfold Af.bytes
 rw [List.take_succ_eq_append_getElem hk,List.map_append,List.sum_append]
 simp only [List.map_cons,List.map_nil,List.sum_cons,List.sum_nil,Nat.add_zero]
theorem digits_len2 (n : Nat) (h : n ≤ 1000000000) : (Lib.decDigits n).length ≤ 21 := by
 have := Lib.itoa_length_le (n : Int) (by omega) (by omega)
 rwa [Lib.itoa_nonneg] at this
theorem bytes_le {ls : List (List UInt8)} (h : ∀ x ∈ ls,x.length ≤ 100000) : ∀ k,k ≤ ls.length → Af.bytes (ls.take k) ≤ k * 100000
 | 0,_ => by simp [Af.bytes]
 | k + 1,hk => by
  have ih := bytes_le h k (by omega)
  rw [bytes_take (by omega)]
  have h2 := h _ (List.getElem_mem (show k < ls.length by omega))
  omega
theorem itoa_calls (n : Nat) (hn : n ≤ 1000000000) {w W : World} (hP : Pow w) (hW : Below w.heap.size w W) : Calls Tryz.prog 112 #[.int .i64 n] W fun e w' => e = .returned (.string (ba (Lib.decDigits n))) ∧ Below W.heap.size W w' := by
 refine (Tryz.strconv_Itoa (n : Int) (by omega) (by omega) W (pow_below hP hW)).mono ?_
 rintro e w' ⟨rfl,k,os,rfl⟩
 rw [Lib.itoa_nonneg]
 exact ⟨rfl,below_grow W k os⟩
theorem count_calls (v : Value) (ls : List (List UInt8)) (hn : ls.length ≤ 1000) (hx : ∀ x ∈ ls,x.length ≤ 100000) (m : Int) (w : World) (hrow : TRow w v ls) (hm : w.cell? ⟨13,0,none⟩ = some (.int .i64 m)) (hP : Pow w) :
  Calls Tryz.prog 275 #[v] w fun e w' => e = .returned (.string (ba (Af.count ls))) ∧ Below w.heap.size w w' := by
 have HA := hid1 (allLines_calls v ls hn hx m w hrow hm)
 have HI := hid1 (fun (n : Nat) (hn : n ≤ 1000000000) (W : World) (hW : Below w.heap.size w W) => itoa_calls n hn hP hW)
 have hal : (Af.all ls).length ≤ 100000000 := by
  have := all_len hx ls.length (Nat.le_refl _)
  rw [List.take_length] at this
  omega
 have hby := bytes_le hx
 have HQ : Hid (Af.count ls = Lib.decDigits (Af.all ls).length ++ 32 :: (Lib.decDigits (Af.bytes ls) ++ [10])) := rfl
 generalize Af.count ls = out at *
 obtain ⟨pa,cap,rfl,hcap,hin⟩ := hrow
 have hR : Hid (∀ k (hk : k < ls.length),∃ g,pa = some ⟨g,0,none⟩ ∧ w.cell? ⟨g,k,none⟩ = some (.string (ba ls[k]))) := fun k hk => by
  obtain ⟨g,cur,rfl,hg,hcur⟩ := hin (by intro e;rw [e] at hk;simp at hk)
  exact ⟨g,rfl,cell_of_row hg (hcur k hk)⟩
 clear hin hm hP
 go_enter Tryz.func275,Tryz.ntmps275
 go_wp2
 go_loopw [3,8] (fun b i wr => ∃ k : Nat,k ≤ ls.length ∧ i = .int .i64 k ∧ b = .int .i64 (Af.bytes (ls.take k)) ∧ wr = w) (fun _ i _ => ls.length - (intOf i).toNat)
 case atStart => exact ⟨0,Nat.zero_le _,rfl,rfl,rfl⟩
 case round =>
  obtain ⟨k,hk,rfl,rfl,rfl⟩ := hrel
  by_cases hlt : k < ls.length
  ·have c1 : (k : Int) < (ls.length : Int) := by omega
   have c0 : (0 : Int) ≤ (k : Int) := by omega
   obtain ⟨g,rfl,hcell⟩ := hR.out k hlt
   have HB : Hid (Af.bytes (ls.take (k + 1)) = Af.bytes (ls.take k) + ls[k].length) := bytes_take hlt
   have hb1 := hby (k + 1) (by omega)
   rw [HB.out] at hb1
   generalize ls[k] = x at *
   generalize Af.bytes (ls.take k) = b at *
   have z2 : (b : Int) + (x.length : Int) ≤ 100000000 := by omega
   have hsz : ((ba x).size : Int) = (x.length : Int) := by rw [ba_size]
   go_wp2
   go_roundw
   case rel => exact ⟨k + 1,by omega,by go_num,by rw [HB.out];go_num,trivial⟩
   case measure => simp [intOf];omega
  ·have c1 : (ls.length : Int) ≤ (k : Int) := by omega
   obtain rfl : k = ls.length := by omega
   have hb1 := hby ls.length (Nat.le_refl _)
   rw [List.take_length] at hb1 ⊢
   go_wp2_with fail
   refine Calls.mono HA.out ?_
   rintro e w1 ⟨v1,rfl,hown,g1⟩
   obtain ⟨p1,cap1,rfl,_,_⟩ := TRow.of_owns hown
   have H1 := HI.out (Af.all ls).length (by omega) w1 g1
   have hdA := digits_len2 (Af.all ls).length (by omega)
   have hdB := digits_len2 (Af.bytes ls) (by omega)
   clear hown HA
   generalize Af.all ls = A at *
   generalize Af.bytes ls = b at *
   go_wp2_with fail
   refine Calls.mono H1 ?_
   rintro e w2 ⟨rfl,g2⟩
   have G2 := g1.trans (g2.mono g1.size)
   have H2 := HI.out b (by omega) w2 G2
   clear H1
   go_wp2_with fail
   refine Calls.mono H2 ?_
   rintro e w3 ⟨rfl,g3⟩
   have ecat : ba (Lib.decDigits A.length) ++ { data := #[32] } ++ ba (Lib.decDigits b) ++ { data := #[10] } = ba out := by
    rw [show (ByteArray.mk #[32]) = ba [32] from rfl,show (ByteArray.mk #[10]) = ba [10] from rfl,HQ.out]
    simp only [ba_append]
    simp
   clear H2
   go_wp2
   go_ret
   exact ⟨rfl,G2.trans (g3.mono G2.size)⟩
theorem kcount_calls (word : ByteArray) (v : Value) (ls : List (List UInt8)) (hn : ls.length ≤ 1000) (hx : ∀ x ∈ ls,x.length ≤ 100000) (m : Int) (w : World) (hrow : TRow w v ls) (hm : w.cell? ⟨13,0,none⟩ = some (.int .i64 m)) (hP : Pow w) :
  Calls Tryz.prog 274 #[.string word,v] w fun e w' => e = .returned (.string (ba (Af.count ls))) ∧ Below w.heap.size w w' := by
 have HA := hid1 (count_calls v ls hn hx m w hrow hm hP)
 clear hm hP hrow
 go_enter Tryz.func274,Tryz.ntmps274
 go_wp2_with fail
 refine Calls.mono HA.out ?_
 rintro e w1 ⟨rfl,g1⟩
 go_wp2
 go_ret
 exact ⟨rfl,g1⟩
theorem join_list (xs : List (List UInt8)) : (xs.map ba).map (·.data.toList) = xs := by
 rw [List.map_map]
 conv => rhs;rw [← List.map_id xs]
 exact List.map_congr_left fun x _ => rfl
theorem kjoin_calls (wd : List UInt8) (v : Value) (ls : List (List UInt8)) (hn : ls.length ≤ 1000) (hl : (Lib.join ls wd).length ≤ 1000000000) (w : World) (hrow : TRow w v ls) :
  Calls Tryz.prog 267 #[.string (ba wd),v] w fun e w' => e = .returned (.string (ba (Lib.join ls wd))) ∧ Below w.heap.size w w' := by
 have HJ : Hid (Calls Tryz.prog 80 #[v,.string (ba wd)] w fun e w' => e = .returned (.string (ba (Lib.join ls wd))) ∧ Below w.heap.size w w') := by
  obtain ⟨pa,cap,rfl,hcap,hin⟩ := hrow
  by_cases h0 : ls = []
  ·subst h0
   refine hid1 ((Any.strings_Join_none Tryz.lays156 Tryz.Builder_Extra_156 pa cap (ba wd) w).mono ?_)
   rintro e w' ⟨rfl,rfl⟩
   exact ⟨rfl,Below.refl _ _⟩
  ·obtain ⟨g,cur,rfl,hg,hcur⟩ := hin h0
   have := Tryz.strings_Join g 0 cap (ls.map ba) (ba wd) w (fun j x hj => by
    have hjl : j < ls.length := by simpa using (List.getElem?_eq_some_iff.1 hj).1
    rw [List.getElem?_map,List.getElem?_eq_getElem hjl] at hj
    simp at hj
    rw [Nat.zero_add,← hj]
    exact cell_of_row hg (hcur j hjl)) (Array.getElem?_eq_some_iff.1 hg).1 (by simp;omega) (by simpa using hcap) (by rw [join_list];show (Lib.join ls wd).length ≤ _;omega)
   rw [join_list,List.length_map] at this
   exact this
 clear hrow
 go_enter Tryz.func267,Tryz.ntmps267
 go_wp2_with fail
 refine Calls.mono HJ.out ?_
 rintro e w1 ⟨rfl,g1⟩
 go_wp2
 go_ret
 exact ⟨rfl,g1⟩
theorem kwrite_calls (word : ByteArray) (v : Value) (w : World) :
  Calls Tryz.prog 266 #[.string word,v] w fun e w' => e = .returned (.string word) ∧ Below w.heap.size w w' := by
 go_enter Tryz.func266,Tryz.ntmps266
 go_wp2
 go_ret
 exact ⟨rfl,Below.refl _ _⟩
theorem anyWord_calls (word : ByteArray) (w : World) :
  Calls Tryz.prog 265 #[.string word] w fun e w' => e = .returned (.bool true) ∧ Below w.heap.size w w' := by
 go_enter Tryz.func265,Tryz.ntmps265
 go_wp2
 go_ret
 exact ⟨rfl,Below.refl _ _⟩
theorem among_calls (wd : List UInt8) (words : List (List UInt8)) (b g : Nat) (w : World) (hb : w.cell? ⟨b,0,none⟩ = some (.slice (some ⟨g,0,none⟩) words.length words.length)) (hw : words.length ≤ 1000)
  (hc : ∀ j (hj : j < words.length),w.cell? ⟨g,j,none⟩ = some (.string (ba words[j]))) :
  Calls Tryz.prog 286 #[.string (ba wd),.pointer (some ⟨b,0,none⟩)] w fun e w' => e = .returned (.bool (decide (wd ∈ words))) ∧ Below w.heap.size w w' := by
 have HC : Hid (Calls Tryz.prog 184 #[.slice (some ⟨g,0,none⟩) words.length words.length,.string (ba wd)] w fun e w' => e = .returned (.bool (decide (wd ∈ words))) ∧ w' = w) := by
  have := Tryz.slices_Contains_string g 0 words.length words.length (words.map ba) (ba wd) w (by simp) (by omega) (fun j hj => by
   have hjl : j < words.length := by simpa using hj
   rw [Nat.zero_add,hc j hjl]
   simp [hjl])
  rw [List.take_of_length_le (by simp)] at this
  have e : Lib.containsS (words.map ba) (ba wd) = decide (wd ∈ words) := by
   rw [Bool.eq_iff_iff,Lib.containsS_iff,decide_eq_true_iff]
   simp only [List.mem_map]
   constructor
   ·rintro ⟨x,hx,e⟩
    have : x = wd := by
     have := congrArg (·.data.toList) e
     simpa [ba] using this
    rw [← this]
    exact hx
   ·exact fun h => ⟨wd,h,rfl⟩
  rw [e] at this
  exact this
 generalize decide (wd ∈ words) = r at *
 clear hc
 go_enter Tryz.func286,Tryz.ntmps286
 go_wp2_with fail
 refine Calls.mono HC.out ?_
 rintro e w1 ⟨rfl,rfl⟩
 go_wp2
 go_ret
 exact ⟨rfl,Below.refl _ _⟩
structure AW (w : World) (es el : Value) : Prop where
 len : ∃ m,w.cell? ⟨13,0,none⟩ = some (.int .i64 m)
 pow : Pow w
 shape : w.cell? ⟨2,0,none⟩ = some es
 long : w.cell? ⟨9,0,none⟩ = some el
 big : 20 < w.heap.size
theorem AW.stays {w W : World} {es el : Value} (h : AW w es el) (hb : Below w.heap.size w W) : AW W es el := by
 have h0 := h.big
 refine ⟨?_,pow_below h.pow hb,(cell_below2 hb (by omega)).trans h.shape,(cell_below2 hb (by omega)).trans h.long,Nat.lt_of_lt_of_le h0 hb.size⟩
 obtain ⟨m,hm⟩ := h.len
 exact ⟨m,cell_below' hm hb⟩
theorem objs_cell {W : World} {B i : Nat} (hO : Objs W B) {c : Array Value} {t : TypeId} {j : Nat} {v : Value} (hi : (kindsO B)[i]? = some (.cells c t (0,0))) (hv : c[j]? = some v) : W.cell? ⟨B + 1 + i,j,none⟩ = some v := by
 obtain ⟨h1,h2⟩ := List.getElem?_eq_some_iff.1 hi
 have := hO i h1
 rw [h2] at this
 simp [World.cell?,this,hv]
abbrev oncew : List UInt8 := [111,110,99,101]
theorem sort_takes {w W : World} (wd : List UInt8) (hO : Objs W (w.heap.size + 1)) :
  Calls Tryz.prog 286 (#[.string (ba wd)] ++ #[.pointer (some ⟨w.heap.size + 1 + 1 + 5,0,none⟩)]) W fun e w' => e = .returned (.bool (decide (wd ∈ [[],oncew]))) ∧ Below W.heap.size W w' := by
 refine among_calls wd [[],oncew] (w.heap.size + 1 + 1 + 5) (w.heap.size + 1 + 1 + 4) W (objs_cell hO rfl rfl) (by simp) ?_
 intro j hj
 match j,hj with
 | 0,_ => exact objs_cell hO rfl rfl
 | 1,_ => exact objs_cell hO rfl rfl
theorem none_takes {w W : World} (i : Nat) (hi : i = 1 ∨ i = 7) (wd : List UInt8) (hO : Objs W (w.heap.size + 1)) :
  Calls Tryz.prog 286 (#[.string (ba wd)] ++ #[.pointer (some ⟨w.heap.size + 1 + 1 + i,0,none⟩)]) W fun e w' => e = .returned (.bool (decide (wd ∈ [[]]))) ∧ Below W.heap.size W w' := by
 rcases hi with rfl | rfl
 ·refine among_calls wd [[]] (w.heap.size + 1 + 1 + 1) (w.heap.size + 1 + 1 + 0) W (objs_cell hO rfl rfl) (by simp) ?_
  intro j hj
  match j,hj with
  | 0,_ => exact objs_cell hO rfl rfl
 ·refine among_calls wd [[]] (w.heap.size + 1 + 1 + 7) (w.heap.size + 1 + 1 + 6) W (objs_cell hO rfl rfl) (by simp) ?_
  intro j hj
  match j,hj with
  | 0,_ => exact objs_cell hO rfl rfl
end Go.Proofs.YtdljhggillgpfaaGreatDoor
namespace Go.Proofs.YtdljhggillgpfaaGreatDoor.Tf
open Go.Maps
abbrev Fs := List (List UInt8 × List UInt8)
def datum (fs : Fs) : DataW Unit := .map (fs.map fun f => (Lit.string f.1,DataW.lit (.string f.2)))
def Rises (fs : Fs) : Prop := fs.Pairwise (fun a b => bytesBefore a.1 b.1 = true)
def ins (x : List UInt8 × List UInt8) : Fs → Fs
 | [] => [x]
 | y :: r => if bytesBefore x.1 y.1 then x :: y :: r else y :: ins x r
def del (fs : Fs) (p : List UInt8) : Fs := fs.filter fun f => !(f.1 == p)
def put (fs : Fs) (p b : List UInt8) : Fs := ins (p,b) (del fs p)
def hasP (fs : Fs) (p : List UInt8) : Bool := fs.any fun f => f.1 == p
def get (fs : Fs) (p : List UInt8) : Option (List UInt8) := (fs.find? fun f => f.1 == p).map (·.2)
theorem datum_ins (x : List UInt8 × List UInt8) : ∀ fs : Fs,DataW.insert (Lit.string x.1,DataW.lit (H := Unit) (.string x.2)) (fs.map fun f => (Lit.string f.1,DataW.lit (.string f.2))) = (ins x fs).map fun f => (Lit.string f.1,DataW.lit (.string f.2))
 | [] => rfl
 | y :: r => by
  unfold ins
  by_cases h : bytesBefore x.1 y.1 = true
  ·have h' : (Lit.string x.1).before (Lit.string y.1) = true := h
   simp only [List.map_cons,DataW.insert]
   rw [if_pos h',if_pos h]
   rfl
  ·have h' : ¬ (Lit.string x.1).before (Lit.string y.1) = true := h
   simp only [List.map_cons,DataW.insert]
   rw [if_neg h',if_neg h,datum_ins x r]
   rfl
theorem datum_filter (p : List UInt8) (fs : Fs) : (fs.map fun f => (Lit.string f.1,DataW.lit (H := Unit) (.string f.2))).filter (fun q => !q.1.sameKey (.string p)) = (del fs p).map fun f => (Lit.string f.1,DataW.lit (.string f.2)) := by
 unfold del
 rw [List.filter_map]
 rfl
theorem datum_put (fs : Fs) (p b : List UInt8) : (datum fs).put (.string p) (.lit (.string b)) = datum (put fs p b) := by
 unfold datum put DataW.put
 simp only
 rw [datum_filter,← datum_ins]
theorem datum_del (fs : Fs) (p : List UInt8) : (datum fs).del (.string p) = datum (del fs p) := by
 unfold datum DataW.del
 simp only
 rw [datum_filter]
theorem datum_has (fs : Fs) (p : List UInt8) : Maps.has (datum fs) (.string p) = hasP fs p := by
 unfold datum hasP
 rw [has_eq,List.any_map]
 rfl
theorem datum_at (fs : Fs) (p : List UInt8) (z : DataW Unit) : (datum fs).atKey (.string p) z = match get fs p with | some b => .lit (.string b) | none => z := by
 unfold datum get DataW.atKey
 simp only
 rw [List.find?_map]
 rw [show ((fun q : Lit × DataW Unit => q.1.sameKey (.string p)) ∘ fun f : List UInt8 × List UInt8 => (Lit.string f.1,DataW.lit (H := Unit) (.string f.2))) = (fun f => f.1 == p) from rfl]
 cases List.find? (fun f => f.1 == p) fs <;> rfl
theorem datum_size (fs : Fs) : Maps.size (datum fs) = fs.length := by simp [datum,size_eq]
theorem datum_keys (fs : Fs) : strKeys (datum fs) = fs.map (·.1) := by simp [datum,strKeys,strOf]
theorem before_lt : ∀ (x y : List UInt8),bytesBefore x y = true ↔ x < y
 | [],[] => by simp [bytesBefore]
 | [],_ :: _ => by simp [bytesBefore]
 | _ :: _,[] => by simp [bytesBefore]
 | a :: r,b :: s => by
  rw [List.cons_lt_cons_iff,← before_lt r s]
  simp [bytesBefore]
theorem Rises.sorted {fs : Fs} (h : Rises fs) : (fs.map (·.1)).mergeSort (fun x y => decide (x ≤ y)) = fs.map (·.1) := by
 refine List.mergeSort_of_pairwise ?_
 rw [List.pairwise_map]
 exact h.imp fun {a b} hab => by
  have := (before_lt a.1 b.1).1 hab
  simpa using List.le_of_lt this
theorem Rises.del {fs : Fs} (h : Rises fs) (p : List UInt8) : Rises (del fs p) := List.Pairwise.filter _ h
theorem mem_ins (x y : List UInt8 × List UInt8) : ∀ fs : Fs,y ∈ ins x fs ↔ y = x ∨ y ∈ fs
 | [] => by simp [ins]
 | f :: r => by
  unfold ins
  split
  ·simp
  ·simp only [List.mem_cons,mem_ins x y r]
   constructor
   ·rintro (h | h | h) <;> simp [h]
   ·rintro (h | h | h) <;> simp [h]
theorem Rises.ins {fs : Fs} (h : Rises fs) {x : List UInt8 × List UInt8} (hx : ∀ f ∈ fs,f.1 ≠ x.1) : Rises (ins x fs) := by
 induction fs with
 | nil => simp [Tf.ins,Rises]
 | cons f r ih =>
  unfold Tf.ins
  have h' := List.pairwise_cons.1 h
  split
  ·rename_i hb
   refine List.pairwise_cons.2 ⟨fun g hg => ?_,h⟩
   rcases List.mem_cons.1 hg with rfl | hg
   ·exact hb
   ·exact WideShapes.bytes_trans _ _ _ hb (h'.1 g hg)
  ·rename_i hb
   refine List.pairwise_cons.2 ⟨fun g hg => ?_,ih h'.2 fun g hg => hx g (List.mem_cons_of_mem _ hg)⟩
   rcases (mem_ins x g r).1 hg with rfl | hg
   ·rcases WideAt.bytes_total f.1 g.1 (hx f (by simp)) with h1 | h1
    ·exact h1
    ·exact absurd h1 hb
   ·exact h'.1 g hg
theorem mem_del {fs : Fs} {p : List UInt8} {f : List UInt8 × List UInt8} : f ∈ del fs p ↔ f ∈ fs ∧ f.1 ≠ p := by simp [del]
theorem Rises.put {fs : Fs} (h : Rises fs) (p b : List UInt8) : Rises (put fs p b) := (h.del p).ins fun _ hf => (mem_del.1 hf).2
theorem mem_put {fs : Fs} {p b : List UInt8} {f : List UInt8 × List UInt8} : f ∈ put fs p b ↔ f = (p,b) ∨ (f ∈ fs ∧ f.1 ≠ p) := by
 unfold put
 rw [mem_ins,mem_del]
theorem length_ins (x : List UInt8 × List UInt8) : ∀ fs : Fs,(ins x fs).length = fs.length + 1
 | [] => rfl
 | f :: r => by
  unfold ins
  split
  ·rfl
  ·simp [length_ins x r]
theorem del_none {fs : Fs} {p : List UInt8} (h : hasP fs p = false) : del fs p = fs := by
 unfold del hasP at *
 rw [List.filter_eq_self]
 intro f hf
 have := List.any_eq_false.1 h f hf
 simpa using this
theorem length_del_le (fs : Fs) (p : List UInt8) : (del fs p).length ≤ fs.length := List.length_filter_le _ _
theorem length_del_lt {fs : Fs} {p : List UInt8} (h : hasP fs p = true) : (del fs p).length < fs.length := by
 unfold del hasP at *
 obtain ⟨f,hf,hp⟩ := List.any_eq_true.1 h
 rcases Nat.lt_or_ge (fs.filter fun f => !(f.1 == p)).length fs.length with h1 | h1
 ·exact h1
 ·have e := List.filter_eq_self.1 (List.Sublist.eq_of_length_le (List.filter_sublist) h1) f hf
  simp [hp] at e
def above (a b : List UInt8) : Bool := Lib.hasPrefix b (a ++ [47])
def clash (fs : Fs) (p : List UInt8) : Bool := fs.any fun f => above f.1 p || above p f.1
def putCode (ok : List UInt8 → Bool) (fs : Fs) (p b : List UInt8) : Nat :=
 if ok p = false then 4 else if 2000 < b.length then 2 else if hasP fs p then 0 else if clash fs p then 7 else if 60 ≤ fs.length then 8 else 0
def putF (ok : List UInt8 → Bool) (fs : Fs) (p b : List UInt8) : Fs := if putCode ok fs p b = 0 then put fs p b else fs
structure Well (ok : List UInt8 → Bool) (fs : Fs) : Prop where
 rises : Rises fs
 few : fs.length ≤ 60
 each : ∀ f ∈ fs,ok f.1 = true ∧ f.2.length ≤ 2000
 apart : ∀ f ∈ fs,∀ g ∈ fs,above f.1 g.1 = false
theorem above_self (p : List UInt8) : above p p = false := by
 unfold above Lib.hasPrefix
 cases h : (p ++ [47]).isPrefixOf p with
 | false => rfl
 | true =>
  have := (List.isPrefixOf_iff_prefix.1 h).length_le
  simp at this
  omega
theorem Well.del {ok : List UInt8 → Bool} {fs : Fs} (h : Well ok fs) (p : List UInt8) : Well ok (del fs p) :=
 ⟨h.rises.del p,Nat.le_trans (length_del_le _ _) h.few,fun f hf => h.each f (mem_del.1 hf).1,fun f hf g hg => h.apart f (mem_del.1 hf).1 g (mem_del.1 hg).1⟩
theorem Well.put {ok : List UInt8 → Bool} {fs : Fs} (h : Well ok fs) {p b : List UInt8} (hc : putCode ok fs p b = 0) : Well ok (put fs p b) := by
 unfold putCode at hc
 split at hc
 ·cases hc
 rename_i hok
 split at hc
 ·cases hc
 rename_i hb
 have hok' : ok p = true := by simpa using hok
 refine ⟨h.rises.put p b,?_,?_,?_⟩
 ·unfold Tf.put
  rw [length_ins]
  have := h.few
  split at hc
  ·rename_i hh
   have := length_del_lt hh
   omega
  ·rename_i hh
   have hh' : hasP fs p = false := by simpa using hh
   rw [del_none hh']
   split at hc
   ·cases hc
   split at hc
   ·cases hc
   ·omega
 ·intro f hf
  rcases mem_put.1 hf with rfl | ⟨hf,_⟩
  ·exact ⟨hok',by simpa using hb⟩
  ·exact h.each f hf
 ·have key : ∀ f ∈ fs,f.1 ≠ p → above f.1 p = false ∧ above p f.1 = false := by
   intro f hf hne
   split at hc
   ·rename_i hh
    obtain ⟨g,hg,hgp⟩ := List.any_eq_true.1 hh
    obtain rfl : g.1 = p := by simpa using hgp
    exact ⟨h.apart f hf g hg,h.apart g hg f hf⟩
   ·split at hc
    ·cases hc
    ·rename_i hcl
     have hcl' : clash fs p = false := by simpa using hcl
     have := List.any_eq_false.1 hcl' f hf
     simpa using this
  intro f hf g hg
  rcases mem_put.1 hf with rfl | ⟨hf,hfp⟩ <;> rcases mem_put.1 hg with rfl | ⟨hg,hgp⟩
  ·exact above_self p
  ·exact (key g hg hgp).2
  ·exact (key f hf hfp).1
  ·exact h.apart f hf g hg
theorem Well.putF {ok : List UInt8 → Bool} {fs : Fs} (h : Well ok fs) (p b : List UInt8) : Well ok (putF ok fs p b) := by
 unfold Tf.putF
 split
 ·rename_i hc;exact h.put hc
 ·exact h
def entryT (f : List UInt8 × List UInt8) : List UInt8 := f.1 ++ 32 :: (Lib.decDigits f.2.length ++ 10 :: (f.2 ++ [10]))
def textT (fs : Fs) : List UInt8 := fs.flatMap entryT
end Go.Proofs.YtdljhggillgpfaaGreatDoor.Tf
namespace Go.Proofs.YtdljhggillgpfaaGreatDoor
open Go.RowKit Go.Shelf Go.Lib Go.Maps
def SynAt (w : World) : Prop := ∃ ev,w.cell? ⟨19,0,none⟩ = some ev ∧ (ev = .nilIface ∨ ∃ te pe,ev = .iface te pe)
theorem SynAt.below {w w' : World} (h : SynAt w) (hb : Below w.heap.size w w') : SynAt w' := by
 obtain ⟨ev,h1,h2⟩ := h
 exact ⟨ev,cell_below' h1 hb,h2⟩
def numM (k : Nat) (d : List UInt8) : Option Nat :=
 if k < d.length then none else match Lib.atoi d with
  | some n => if 0 ≤ n ∧ Lib.itoa n = d then some n.toNat else none
  | none => none
theorem numM_some {k : Nat} {d : List UInt8} {n : Nat} (h : numM k d = some n) : d.length ≤ k ∧ Lib.atoi d = some (n : Int) ∧ Lib.decDigits n = d := by
 unfold numM at h
 split at h
 ·cases h
 rename_i h4
 split at h
 ·rename_i z hz
  split at h
  ·rename_i hc
   obtain ⟨h0,h1⟩ := hc
   have e : z = (n : Int) := by
    have := Option.some.inj h
    omega
   subst e
   rw [Lib.itoa_nonneg] at h1
   exact ⟨by omega,hz,h1⟩
  ·cases h
 ·cases h
theorem atoi_small {d : List UInt8} {z : Int} (h : Lib.atoi d = some z) (h4 : d.length ≤ 4) : -100000 ≤ z ∧ z ≤ 100000 := by
 obtain ⟨b0,r,rfl,hc⟩ := Lib.atoi_cases h
 have key : ∀ (l : List UInt8) (m : Nat),l.length ≤ 4 → Lib.decFrom 0 l = some m → m < 100000 := fun l m hl hm => by
  have h1 := Lib.decFrom_lt l 0 m hm
  have h2 : 10 ^ l.length ≤ 10 ^ 4 := Nat.pow_le_pow_right (by omega) hl
  omega
 have hr : r.length ≤ 4 := by simp at h4;omega
 rcases hc with ⟨_,m,_,hm,rfl⟩ | ⟨_,m,_,hm,rfl⟩ | ⟨_,_,m,hm,rfl⟩
 ·have := key _ m hr hm;omega
 ·have := key _ m hr hm;omega
 ·have := key _ m h4 hm;omega
theorem nRead_yes (k : Nat) (hk : k ≤ 4) (d : List UInt8) (n : Nat) (h : numM k d = some n) (hn : n ≤ 1000000) (w : World) (hP : Pow w) :
  Calls Tryz.prog 293 #[.string (ba d),.int .i64 k] w fun e w' => e = .returned (.tuple #[.int .i64 n,.bool true]) ∧ Below w.heap.size w w' := by
 obtain ⟨h4,ha,hd⟩ := numM_some h
 have HA : Hid (Calls Tryz.prog 294 #[.string (ba d)] w fun e w' => e = .returned (.tuple #[.int .i64 n,.nilIface]) ∧ Below w.heap.size w w') :=
  (Tryz.strconv_Atoi (ba d) (n : Int) (by rw [ba_size];omega) ha w).mono fun e w' ⟨h1,t,h2⟩ => ⟨h1,h2 ▸ Go.Joins.below_bytesWorld _ w 5 t (Nat.le_refl _)⟩
 have HI : Hid (∀ W,Below w.heap.size w W → Calls Tryz.prog 112 #[.int .i64 n] W fun e w' => e = .returned (.string (ba d)) ∧ Below W.heap.size W w') := fun W hW => by
  refine (Tryz.strconv_Itoa (n : Int) (by omega) (by omega) W (pow_below hP hW)).mono ?_
  rintro e w' ⟨rfl,k,os,rfl⟩
  rw [Lib.itoa_nonneg,hd]
  exact ⟨rfl,below_grow W k os⟩
 have z4 : (d.length : Int) ≤ (k : Int) := by omega
 have z0 : (0 : Int) ≤ (n : Int) := by omega
 go_enter Tryz.func293,Tryz.ntmps293
 go_wp2_with fail
 refine HA.out.mono ?_
 rintro e w1 ⟨rfl,g1⟩
 go_wp2_with fail
 refine (HI.out w1 g1).mono ?_
 rintro e w2 ⟨rfl,g2⟩
 go_wp2
 go_ret2
 exact ⟨by first | rfl | simp,g1.trans (g2.mono g1.size)⟩
theorem nRead_no (k : Nat) (hk : k ≤ 4) (d : List UInt8) (h : numM k d = none) (hd : d.length ≤ 1000000) (w : World) (hP : Pow w) (hS : SynAt w) :
  Calls Tryz.prog 293 #[.string (ba d),.int .i64 k] w fun e w' => e = .returned (.tuple #[.int .i64 0,.bool false]) ∧ Below w.heap.size w w' := by
 by_cases h4 : k < d.length
 ·have z4 : (k : Int) < (d.length : Int) := by omega
  go_enter Tryz.func293,Tryz.ntmps293
  go_wp2
  go_ret2
  exact ⟨rfl,Below.refl _ _⟩
 have z4 : (d.length : Int) ≤ (k : Int) := by omega
 cases ha : Lib.atoi d with
 | none =>
  obtain ⟨ev,hv,hev⟩ := hS
  have HA : Hid (Calls Tryz.prog 294 #[.string (ba d)] w fun e w' => (∃ t v,e = .returned (.tuple #[.int .i64 0,.iface t v])) ∧ Below w.heap.size w w') :=
   (Tryz.strconv_Atoi_err (ba d) (by rw [ba_size];omega) ha ev w hv hev).mono fun e w' ⟨N,h1,_,_,h2⟩ => ⟨⟨_,_,h1⟩,h2⟩
  go_enter Tryz.func293,Tryz.ntmps293
  go_wp2_with fail
  refine HA.out.mono ?_
  rintro e w1 ⟨⟨t,v,rfl⟩,g1⟩
  go_wp2
  go_ret2
  exact ⟨rfl,g1⟩
 | some z =>
  obtain ⟨hz0,hz1⟩ := atoi_small ha (by omega)
  have HA : Hid (Calls Tryz.prog 294 #[.string (ba d)] w fun e w' => e = .returned (.tuple #[.int .i64 z,.nilIface]) ∧ Below w.heap.size w w') :=
   (Tryz.strconv_Atoi (ba d) z (by rw [ba_size];omega) ha w).mono fun e w' ⟨h1,t,h2⟩ => ⟨h1,h2 ▸ Go.Joins.below_bytesWorld _ w 5 t (Nat.le_refl _)⟩
  by_cases hz : 0 ≤ z
  ·have hne : (Lib.itoa z == d) = false := by
    unfold numM at h
    rw [if_neg h4,ha] at h
    simp only at h
    split at h
    ·cases h
    ·rename_i hc
     simp
     exact fun e => hc ⟨hz,e⟩
   have HI : Hid (∀ W,Below w.heap.size w W → Calls Tryz.prog 112 #[.int .i64 z] W fun e w' => e = .returned (.string (ba (Lib.itoa z))) ∧ Below W.heap.size W w') := fun W hW => by
    refine (Tryz.strconv_Itoa z (by omega) (by omega) W (pow_below hP hW)).mono ?_
    rintro e w' ⟨rfl,k,os,rfl⟩
    exact ⟨rfl,below_grow W k os⟩
   generalize Lib.itoa z = y at *
   go_enter Tryz.func293,Tryz.ntmps293
   go_wp2_with fail
   refine HA.out.mono ?_
   rintro e w1 ⟨rfl,g1⟩
   go_wp2_with fail
   refine (HI.out w1 g1).mono ?_
   rintro e w2 ⟨rfl,g2⟩
   go_wp2
   go_ret2
   exact ⟨rfl,g1.trans (g2.mono g1.size)⟩
  ·have hz' : z < 0 := by omega
   go_enter Tryz.func293,Tryz.ntmps293
   go_wp2_with fail
   refine HA.out.mono ?_
   rintro e w1 ⟨rfl,g1⟩
   go_wp2
   go_ret2
   exact ⟨rfl,g1⟩
end Go.Proofs.YtdljhggillgpfaaGreatDoor
namespace Go.Proofs.YtdljhggillgpfaaGreatDoor
open Go.RowKit Go.Shelf Go.Lib
open Go.Sort (grow Holds putRow)
theorem ofOne_calls (word out : ByteArray) (x : List UInt8) (f b g n cap : Nat) (w : World) (hb : w.cell? ⟨b,0,none⟩ = some (fn f)) (hx : w.cell? ⟨g,0,none⟩ = some (.string (ba x))) (hbl : b < w.heap.size) (hgl : g < w.heap.size) (hn : 1 ≤ n)
  (ef : ∀ args w,(callFunc f args).run Tryz.prog w = .ok (.enter f args) w)
  (HF : Hid (∀ W,Below w.heap.size w W → Calls Tryz.prog f #[.string word,.string (ba x)] W fun e w' => e = .returned (.string out) ∧ Below W.heap.size W w')) :
  Calls Tryz.prog 287 #[.string word,.slice (some ⟨g,0,none⟩) n cap,.pointer (some ⟨b,0,none⟩)] w fun e w' => e = .returned (.string out) ∧ Below w.heap.size w w' := by
 have n0 : 0 < n := hn
 go_enter Tryz.func287,Tryz.ntmps287
 go_wp2
 go_region_held3 (fun w' => w'.cell? ⟨b,0,none⟩ = some (fn f) ∧ w'.cell? ⟨g,0,none⟩ = some (.string (ba x))) (first | go_keep | fail)
  (first | (go_at_fn f;refine Calls.mono (HF.out _ (by exact (Below.refl _ w).drew)) ?_;rintro e w3 ⟨rfl,g3⟩;have e2 := (cell_below2 g3 (j := 0) hbl).trans hb;have e3 := (cell_below2 g3 (j := 0) hgl).trans hx))
 all_goals
  go_wp2
  go_ret
  exact ⟨rfl,below_then (below_draws (Below.refl _ w) 1) g3⟩
theorem num_many (wd : List UInt8) : wd.length ≤ 1000000 → ∀ (w : World),Pow w → SynAt w → Calls Tryz.prog 293 #[.string (ba wd),.int .i64 3] w fun e w' => (∃ x : Int,e = .returned (.tuple #[.int .i64 x,.bool (numM 3 wd).isSome])) ∧ Below w.heap.size w w' := fun hl w hP hS => by
 cases h : numM 3 wd with
 | none => exact (nRead_no 3 (by omega) wd h hl w hP hS).mono fun e w' ⟨h1,h2⟩ => ⟨⟨0,h1⟩,h2⟩
 | some n =>
  obtain ⟨h4,ha,_⟩ := numM_some h
  have := atoi_small ha (by omega)
  exact (nRead_yes 3 (by omega) wd n h (by omega) w hP).mono fun e w' ⟨h1,h2⟩ => ⟨⟨n,h1⟩,h2⟩
theorem isMany_calls (wd : List UInt8) (hl : wd.length ≤ 1000000) (w : World) (hP : Pow w) (hS : SynAt w) :
  Calls Tryz.prog 278 #[.string (ba wd)] w fun e w' => e = .returned (.bool (numM 3 wd).isSome) ∧ Below w.heap.size w w' := by
 have HA := hid1 (num_many wd hl w hP hS)
 generalize (numM 3 wd).isSome = r at *
 clear hP hS
 go_enter Tryz.func278,Tryz.ntmps278
 go_wp2_with fail
 refine Calls.mono HA.out ?_
 rintro e w1 ⟨⟨x,rfl⟩,g1⟩
 go_wp2
 go_ret
 exact ⟨rfl,g1⟩
theorem head_calls (wd s : List UInt8) (n : Nat) (hn : numM 3 wd = some n) (hs : s.length ≤ 100000) (m : Int) (w : World) (hm : w.cell? ⟨13,0,none⟩ = some (.int .i64 m)) (hP : Pow w) :
  Calls Tryz.prog 279 #[.string (ba wd),.string (ba s)] w fun e w' => e = .returned (.string (ba (Af.told ((Af.lines s).take n)))) ∧ Below w.heap.size w w' := by
 obtain ⟨h4,ha,_⟩ := numM_some hn
 have hn1 := atoi_small ha (by omega)
 have HA := hid1 (nRead_yes 3 (by omega) wd n hn (by omega) w hP)
 have HL := hid1 (fun W hW => linesOf_calls s (by omega) m W (cell_below' (w' := W) hm hW))
 have hlen : (Af.told ((Af.lines s).take n)).length ≤ 100000000 := by
  have h1 := told_take_len (l := Af.lines s) n
  have h2 := (Af.told_lines_len s).2
  omega
 have hll := Af.lines_len s
 generalize Af.lines s = L at *
 have HT := hid1 (fun (v : Value) (W : World) (h : CRow W v (L.take n)) => told_calls v (L.take n) W h hlen)
 have hlt : (L.take n).length = min n L.length := by simp
 generalize Af.told (L.take n) = out at *
 clear hn hm hP ha
 go_enter Tryz.func279,Tryz.ntmps279
 go_wp2_with fail
 refine Calls.mono HA.out ?_
 rintro e w1 ⟨rfl,g1⟩
 have HL1 := HL.out w1 g1
 go_wp2_with fail
 refine Calls.mono HL1 ?_
 rintro e w2 ⟨v,rfl,⟨g,cap,cur,rfl,hg0,hcap,hblk,hcur⟩,g2⟩
 have G2 := g1.trans (g2.mono g1.size)
 have hC : CRow w2 (.slice (some ⟨g,0,none⟩) (min n L.length) cap) (L.take n) := ⟨_,cap,by rw [hlt],fun k hk => ⟨g,rfl,(Array.getElem?_eq_some_iff.1 hblk).1,by
  have hk' : k < L.length := by rw [hlt] at hk;omega
  have := cell_of_row hblk (hcur k hk')
  rw [List.getElem_take]
  exact this⟩⟩
 have HT2 := HT.out _ w2 hC
 clear HL1 HL HT hC hcur hlt
 have zl : (L.length : Int) ≤ 100000 := by omega
 have hmin : min (n : Int) (L.length : Int) = ((min n L.length : Nat) : Int) := by omega
 have zm : ((min n L.length : Nat) : Int) ≤ (cap : Int) := by omega
 have zm3 : (0 : Int) ≤ ((min n L.length : Nat) : Int) := by omega
 go_wp2_with fail
 refine Calls.mono HT2 ?_
 rintro e w3 ⟨rfl,g3⟩
 go_wp2
 go_ret
 exact ⟨rfl,G2.trans (g3.mono G2.size)⟩
end Go.Proofs.YtdljhggillgpfaaGreatDoor
