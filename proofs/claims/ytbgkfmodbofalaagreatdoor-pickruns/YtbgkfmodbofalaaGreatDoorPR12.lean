import Derived.Test.YtbgkfmodbofalaaGreatDoorPR09
import Derived.Test.YtbgkfmodbofalaaGreatDoorPR11
import Derived.Sort.OwnSorted
import Derived.Lib.IndexLaws
import Derived.Lib.ConvBytes
import Derived.Laws.BytesArg
set_option maxRecDepth 100000
set_option maxHeartbeats 4000000
namespace Go.Proofs.YtbgkfmodbofalaaGreatDoor
section
open Go.RowKit Go.Shelf Go.Lib
open Go.Sort (grow Holds putRow)
def HRow (B : Nat) (w : World) (v : Value) (l : List (List UInt8)) : Prop :=
 (l = [] /\ v = .slice none 0 0) \/ ∃ g cap,v = .slice (some ⟨g,0,none⟩) l.length cap /\ B <= g /\ g < w.heap.size /\ l.length <= cap /\ Holds encStr w g 0 l.toArray
theorem HRow.of_owns {B : Nat} {w : World} {v : Value} {l : List (List UInt8)} (h : w.ownsRow B 9 1 v l.length (l.map sv)) : HRow B w v l := by
 rcases h.2 with ⟨rfl,hn⟩ | ⟨g,cap,cur,rfl,hBg,hb,h1,_,_,h4⟩
 ·exact .inl ⟨List.length_eq_zero_iff.1 hn,rfl⟩
 ·refine .inr ⟨g,cap,rfl,hBg,(Array.getElem?_eq_some_iff.1 hb).1,h1,fun j hj => ?_⟩
  have hj' : j < l.length := by simpa using hj
  have := congrArg (fun x => x[j]?) h4
  simp only [Nat.mul_one,List.getElem?_take,hj',if_true,List.getElem?_map,List.getElem?_eq_getElem hj',Option.map_some,Array.getElem?_toList] at this
  refine ⟨?_,by simp [World.frozen?,hb]⟩
  rw [Nat.zero_add,Zac hb this];simp [hj']
theorem HRow.cells {B : Nat} {w : World} {v : Value} {l : List (List UInt8)} (h : HRow B w v l) : CRow w v l := by
 rcases h with ⟨rfl,rfl⟩ | ⟨g,cap,rfl,_,h2,_,hH⟩
 ·exact ⟨none,0,rfl,fun k hk => by simp at hk⟩
 ·refine ⟨_,cap,rfl,fun k hk => ⟨g,rfl,h2,?_⟩⟩
  have := (hH k (by simpa using hk)).1
  rw [Nat.zero_add] at this;rw [this];simp [hk]
theorem Zog {w : World} {B g n : Nat} {os : Array Obj} (d : Array (List UInt8)) (hg : B <= g) (hB : B <= w.heap.size) : Below B w (grow (putRow encStr (Sort.ahead w n) g 0 d) os) :=
 (Below.refl B w).grown (grownBy_sorted d) hB (fun j hj => by cases hj;exact hg)
theorem Zsc {B : Nat} {w : World} {v : Value} {l : List (List UInt8)} (h : HRow B w v l) (hB : B <= w.heap.size) (hl : l.length <= 1000000000) :
  Calls Tryz.prog 120 #[v] w fun e w' => e = .returned (.tuple #[]) /\ HRow B w' v (Af.srt l) /\ Below B w w' := by
 rcases h with ⟨rfl,rfl⟩ | ⟨g,cap,rfl,h1,h2,h3,hH⟩
 ·refine (Tryz.slices_Sort_string_none none 0 w).mono ?_;rintro e w' ⟨rfl,rfl⟩;exact ⟨rfl,.inl ⟨List.length_eq_zero_iff.1 (Af.srt_len []),rfl⟩,Below.refl _ _⟩
 ·refine (Tryz.slices_Sort_string g 0 cap l w hH h2 (by omega)).mono ?_
  rintro e w' ⟨rfl,n,os,rfl⟩;refine ⟨rfl,.inr ⟨g,cap,by rw [Af.srt_len],h1,?_,by rw [Af.srt_len];exact h3,?_⟩,Zog _ h1 hB⟩
  ·rw [Go.Sort.size_grow,Go.Sort.size_putRow];exact Nat.lt_of_lt_of_le h2 (Nat.le_add_right _ _)
  ·refine Go.Sort.holds_grow _ _ _ _ _ _ (by rw [Go.Sort.size_putRow];exact h2) ?_
   exact Go.Sort.holds_putRow encStr (Sort.ahead w n) g 0 l.toArray _ hH (by simp)
theorem Zlf {B : Nat} {w : World} {v : Value} {l : List (List UInt8)} (h : HRow B w v l) (hB : B <= w.heap.size) (hl : l.length <= 1000000000) :
  Calls Tryz.prog 121 #[v] w fun e w' => ∃ v',e = .returned v' /\ HRow B w' v' (Lib.compact l) /\ Below B w w' := by
 rcases h with ⟨rfl,rfl⟩ | ⟨g,cap,rfl,h1,h2,h3,hH⟩
 ·refine (Tryz.slices_Compact_string_empty none 0 w).mono ?_;rintro e w' ⟨rfl,rfl⟩;exact ⟨_,rfl,.inl ⟨rfl,rfl⟩,Below.refl _ _⟩
 ·refine (Tryz.slices_Compact_string g 0 cap l w hH (by omega) h3).mono ?_
  rintro e w' ⟨rfl,q,rfl⟩;have hc := Lib.compact_length_le l;have hp := Go.Sort.holds_putRow encStr (Sort.ahead w q) g 0 l.toArray (Lib.compact l ++ List.replicate (l.length - (Lib.compact l).length) []).toArray hH (by simp;omega)
  refine ⟨_,rfl,.inr ⟨g,cap,rfl,h1,by rw [Go.Sort.size_putRow];exact h2,by omega,fun j hj => ?_⟩,?_⟩
  ·have hj' : j < (Lib.compact l).length := by simpa using hj
   obtain ⟨p1,p2⟩ := hp j (by simp;omega)
   refine ⟨?_,p2⟩;rw [p1];have e1 : (Lib.compact l ++ List.replicate (l.length - (Lib.compact l).length) []).toArray[j]! = (Lib.compact l)[j] := by
    simp [List.getElem?_append_left hj',hj']
   have e2 : (Lib.compact l).toArray[j]! = (Lib.compact l)[j] := by simp [hj']
   rw [e1,e2]
  ·have := Zog (w := w) (B := B) (g := g) (n := q) (os := #[]) (Lib.compact l ++ List.replicate (l.length - (Lib.compact l).length) []).toArray h1 hB;rwa [Go.Sort.grow_empty] at this
def Af.sorted (wd : List UInt8) (ls : List (List UInt8)) : List UInt8 := Af.told (if wd = [111,110,99,101] then Lib.compact (Af.srt (Af.all ls)) else Af.srt (Af.all ls))
theorem Zmf (wd : List UInt8) (v : Value) (ls : List (List UInt8)) (hn : ls.length <= 1000) (hx : ∀ x ∈ ls,x.length <= 100000) (hl : (Af.told (Af.all ls)).length <= 100000000) (m : Int) (w : World) (hrow : TRow w v ls) (hm : w.cell? ⟨14,0,none⟩ = some (.int .i64 m)) :
  Calls Tryz.prog 228 #[.string (ba wd),v] w fun e w' => e = .returned (.string (ba (Af.sorted wd ls))) /\ Below w.heap.size w w' := by
 have HA := hid1 (Zdz v ls hn hx m w hrow hm);have hal : (Af.all ls).length <= 100000000 := by
  have := Zlk hx ls.length (Nat.le_refl _);rw [List.take_length] at this;omega
 have hl1 : (Af.told (Af.srt (Af.all ls))).length <= 100000000 := by rw [Af.told_perm (Af.srt_perm _)];exact hl
 have hl2 : (Af.told (Lib.compact (Af.srt (Af.all ls)))).length <= 100000000 := by
  have := Af.compact_told_len (Af.srt (Af.all ls)) (Af.srt (Af.all ls)).length (Nat.le_refl _);rw [List.take_length] at this;exact Nat.le_trans this hl1
 have hsl : (Af.srt (Af.all ls)).length <= 1000000000 := by rw [Af.srt_len];omega
 have HQ : Hid (Af.sorted wd ls = Af.told (if wd = [111,110,99,101] then Lib.compact (Af.srt (Af.all ls)) else Af.srt (Af.all ls))) := rfl
 generalize Af.sorted wd ls = out at *;go_enter Tryz.func228,Tryz.ntmps228
 go_wp2_with fail;refine Calls.mono HA.out ?_;rintro e w1 ⟨v1,rfl,hown,g1⟩;have HS := hid1 (Zsc (HRow.of_owns hown) g1.size (by omega))
 clear hown;go_wp2_with fail;refine Calls.mono HS.out ?_;rintro e w2 ⟨rfl,h2,g2⟩;have G2 : Below w.heap.size w w2 := g1.trans g2;clear HS HA;by_cases h1 : wd = [111,110,99,101]
 ·subst h1;have HC := hid1 (Zlf h2 G2.size hsl);go_wp2_with fail;refine Calls.mono HC.out ?_;rintro e w3 ⟨v3,rfl,h3,g3⟩;have HT := hid1 (Zdl v3 _ w3 h3.cells hl2);go_wp2_with fail;refine Calls.mono HT.out ?_;rintro e w4 ⟨rfl,g4⟩;have G3 : Below w.heap.size w w3 := G2.trans g3;go_wp2;go_ret;exact ⟨ret_eq (by rw [HQ.out,if_pos trivial];rfl),G3.trans (g4.mono G3.size)⟩
 ·have HT := hid1 (Zdl v1 _ w2 h2.cells hl1);have hone : (wd == [111,110,99,101]) = false := by simpa using h1
  go_wp2_with fail;refine Calls.mono HT.out ?_;rintro e w4 ⟨rfl,g4⟩;go_wp2;go_ret;exact ⟨ret_eq (by rw [HQ.out,if_neg h1];rfl),G2.trans (g4.mono G2.size)⟩
def Af.bytes (ls : List (List UInt8)) : Nat := (ls.map List.length).sum
def Af.count (ls : List (List UInt8)) : List UInt8 := Lib.decDigits (Af.all ls).length ++ 32 :: (Lib.decDigits (Af.bytes ls) ++ [10])
theorem Zfo {ls : List (List UInt8)} {k : Nat} (hk : k < ls.length) : Af.bytes (ls.take (k + 1)) = Af.bytes (ls.take k) + ls[k].length := by
 unfold Af.bytes;rw [List.take_succ_eq_append_getElem hk,List.map_append,List.sum_append];simp only [List.map_cons,List.map_nil,List.sum_cons,List.sum_nil,Nat.add_zero]
theorem Zef (n : Nat) (h : n <= 1000000000) : (Lib.decDigits n).length <= 21 := by
 have := Lib.itoa_length_le (n : Int) (by omega) (by omega)
 rwa [Lib.itoa_nonneg] at this
theorem Zlh {ls : List (List UInt8)} (h : ∀ x ∈ ls,x.length <= 100000) : ∀ k,k <= ls.length -> Af.bytes (ls.take k) <= k * 100000
 | 0,_ => by simp [Af.bytes]
 | k + 1,hk => by
  have ih := Zlh h k (by omega)
  rw [Zfo (by omega)]
  have h2 := h _ (List.getElem_mem (show k < ls.length by omega))
  omega
theorem Ztb (n : Nat) (hn : n <= 1000000000) {w W : World} (hP : Pow w) (hW : Below w.heap.size w W) : Calls Tryz.prog 98 #[.int .i64 n] W fun e w' => e = .returned (.string (ba (Lib.decDigits n))) /\ Below W.heap.size W w' := by
 refine (Tryz.strconv_Itoa (n : Int) (by omega) (by omega) W (Zbu hP hW)).mono ?_
 rintro e w' ⟨rfl,k,os,rfl⟩;rw [Lib.itoa_nonneg];exact ⟨rfl,Zds W k os⟩
theorem Zpy (v : Value) (ls : List (List UInt8)) (hn : ls.length <= 1000) (hx : ∀ x ∈ ls,x.length <= 100000) (m : Int) (w : World) (hrow : TRow w v ls) (hm : w.cell? ⟨14,0,none⟩ = some (.int .i64 m)) (hP : Pow w) :
  Calls Tryz.prog 230 #[v] w fun e w' => e = .returned (.string (ba (Af.count ls))) /\ Below w.heap.size w w' := by
 have HA := hid1 (Zdz v ls hn hx m w hrow hm);have HI := hid1 (fun (n : Nat) (hn : n <= 1000000000) (W : World) (hW : Below w.heap.size w W) => Ztb n hn hP hW)
 have hal : (Af.all ls).length <= 100000000 := by
  have := Zlk hx ls.length (Nat.le_refl _);rw [List.take_length] at this;omega
 have hby := Zlh hx;have HQ : Hid (Af.count ls = Lib.decDigits (Af.all ls).length ++ 32 :: (Lib.decDigits (Af.bytes ls) ++ [10])) := rfl;generalize Af.count ls = out at *;obtain ⟨pa,cap,rfl,hcap,hin⟩ := hrow;have hR : Hid (∀ k (hk : k < ls.length),∃ g,pa = some ⟨g,0,none⟩ /\ w.cell? ⟨g,k,none⟩ = some (.string (ba ls[k]))) := fun k hk => by
  obtain ⟨g,cur,rfl,hg,hcur⟩ := hin (by intro e;rw [e] at hk;simp at hk)
  exact ⟨g,rfl,Zac hg (hcur k hk)⟩
 have hzn : (ls.length : Int) <= 1000 := by omega
 clear hin hm hP;go_enter Tryz.func230,Tryz.ntmps230
 go_wp2;go_loopw [3,8] (fun b i wr => ∃ k : Nat,k <= ls.length /\ i = .int .i64 k /\ b = .int .i64 (Af.bytes (ls.take k)) /\ wr = w) (fun _ i _ => ls.length - (intOf i).toNat)
 case atStart => exact ⟨0,Nat.zero_le _,rfl,rfl,rfl⟩
 case round =>
  obtain ⟨k,hk,rfl,rfl,rfl⟩ := hrel;by_cases hlt : k < ls.length
  ·have c1 : (k : Int) < (ls.length : Int) := by omega
   have c0 : (0 : Int) <= (k : Int) := by omega
   obtain ⟨g,rfl,hcell⟩ := hR.out k hlt;have HB : Hid (Af.bytes (ls.take (k + 1)) = Af.bytes (ls.take k) + ls[k].length) := Zfo hlt;have hb1 := hby (k + 1) (by omega)
   rw [HB.out] at hb1;generalize ls[k] = x at *;generalize Af.bytes (ls.take k) = b at *;have z1 : (0 : Int) <= (b : Int) := by omega
   have z2 : (b : Int) + (x.length : Int) <= 100000000 := by omega
   have z3 : (0 : Int) <= (x.length : Int) := by omega
   have hsz : ((ba x).size : Int) = (x.length : Int) := by rw [Zam]
   go_wp2;go_roundw
   case rel => exact ⟨k + 1,by omega,by go_num,by rw [HB.out];go_num,trivial⟩
   case measure => simp [intOf];omega
  ·have c1 : (ls.length : Int) <= (k : Int) := by omega
   obtain rfl : k = ls.length := by omega
   have hb1 := hby ls.length (Nat.le_refl _);rw [List.take_length] at hb1 ⊢;go_wp2_with fail;refine Calls.mono HA.out ?_;rintro e w1 ⟨v1,rfl,hown,g1⟩;obtain ⟨p1,cap1,rfl,_,_⟩ := TRow.of_owns hown;have H1 := HI.out (Af.all ls).length (by omega) w1 g1
   have hdA := Zef (Af.all ls).length (by omega)
   have hdB := Zef (Af.bytes ls) (by omega)
   have zA : ((ba (Lib.decDigits (Af.all ls).length)).size : Int) <= 21 := by rw [Zam];omega
   have zB : ((ba (Lib.decDigits (Af.bytes ls))).size : Int) <= 21 := by rw [Zam];omega
   clear hown HA;generalize Af.all ls = A at *;generalize Af.bytes ls = b at *;go_wp2_with fail;refine Calls.mono H1 ?_;rintro e w2 ⟨rfl,g2⟩;have G2 := g1.trans (g2.mono g1.size);have H2 := HI.out b (by omega) w2 G2
   clear H1;go_wp2_with fail;refine Calls.mono H2 ?_;rintro e w3 ⟨rfl,g3⟩;have ecat : ba (Lib.decDigits A.length) ++ { data := #[32] } ++ ba (Lib.decDigits b) ++ { data := #[10] } = ba out := by
    rw [show (ByteArray.mk #[32]) = ba [32] from rfl,show (ByteArray.mk #[10]) = ba [10] from rfl,HQ.out]
    simp only [Zfe];simp
   clear H2;go_wp2;go_ret;exact ⟨rfl,G2.trans (g3.mono G2.size)⟩
theorem Znf (word : ByteArray) (v : Value) (ls : List (List UInt8)) (hn : ls.length <= 1000) (hx : ∀ x ∈ ls,x.length <= 100000) (m : Int) (w : World) (hrow : TRow w v ls) (hm : w.cell? ⟨14,0,none⟩ = some (.int .i64 m)) (hP : Pow w) :
  Calls Tryz.prog 229 #[.string word,v] w fun e w' => e = .returned (.string (ba (Af.count ls))) /\ Below w.heap.size w w' := by
 have HA := hid1 (Zpy v ls hn hx m w hrow hm hP);clear hm hP hrow;go_enter Tryz.func229,Tryz.ntmps229
 go_wp2_with fail;refine Calls.mono HA.out ?_;rintro e w1 ⟨rfl,g1⟩;go_wp2;go_ret;exact ⟨rfl,g1⟩
theorem Zng (xs : List (List UInt8)) : (xs.map ba).map (·.data.toList) = xs := by
 rw [List.map_map];conv => rhs;rw [<- List.map_id xs]
 exact List.map_congr_left fun x _ => rfl
theorem Zpp (wd : List UInt8) (v : Value) (ls : List (List UInt8)) (hn : ls.length <= 1000) (hl : (Lib.join ls wd).length <= 1000000000) (w : World) (hrow : TRow w v ls) :
  Calls Tryz.prog 221 #[.string (ba wd),v] w fun e w' => e = .returned (.string (ba (Lib.join ls wd))) /\ Below w.heap.size w w' := by
 have HJ : Hid (Calls Tryz.prog 222 #[v,.string (ba wd)] w fun e w' => e = .returned (.string (ba (Lib.join ls wd))) /\ Below w.heap.size w w') := by
  obtain ⟨pa,cap,rfl,hcap,hin⟩ := hrow;by_cases h0 : ls = []
  ·subst h0;refine hid1 ((Any.strings_Join_none Tryz.lays156 Tryz.Builder_Extra_156 pa cap (ba wd) w).mono ?_);rintro e w' ⟨rfl,rfl⟩;exact ⟨rfl,Below.refl _ _⟩
  ·obtain ⟨g,cur,rfl,hg,hcur⟩ := hin h0;have := Tryz.strings_Join g 0 cap (ls.map ba) (ba wd) w (fun j x hj => by
    have hjl : j < ls.length := by simpa using (List.getElem?_eq_some_iff.1 hj).1
    rw [List.getElem?_map,List.getElem?_eq_getElem hjl] at hj
    simp at hj;rw [Nat.zero_add,<- hj];exact Zac hg (hcur j hjl)) (Array.getElem?_eq_some_iff.1 hg).1 (by simp;omega) (by simpa using hcap) (by rw [Zng];show (Lib.join ls wd).length <= _;omega)
   rw [Zng,List.length_map] at this;exact this
 clear hrow;go_enter Tryz.func221,Tryz.ntmps221
 go_wp2_with fail;refine Calls.mono HJ.out ?_;rintro e w1 ⟨rfl,g1⟩;go_wp2;go_ret;exact ⟨rfl,g1⟩
theorem Znd (word : ByteArray) (v : Value) (w : World) :
  Calls Tryz.prog 220 #[.string word,v] w fun e w' => e = .returned (.string word) /\ Below w.heap.size w w' := by
 go_enter Tryz.func220,Tryz.ntmps220
 go_wp2;go_ret;exact ⟨rfl,Below.refl _ _⟩
theorem Zcs (word : ByteArray) (w : World) :
  Calls Tryz.prog 219 #[.string word] w fun e w' => e = .returned (.bool true) /\ Below w.heap.size w w' := by
 go_enter Tryz.func219,Tryz.ntmps219
 go_wp2;go_ret;exact ⟨rfl,Below.refl _ _⟩
theorem Zej (wd : List UInt8) (words : List (List UInt8)) (b g : Nat) (w : World) (hb : w.cell? ⟨b,0,none⟩ = some (.slice (some ⟨g,0,none⟩) words.length words.length)) (hw : words.length <= 1000)
  (hc : ∀ j (hj : j < words.length),w.cell? ⟨g,j,none⟩ = some (.string (ba words[j]))) :
  Calls Tryz.prog 291 #[.string (ba wd),.pointer (some ⟨b,0,none⟩)] w fun e w' => e = .returned (.bool (decide (wd ∈ words))) /\ Below w.heap.size w w' := by
 have HC : Hid (Calls Tryz.prog 274 #[.slice (some ⟨g,0,none⟩) words.length words.length,.string (ba wd)] w fun e w' => e = .returned (.bool (decide (wd ∈ words))) /\ w' = w) := by
  have := Tryz.slices_Contains_string g 0 words.length words.length (words.map ba) (ba wd) w (by simp) (by omega) (fun j hj => by
   have hjl : j < words.length := by simpa using hj
   rw [Nat.zero_add,hc j hjl];simp [hjl])
  rw [List.take_of_length_le (by simp)] at this
  have e : Lib.containsS (words.map ba) (ba wd) = decide (wd ∈ words) := by
   rw [Bool.eq_iff_iff,Lib.containsS_iff,decide_eq_true_iff];simp only [List.mem_map];constructor
   ·rintro ⟨x,hx,e⟩;have : x = wd := by
     have := congrArg (·.data.toList) e;simpa [ba] using this
    rw [<- this];exact hx
   ·exact fun h => ⟨wd,h,rfl⟩
  rw [e] at this;exact this
 generalize decide (wd ∈ words) = r at *;clear hc;go_enter Tryz.func291,Tryz.ntmps291
 go_wp2_with fail;refine Calls.mono HC.out ?_;rintro e w1 ⟨rfl,rfl⟩;go_wp2;go_ret;exact ⟨rfl,Below.refl _ _⟩
structure AW (w : World) (es el : Value) : Prop where
 len : ∃ m,w.cell? ⟨14,0,none⟩ = some (.int .i64 m)
 pow : Pow w
 shape : w.cell? ⟨1,0,none⟩ = some es
 long : w.cell? ⟨3,0,none⟩ = some el
 big : 20 < w.heap.size
theorem AW.stays {w W : World} {es el : Value} (h : AW w es el) (hb : Below w.heap.size w W) : AW W es el := by
 have h0 := h.big;refine ⟨?_,Zbu h.pow hb,(Zal hb (by omega)).trans h.shape,(Zal hb (by omega)).trans h.long,Nat.lt_of_lt_of_le h0 hb.size⟩
 obtain ⟨m,hm⟩ := h.len;exact ⟨m,Zaa hm hb⟩
theorem Zbn {W : World} {B i : Nat} (hO : Objs W B) {c : Array Value} {t : TypeId} {j : Nat} {v : Value} (hi : (kindsO B)[i]? = some (.cells c t (0,0))) (hv : c[j]? = some v) : W.cell? ⟨B + 1 + i,j,none⟩ = some v := by
 obtain ⟨h1,h2⟩ := List.getElem?_eq_some_iff.1 hi;have := hO i h1;rw [h2] at this;simp [World.cell?,this,hv]
abbrev oncew : List UInt8 := [111,110,99,101]
theorem Zsb {w W : World} (wd : List UInt8) (hO : Objs W (w.heap.size + 1)) :
  Calls Tryz.prog 291 (#[.string (ba wd)] ++ #[.pointer (some ⟨w.heap.size + 1 + 1 + 5,0,none⟩)]) W fun e w' => e = .returned (.bool (decide (wd ∈ [[],oncew]))) /\ Below W.heap.size W w' := by
 refine Zej wd [[],oncew] (w.heap.size + 1 + 1 + 5) (w.heap.size + 1 + 1 + 4) W (Zbn hO rfl rfl) (by simp) ?_
 intro j hj
 match j,hj with
 | 0,_ => exact Zbn hO rfl rfl
 | 1,_ => exact Zbn hO rfl rfl
theorem Zjs {w W : World} (i : Nat) (hi : i = 1 \/ i = 7) (wd : List UInt8) (hO : Objs W (w.heap.size + 1)) :
  Calls Tryz.prog 291 (#[.string (ba wd)] ++ #[.pointer (some ⟨w.heap.size + 1 + 1 + i,0,none⟩)]) W fun e w' => e = .returned (.bool (decide (wd ∈ [[]]))) /\ Below W.heap.size W w' := by
 rcases hi with rfl | rfl
 ·refine Zej wd [[]] (w.heap.size + 1 + 1 + 1) (w.heap.size + 1 + 1 + 0) W (Zbn hO rfl rfl) (by simp) ?_
  intro j hj
  match j,hj with
  | 0,_ => exact Zbn hO rfl rfl
 ·refine Zej wd [[]] (w.heap.size + 1 + 1 + 7) (w.heap.size + 1 + 1 + 6) W (Zbn hO rfl rfl) (by simp) ?_
  intro j hj
  match j,hj with
  | 0,_ => exact Zbn hO rfl rfl
end
section
open Go.Lib
open Tf (Fs)
theorem Zde : ∀ (n : Nat),∀ b ∈ Lib.decDigits n,48 <= b.toNat /\ b.toNat <= 57
 | n => by
  intro b hb
  rw [Lib.decDigits] at hb;have key : ∀ d,d < 10 -> (UInt8.ofNat (48 + d)).toNat = 48 + d := fun d hd => by simp;omega
  split at hb
  ·rename_i h
   obtain rfl : b = UInt8.ofNat (48 + n) := by simpa using hb
   rw [key n h];omega
  ·rename_i h
   rcases List.mem_append.1 hb with hb | hb
   ·exact Zde (n / 10) b hb
   ·obtain rfl : b = UInt8.ofNat (48 + n % 10) := by simpa using hb
    rw [key _ (Nat.mod_lt _ (by omega))];omega
 termination_by n => n
 decreasing_by omega
theorem Zdy : ∀ (l r : List UInt8) (acc n : Nat),Lib.decFrom acc l = some n -> Lib.decFrom acc (l ++ r) = Lib.decFrom n r
 | [],r,acc,n,h => by
  simp [Lib.decFrom] at h;subst h;rfl
 | b :: l,r,acc,n,h => by
  simp only [Lib.decFrom,List.cons_append] at h ⊢;cases hd : Lib.digitVal b with
  | none => rw [hd] at h;cases h
  | some d =>
   rw [hd] at h;simp only at h ⊢;exact Zdy l r _ n h
theorem Zpx (acc d : Nat) (b : UInt8) (h : Lib.digitVal b = some d) : Lib.decFrom acc [b] = some (acc * 10 + d) := by
 unfold Lib.decFrom;rw [h];rfl
theorem Zwo (n : Nat) : Lib.decDigits n ≠ [] := by
 rw [Lib.decDigits];split <;> simp
end
section
open Go.RowKit Go.Shelf Go.Lib Go.Maps
def SynAt (w : World) : Prop := ∃ ev,w.cell? ⟨15,0,none⟩ = some ev /\ (ev = .nilIface \/ ∃ te pe,ev = .iface te pe)
theorem SynAt.below {w w' : World} (h : SynAt w) (hb : Below w.heap.size w w') : SynAt w' := by
 obtain ⟨ev,h1,h2⟩ := h;exact ⟨ev,Zaa h1 hb,h2⟩
def numM (k : Nat) (d : List UInt8) : Option Nat :=
 if k < d.length then none else match Lib.atoi d with
  | some n => if 0 <= n /\ Lib.itoa n = d then some n.toNat else none
  | none => none
theorem Zvl (d : List UInt8) : Tf.numT d = numM 4 d := rfl
theorem Zhb {k : Nat} {d : List UInt8} {n : Nat} (h : numM k d = some n) : d.length <= k /\ Lib.atoi d = some (n : Int) /\ Lib.decDigits n = d := by
 unfold numM at h;split at h
 ·cases h
 rename_i h4
 split at h
 ·rename_i z hz
  split at h
  ·rename_i hc
   obtain ⟨h0,h1⟩ := hc;have e : z = (n : Int) := by
    have := Option.some.inj h;omega
   subst e;rw [Lib.itoa_nonneg] at h1;exact ⟨by omega,hz,h1⟩
  ·cases h
 ·cases h
theorem Zfp {d : List UInt8} {z : Int} (h : Lib.atoi d = some z) (h4 : d.length <= 4) : -100000 <= z /\ z <= 100000 := by
 obtain ⟨b0,r,rfl,hc⟩ := Lib.atoi_cases h;have key : ∀ (l : List UInt8) (m : Nat),l.length <= 4 -> Lib.decFrom 0 l = some m -> m < 100000 := fun l m hl hm => by
  have h1 := Lib.decFrom_lt l 0 m hm;have h2 : 10 ^ l.length <= 10 ^ 4 := Nat.pow_le_pow_right (by omega) hl
  omega
 have hr : r.length <= 4 := by simp at h4;omega
 rcases hc with ⟨_,m,_,hm,rfl⟩ | ⟨_,m,_,hm,rfl⟩ | ⟨_,_,m,hm,rfl⟩
 ·have := key _ m hr hm;omega
 ·have := key _ m hr hm;omega
 ·have := key _ m h4 hm;omega
theorem Zmu (k : Nat) (hk : k <= 4) (d : List UInt8) (n : Nat) (h : numM k d = some n) (hn : n <= 1000000) (w : World) (hP : Pow w) :
  Calls Tryz.prog 201 #[.string (ba d),.int .i64 k] w fun e w' => e = .returned (.tuple #[.int .i64 n,.bool true]) /\ Below w.heap.size w w' := by
 obtain ⟨h4,ha,hd⟩ := Zhb h;have HA : Hid (Calls Tryz.prog 277 #[.string (ba d)] w fun e w' => e = .returned (.tuple #[.int .i64 n,.nilIface]) /\ Below w.heap.size w w') :=
  (Tryz.strconv_Atoi (ba d) (n : Int) (by rw [Zam];omega) ha w).mono fun e w' ⟨h1,t,h2⟩ => ⟨h1,h2 ▸ Go.Joins.below_bytesWorld _ w 5 t (Nat.le_refl _)⟩
 have HI : Hid (∀ W,Below w.heap.size w W -> Calls Tryz.prog 98 #[.int .i64 n] W fun e w' => e = .returned (.string (ba d)) /\ Below W.heap.size W w') := fun W hW => by
  refine (Tryz.strconv_Itoa (n : Int) (by omega) (by omega) W (Zbu hP hW)).mono ?_
  rintro e w' ⟨rfl,k,os,rfl⟩;rw [Lib.itoa_nonneg,hd];exact ⟨rfl,Zds W k os⟩
 have z4 : (d.length : Int) <= (k : Int) := by omega
 have z0 : (0 : Int) <= (n : Int) := by omega
 clear h ha hd h4 hP;go_enter Tryz.func201,Tryz.ntmps201
 go_wp2_with fail;refine HA.out.mono ?_;rintro e w1 ⟨rfl,g1⟩;go_wp2_with fail;refine (HI.out w1 g1).mono ?_;rintro e w2 ⟨rfl,g2⟩;go_wp2;go_ret2;exact ⟨by first | rfl | simp,g1.trans (g2.mono g1.size)⟩
theorem Zxy (k : Nat) (hk : k <= 4) (d : List UInt8) (h : numM k d = none) (hd : d.length <= 1000000) (w : World) (hP : Pow w) (hS : SynAt w) :
  Calls Tryz.prog 201 #[.string (ba d),.int .i64 k] w fun e w' => e = .returned (.tuple #[.int .i64 0,.bool false]) /\ Below w.heap.size w w' := by
 by_cases h4 : k < d.length
 ·have z4 : (k : Int) < (d.length : Int) := by omega
  have zd : (d.length : Int) <= 1000000 := by omega
  clear h hP hS;go_enter Tryz.func201,Tryz.ntmps201
  go_wp2;go_ret2;exact ⟨rfl,Below.refl _ _⟩
 have z4 : (d.length : Int) <= (k : Int) := by omega
 cases ha : Lib.atoi d with
 | none =>
  obtain ⟨ev,hv,hev⟩ := hS;have HA : Hid (Calls Tryz.prog 277 #[.string (ba d)] w fun e w' => (∃ t v,e = .returned (.tuple #[.int .i64 0,.iface t v])) /\ Below w.heap.size w w') :=
   (Tryz.strconv_Atoi_err (ba d) (by rw [Zam];omega) ha ev w hv hev).mono fun e w' ⟨N,h1,_,_,h2⟩ => ⟨⟨_,_,h1⟩,h2⟩
  clear h hP ha hv hev h4;go_enter Tryz.func201,Tryz.ntmps201
  go_wp2_with fail;refine HA.out.mono ?_;rintro e w1 ⟨⟨t,v,rfl⟩,g1⟩;go_wp2;go_ret2;exact ⟨rfl,g1⟩
 | some z =>
  obtain ⟨hz0,hz1⟩ := Zfp ha (by omega)
  have HA : Hid (Calls Tryz.prog 277 #[.string (ba d)] w fun e w' => e = .returned (.tuple #[.int .i64 z,.nilIface]) /\ Below w.heap.size w w') :=
   (Tryz.strconv_Atoi (ba d) z (by rw [Zam];omega) ha w).mono fun e w' ⟨h1,t,h2⟩ => ⟨h1,h2 ▸ Go.Joins.below_bytesWorld _ w 5 t (Nat.le_refl _)⟩
  by_cases hz : 0 <= z
  ·have hne : (Lib.itoa z == d) = false := by
    unfold numM at h;rw [if_neg h4,ha] at h;simp only at h;split at h
    ·cases h
    ·rename_i hc
     simp
     exact fun e => hc ⟨hz,e⟩
   have HI : Hid (∀ W,Below w.heap.size w W -> Calls Tryz.prog 98 #[.int .i64 z] W fun e w' => e = .returned (.string (ba (Lib.itoa z))) /\ Below W.heap.size W w') := fun W hW => by
    refine (Tryz.strconv_Itoa z (by omega) (by omega) W (Zbu hP hW)).mono ?_
    rintro e w' ⟨rfl,k,os,rfl⟩;exact ⟨rfl,Zds W k os⟩
   generalize Lib.itoa z = y at *;clear h ha h4 hP hS;go_enter Tryz.func201,Tryz.ntmps201
   go_wp2_with fail;refine HA.out.mono ?_;rintro e w1 ⟨rfl,g1⟩;go_wp2_with fail;refine (HI.out w1 g1).mono ?_;rintro e w2 ⟨rfl,g2⟩;go_wp2;go_ret2;exact ⟨rfl,g1.trans (g2.mono g1.size)⟩
  ·have hz' : z < 0 := by omega
   clear h ha h4 hP hS hz;go_enter Tryz.func201,Tryz.ntmps201
   go_wp2_with fail;refine HA.out.mono ?_;rintro e w1 ⟨rfl,g1⟩;go_wp2;go_ret2;exact ⟨rfl,g1⟩
end
section
open Go.RowKit Go.Shelf Go.Lib
open Go.Sort (grow Holds putRow)
theorem Zpg (word out : ByteArray) (x : List UInt8) (f b g n cap : Nat) (w : World) (hb : w.cell? ⟨b,0,none⟩ = some (fn f)) (hx : w.cell? ⟨g,0,none⟩ = some (.string (ba x))) (hbl : b < w.heap.size) (hgl : g < w.heap.size) (hn : 1 <= n)
  (ef : ∀ args w,(callFunc f args).run Tryz.prog w = .ok (.enter f args) w)
  (HF : Hid (∀ W,Below w.heap.size w W -> Calls Tryz.prog f #[.string word,.string (ba x)] W fun e w' => e = .returned (.string out) /\ Below W.heap.size W w')) :
  Calls Tryz.prog 292 #[.string word,.slice (some ⟨g,0,none⟩) n cap,.pointer (some ⟨b,0,none⟩)] w fun e w' => e = .returned (.string out) /\ Below w.heap.size w w' := by
 have n0 : 0 < n := hn;go_enter Tryz.func292,Tryz.ntmps292
 go_wp2;go_region_held3 (fun w' => w'.cell? ⟨b,0,none⟩ = some (fn f) /\ w'.cell? ⟨g,0,none⟩ = some (.string (ba x))) (first | go_keep | fail)
  (first | (go_at_fn f;refine Calls.mono (HF.out _ (by exact (Below.refl _ w).drew)) ?_;rintro e w3 ⟨rfl,g3⟩;have e2 := (Zal g3 (j := 0) hbl).trans hb;have e3 := (Zal g3 (j := 0) hgl).trans hx))
 all_goals
  go_wp2;go_ret;exact ⟨rfl,Zab (Zad (Below.refl _ w) 1) g3⟩
theorem Zxv (wd : List UInt8) : wd.length <= 1000000 -> ∀ (w : World),Pow w -> SynAt w -> Calls Tryz.prog 201 #[.string (ba wd),.int .i64 3] w fun e w' => (∃ x : Int,e = .returned (.tuple #[.int .i64 x,.bool (numM 3 wd).isSome])) /\ Below w.heap.size w w' := fun hl w hP hS => by
 cases h : numM 3 wd with
 | none => exact (Zxy 3 (by omega) wd h hl w hP hS).mono fun e w' ⟨h1,h2⟩ => ⟨⟨0,h1⟩,h2⟩
 | some n =>
  obtain ⟨h4,ha,_⟩ := Zhb h;have := Zfp ha (by omega)
  exact (Zmu 3 (by omega) wd n h (by omega) w hP).mono fun e w' ⟨h1,h2⟩ => ⟨⟨n,h1⟩,h2⟩
theorem Znj (wd : List UInt8) (hl : wd.length <= 1000000) (w : World) (hP : Pow w) (hS : SynAt w) :
  Calls Tryz.prog 233 #[.string (ba wd)] w fun e w' => e = .returned (.bool (numM 3 wd).isSome) /\ Below w.heap.size w w' := by
 have HA := hid1 (Zxv wd hl w hP hS);generalize (numM 3 wd).isSome = r at *;clear hP hS;go_enter Tryz.func233,Tryz.ntmps233
 go_wp2_with fail;refine Calls.mono HA.out ?_;rintro e w1 ⟨⟨x,rfl⟩,g1⟩;go_wp2;go_ret;exact ⟨rfl,g1⟩
theorem Ztc (wd s : List UInt8) (n : Nat) (hn : numM 3 wd = some n) (hs : s.length <= 100000) (m : Int) (w : World) (hm : w.cell? ⟨14,0,none⟩ = some (.int .i64 m)) (hP : Pow w) :
  Calls Tryz.prog 234 #[.string (ba wd),.string (ba s)] w fun e w' => e = .returned (.string (ba (Af.told ((Af.lines s).take n)))) /\ Below w.heap.size w w' := by
 obtain ⟨h4,ha,_⟩ := Zhb hn;have hn1 := Zfp ha (by omega)
 have HA := hid1 (Zmu 3 (by omega) wd n hn (by omega) w hP)
 have HL := hid1 (fun W hW => Zcl s (by omega) m W (Zaa (w' := W) hm hW))
 have hlen : (Af.told ((Af.lines s).take n)).length <= 100000000 := by
  have h1 := Zaz (l := Af.lines s) n;have h2 := (Af.told_lines_len s).2;omega
 have hll := Af.lines_len s;generalize Af.lines s = L at *;have HT := hid1 (fun (v : Value) (W : World) (h : CRow W v (L.take n)) => Zdl v (L.take n) W h hlen)
 have hlt : (L.take n).length = min n L.length := by simp
 generalize Af.told (L.take n) = out at *;clear hn hm hP ha;go_enter Tryz.func234,Tryz.ntmps234
 go_wp2_with fail;refine Calls.mono HA.out ?_;rintro e w1 ⟨rfl,g1⟩;have HL1 := HL.out w1 g1;go_wp2_with fail;refine Calls.mono HL1 ?_;rintro e w2 ⟨v,rfl,⟨g,cap,cur,rfl,hg0,hcap,hblk,hcur⟩,g2⟩;have G2 := g1.trans (g2.mono g1.size);have hC : CRow w2 (.slice (some ⟨g,0,none⟩) (min n L.length) cap) (L.take n) := ⟨_,cap,by rw [hlt],fun k hk => ⟨g,rfl,(Array.getElem?_eq_some_iff.1 hblk).1,by
  have hk' : k < L.length := by rw [hlt] at hk;omega
  have := Zac hblk (hcur k hk');rw [List.getElem_take];exact this⟩⟩
 have HT2 := HT.out _ w2 hC;clear HL1 HL HT hC hcur hlt;have zn : (n : Int) <= 100000 := by omega
 have zl : (L.length : Int) <= 100000 := by omega
 have zc : (L.length : Int) <= (cap : Int) := by omega
 have hmin : min (n : Int) (L.length : Int) = ((min n L.length : Nat) : Int) := by omega
 have zm : ((min n L.length : Nat) : Int) <= (cap : Int) := by omega
 have zm2 : min n L.length <= cap := by omega
 have zm3 : (0 : Int) <= ((min n L.length : Nat) : Int) := by omega
 go_wp2_with fail;refine Calls.mono HT2 ?_;rintro e w3 ⟨rfl,g3⟩;go_wp2;go_ret;exact ⟨rfl,G2.trans (g3.mono G2.size)⟩
end
section
open Go.RowKit Go.Shelf Go.Lib
def Af.up (c : UInt8) : UInt8 := if 97 <= c.toNat /\ c.toNat <= 122 then UInt8.ofNat (c.toNat - 32) else c
def Af.upper (s : List UInt8) : List UInt8 := s.map Af.up
theorem wrap8 {n : Int} (h0 : 0 <= n) (h1 : n <= 255) : IntKind.u8.wrap n = n := by
 have e : IntKind.u8.wrap n = n % 256 := by
  simp [IntKind.wrap,IntKind.bits,IntKind.signed]
 rw [e];omega
theorem Zlz (l : List UInt8) : strOfNums (l.map fun c => (c.toNat : Int)) = ba l := by
 refine ba_eq ?_;rw [strOfNums_data,List.map_map];conv => rhs;rw [<- List.map_id l]
 exact List.map_congr_left fun c _ => by simp
theorem Zom (s : List UInt8) (hs : s.length <= 100000) (w : World) :
  Calls Tryz.prog 226 #[.string (ba s)] w fun e w' => e = .returned (.string (ba (Af.upper s))) /\ Below w.heap.size w w' := by
 have hconv := Lib.run_convert_string_bytes (P := Tryz.prog) w 9 152 5 (ba s) Tryz.underlying9 Tryz.underlying152 Tryz.underlying5;have hB : Below w.heap.size w (Lib.bytesWorld w 5 (ba s)) := Go.Joins.below_bytesWorld _ w 5 (ba s) (Nat.le_refl _);have hc : ∀ j (hj : j < s.length),(Lib.bytesWorld w 5 (ba s)).cell? ⟨w.heap.size,j,none⟩ = some (.int .u8 (s[j].toNat : Int)) := fun j hj => by
  rw [Lib.bytesWorld_cell _ _ _ _ (by rw [Zam];exact hj)]
  have : (ba s).data.toList.getD j 0 = s[j] := by
   show s.getD j 0 = s[j]
   simp [hj]
  rw [this]
 have hf : ∀ j,j < s.length -> (Lib.bytesWorld w 5 (ba s)).frozen? ⟨w.heap.size,j,none⟩ = false := fun j hj => by
  have hsz : s.length <= (Lib.bytesCells w 5 (ba s)).size := by
   have := Zam s;simp [Lib.bytesCells,ByteArray.size] at this ⊢
  simp [World.frozen?,Lib.bytesWorld_at_new];omega
 have hsz : ((ba s).size : Int) = (s.length : Int) := by rw [Zam]
 rw [Zam] at hconv;generalize grownCap w s.length 0 5 = cap at *;generalize Lib.bytesWorld w 5 (ba s) = W1 at *;have zs : (s.length : Int) <= 100000 := by omega
 go_enter Tryz.func226,Tryz.ntmps226
 go_wp2;go_loopw [10] (fun i wr => ∃ k : Nat,k <= s.length /\ i = .int .i64 k /\ (∀ j (hj : j < s.length),wr.cell? ⟨w.heap.size,j,none⟩ = some (.int .u8 ((if j < k then Af.up s[j] else s[j]).toNat : Int))) /\ (∀ j,j < s.length -> wr.frozen? ⟨w.heap.size,j,none⟩ = false) /\ Below w.heap.size w wr) (fun i _ => s.length - (intOf i).toNat)
 case atStart => exact ⟨0,Nat.zero_le _,rfl,fun j hj => by simpa using hc j hj,hf,hB⟩
 case round =>
  obtain ⟨k,hk,rfl,hck,hfk,hBk⟩ := hrel;by_cases hlt : k < s.length
  ·have c1 : (k : Int) < (s.length : Int) := by omega
   have c0 : (0 : Int) <= (k : Int) := by omega
   have hcell := hck k hlt;rw [if_neg (Nat.lt_irrefl k)] at hcell;have hfr := hfk k hlt;have HU : Hid (Af.up s[k] = (if 97 <= s[k].toNat /\ s[k].toNat <= 122 then UInt8.ofNat (s[k].toNat - 32) else s[k])) := rfl
   have hck' := hid1 hck;clear hck;have key : ∀ (W : World),(∀ j (hj : j < s.length),j ≠ k -> W.cell? ⟨w.heap.size,j,none⟩ = wr.cell? ⟨w.heap.size,j,none⟩) -> W.cell? ⟨w.heap.size,k,none⟩ = some (.int .u8 ((Af.up s[k]).toNat : Int)) ->
     ∀ j (hj : j < s.length),W.cell? ⟨w.heap.size,j,none⟩ = some (.int .u8 ((if j < k + 1 then Af.up s[j] else s[j]).toNat : Int)) := fun W h1 h2 j hj => by
    by_cases e : j = k
    ·subst e;rw [if_pos (by omega)]
     exact h2
    ·rw [h1 j hj e,hck'.out j hj];by_cases h3 : j < k
     ·rw [if_pos h3,if_pos (by omega)]
     ·rw [if_neg h3,if_neg (by omega)]
   have hkey := hid1 key;clear key;generalize hx : s[k] = x at *;have x0 : (0 : Int) <= (x.toNat : Int) := by omega
   have x1 : (x.toNat : Int) <= 255 := by have := x.toNat_lt;omega
   by_cases hlo : 97 <= x.toNat
   ·have d1 : decide ((97 : Int) <= (x.toNat : Int)) = true := decide_eq_true (by omega)
    by_cases hhi : x.toNat <= 122
    ·have d2 : decide ((x.toNat : Int) <= 122) = true := decide_eq_true (by omega)
     have y1 : IntKind.u8.wrap ((x.toNat : Int) - 97) = (x.toNat : Int) - 97 := wrap8 (by omega) (by omega)
     have y2 : IntKind.u8.wrap ((x.toNat : Int) - 97 + 65) = (x.toNat : Int) - 97 + 65 := wrap8 (by omega) (by omega)
     have hup : ((Af.up x).toNat : Int) = (x.toNat : Int) - 97 + 65 := by
      rw [HU.out,if_pos ⟨hlo,hhi⟩];simp
      omega
     have hne : ∀ j,j < s.length -> j ≠ k -> (wr.setCell ⟨w.heap.size,k,none⟩ (.int .u8 ((x.toNat : Int) - 97 + 65))).cell? ⟨w.heap.size,j,none⟩ = wr.cell? ⟨w.heap.size,j,none⟩ := fun j _ hj => World.cell?_setCell_other _ _ _ _ (fun e => hj (by cases e;rfl))
     have hsm : (wr.setCell ⟨w.heap.size,k,none⟩ (.int .u8 ((x.toNat : Int) - 97 + 65))).cell? ⟨w.heap.size,k,none⟩ = some (.int .u8 ((Af.up x).toNat : Int)) := by
      rw [hup];exact World.cell?_setCell_same' _ _ _ (by rw [hcell];rfl)
     have hall := hid1 (hkey.out _ hne hsm);clear hne hsm hkey hck' hup;go_wp2;refine ⟨⟨k + 1,by omega,by go_num,hall.out,fun j hj => ?_,hBk.setCell (p := ⟨w.heap.size,k,none⟩) (Nat.le_refl _) _⟩,by simp [intOf];omega⟩
     rw [World.frozen?_setCell];exact hfk j hj
    ·have d2 : decide ((x.toNat : Int) <= 122) = false := decide_eq_false (by omega)
     have hall := hid1 (hkey.out wr (fun _ _ _ => rfl) (by rw [HU.out,if_neg (by omega)];exact hcell))
     clear hkey hck';go_wp2;go_roundw
     case rel => exact ⟨k + 1,by omega,by go_num,hall.out,hfk,hBk⟩
     case measure => simp [intOf];omega
   ·have d1 : decide ((97 : Int) <= (x.toNat : Int)) = false := decide_eq_false (by omega)
    have hall := hid1 (hkey.out wr (fun _ _ _ => rfl) (by rw [HU.out,if_neg (by omega)];exact hcell))
    clear hkey hck';go_wp2;go_roundw
    case rel => exact ⟨k + 1,by omega,by go_num,hall.out,hfk,hBk⟩
    case measure => simp [intOf];omega
  ·have c1 : (s.length : Int) <= (k : Int) := by omega
   have hback := run_convert_bytes_arg (P := Tryz.prog) wr 152 5 Tryz.underlying152 Tryz.underlying5 w.heap.size 0 s.length cap ((Af.upper s).map fun c => (c.toNat : Int)) (by simp [Af.upper]) (fun i hi => by
    rw [Nat.zero_add,hck i hi,if_pos (by omega)]
    simp [Af.upper,hi]) 9 Tryz.underlying9
   rw [Zlz] at hback;clear hck hfk;go_wp2;go_ret;exact ⟨rfl,hBk⟩
end
end Go.Proofs.YtbgkfmodbofalaaGreatDoor
