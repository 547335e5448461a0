import Derived.Test.YtdljhggillgpfaaGreatDoorSA03
import Derived.Test.YtdljhggillgpfaaGreatDoorSA05
import Derived.Lib.SmallJoins
import Derived.Lib.ItoaLen
import Derived.Sort.Grow
import Derived.Lib.SlicesCompact
set_option maxRecDepth 100000
set_option maxHeartbeats 16000000
namespace Go.Proofs.YtdljhggillgpfaaGreatDoor
open Go.RowKit Go.Shelf Go.Lib Go.Maps
open Go.Sort (grow)
def TRow (w : World) (v : Value) (l : List (List UInt8)) : Prop :=
 ∃ p cap,v = .slice p l.length cap ∧ l.length ≤ cap ∧ (l ≠ [] → ∃ g cur,p = some ⟨g,0,none⟩ ∧ w.heap[g]? = some (.cells cur 9 (0,0)) ∧ ∀ j (hj : j < l.length),cur[j]? = some (.string (ba l[j])))
theorem TRow.of_owns {w : World} {base : Nat} {v : Value} {l : List (List UInt8)} {n : Nat} (h : w.ownsRow base 9 1 v n (l.map encStr)) : TRow w v l := by
 have hn : n = l.length := by have := h.1;simp at this;omega
 subst hn
 rcases h.2 with ⟨rfl,hn⟩ | ⟨g,cap,cur,rfl,_,hb,h1,_,_,h4⟩
 ·obtain rfl : l = [] := by simpa using hn
  exact ⟨none,0,rfl,Nat.le_refl _,fun h => absurd rfl h⟩
 ·refine ⟨_,cap,rfl,h1,fun _ => ⟨g,cur,rfl,hb,fun j hj => ?_⟩⟩
  have := congrArg (fun x => x[j]?) h4
  simp only [Nat.mul_one,List.getElem?_take,hj,if_true,List.getElem?_map,List.getElem?_eq_getElem hj,Option.map_some,Array.getElem?_toList] at this
  exact this
theorem TRow.below {w w' : World} {v : Value} {l : List (List UInt8)} (h : TRow w v l) (hb : Below w.heap.size w w') : TRow w' v l := by
 obtain ⟨p,cap,e,h0,h1⟩ := h
 refine ⟨p,cap,e,h0,fun hl => ?_⟩
 obtain ⟨g,cur,e,hg,hc⟩ := h1 hl
 exact ⟨g,cur,e,(hb.block g (Array.getElem?_eq_some_iff.1 hg).1).trans hg,hc⟩
theorem cell_of_row {w : World} {g j : Nat} {cur : Array Value} {t : TypeId} {fz : Nat × Nat} {x : Value} (hg : w.heap[g]? = some (.cells cur t fz)) (hc : cur[j]? = some x) : w.cell? ⟨g,j,none⟩ = some x := by
 simp [World.cell?,hg,hc]
theorem below_grow (w : World) (k : Nat) (os : Array Obj) : Below w.heap.size w (grow (w.drewN k) os) :=
 ⟨rfl,rfl,rfl,by simp [grow],fun i hi => by simp [grow,Array.getElem?_append_left hi]⟩
abbrev Pow (w : World) : Prop := Lib.TabIs Tryz.prog w "internal/strconv.uint64pow10" .u64 Lib.pow10Tab
theorem pow_below {w w' : World} (h : Pow w) (hb : Below w.heap.size w w') : Pow w' := Go.Joins.tab_stays (g := 16) (by kernel_rfl) h hb (Nat.le_refl _)
theorem digits_len (n : Nat) (h : n ≤ 100000) : (Lib.decDigits n).length ≤ 21 := by
 have := Lib.itoa_length_le (n : Int) (by omega) (by omega)
 rwa [Lib.itoa_nonneg] at this
end Go.Proofs.YtdljhggillgpfaaGreatDoor
namespace Go.Proofs.YtdljhggillgpfaaGreatDoor
open Go.RowKit Go.Shelf Go.Lib Go.Maps
theorem Byte_calls (n : Nat) (hn : n < 256) (w : World) : Calls Tryz.prog 30 #[.int .i64 n] w fun e w' => e = .returned (.string (ba [UInt8.ofNat n])) ∧ Below w.heap.size w w' := by
 have hk := (MapKept.heap_alloc w (.cells #[.int .u8 (n : Int)] 5)).1
 have hcv : (convert 98 9 (.slice (some ⟨w.heap.size,0,none⟩) 1 1)).run Tryz.prog (w.alloc (.cells #[.int .u8 (n : Int)] 5)) = .ok (.string (ba [UInt8.ofNat n])) (w.alloc (.cells #[.int .u8 (n : Int)] 5)) := run_convert_bytes_back (P := Tryz.prog) (w.alloc (.cells #[.int .u8 (n : Int)] 5)) 98 9 5 ⟨w.heap.size,0,none⟩ 1 [UInt8.ofNat n] Tryz.underlying98 Tryz.underlying5 Tryz.underlying9
  (fun j hj => by
   match j,hj with
   | 0,_ =>
    have e : ((UInt8.ofNat n).toNat : Int) = (n : Int) := by simp;omega
    show _ = some (Value.int .u8 ((UInt8.ofNat n).toNat : Int))
    rw [e]
    exact cell_of_row hk rfl)
 go_enter Tryz.func30,Tryz.ntmps30
 go_wp2
 go_ret
 exact ⟨rfl,(Below.refl _ w).alloc (Nat.le_refl _) _⟩
end Go.Proofs.YtdljhggillgpfaaGreatDoor
namespace Go.Proofs.YtdljhggillgpfaaGreatDoor
open Go.RowKit Go.Shelf Go.Lib
def IRow (w : World) (v : Value) (l : List (List UInt8)) : Prop :=
 ∃ p cap,v = .slice p l.length cap ∧ (l ≠ [] → ∃ g o,p = some ⟨g,o,none⟩ ∧ g < w.heap.size ∧ ∀ j (hj : j < l.length),w.cell? ⟨g,o + j,none⟩ = some (.string (ba l[j])))
theorem IRow.below {w w' : World} {v : Value} {l : List (List UInt8)} (h : IRow w v l) (hb : Below w.heap.size w w') : IRow w' v l := by
 obtain ⟨p,cap,e,h1⟩ := h
 refine ⟨p,cap,e,fun hl => ?_⟩
 obtain ⟨g,o,e,hg,hc⟩ := h1 hl
 exact ⟨g,o,e,Nat.lt_of_lt_of_le hg hb.size,fun j hj => (hb.cell (p := ⟨g,o + j,none⟩) hg).trans (hc j hj)⟩
def XRow (w : World) (v : Value) (l : List (List UInt8)) : Prop :=
 ∃ p cap,v = .slice p l.length cap ∧ l.length ≤ cap ∧ (p = none → cap = 0) ∧ (l ≠ [] → ∃ g o,p = some ⟨g,o,none⟩ ∧ g < w.heap.size ∧ ∀ j (hj : j < l.length),w.cell? ⟨g,o + j,none⟩ = some (.string (ba l[j])))
theorem XRow.below {w w' : World} {v : Value} {l : List (List UInt8)} (h : XRow w v l) (hb : Below w.heap.size w w') : XRow w' v l := by
 obtain ⟨p,cap,e,h0,hn,h1⟩ := h
 refine ⟨p,cap,e,h0,hn,fun hl => ?_⟩
 obtain ⟨g,o,e,hg,hc⟩ := h1 hl
 exact ⟨g,o,e,Nat.lt_of_lt_of_le hg hb.size,fun j hj => (hb.cell (p := ⟨g,o + j,none⟩) hg).trans (hc j hj)⟩
theorem XRow.irow {w : World} {v : Value} {l : List (List UInt8)} (h : XRow w v l) : IRow w v l := by
 obtain ⟨p,cap,e,_,_,h1⟩ := h
 exact ⟨p,cap,e,h1⟩
theorem XRow.nil (w : World) : XRow w (.slice none 0 0) [] := ⟨none,0,rfl,Nat.le_refl _,fun _ => rfl,fun h => absurd rfl h⟩
theorem XRow.of_owns {w : World} {base : Nat} {v : Value} {l : List (List UInt8)} {n : Nat} (h : w.ownsRow base 9 1 v n (l.map sv)) : XRow w v l := by
 have hn : n = l.length := by have := h.1;simp at this;omega
 subst hn
 rcases h.2 with ⟨rfl,hn⟩ | ⟨g,cap,cur,rfl,_,hb,h1,_,_,h4⟩
 ·obtain rfl : l = [] := by simpa using hn
  exact XRow.nil w
 ·refine ⟨_,cap,rfl,h1,fun h => (by cases h),fun _ => ⟨g,0,rfl,(Array.getElem?_eq_some_iff.1 hb).1,fun j hj => ?_⟩⟩
  have := congrArg (fun x => x[j]?) h4
  simp only [Nat.mul_one,List.getElem?_take,hj,if_true,List.getElem?_map,List.getElem?_eq_getElem hj,Option.map_some,Array.getElem?_toList] at this
  rw [Nat.zero_add]
  exact cell_of_row hb this
theorem one_sv {l : List (List UInt8)} : ∀ u ∈ l.map sv,u.oneCell' = true := fun u hu => by
 obtain ⟨z,_,rfl⟩ := List.mem_map.1 hu
 rfl
theorem add_at2 (g k j : Nat) : (⟨g,k,none⟩ : Addr).add j = ⟨g,k + j,none⟩ := by
 by_cases h0 : j = 0 <;> simp [Addr.add,h0]
end Go.Proofs.YtdljhggillgpfaaGreatDoor
namespace Go.Proofs.YtdljhggillgpfaaGreatDoor
open Go.RowKit Go.Shelf Go.Lib
structure Ru where
 out : List UInt8
 kind : List UInt8
 word : List UInt8
 ins : List (List UInt8)
namespace Ru
def firstFrom (c : Nat → Nat) : Nat → Nat → Option Nat
 | _,0 => none
 | k,n + 1 => if c k = 0 then firstFrom c (k + 1) n else some k
def first (c : Nat → Nat) (n : Nat) : Option Nat := firstFrom c 0 n
def firstC (c : Nat → Nat) (n : Nat) : Nat := match first c n with | some k => c k | none => 0
theorem firstFrom_none {c : Nat → Nat} : ∀ {n k : Nat},(∀ j,k ≤ j → j < k + n → c j = 0) → firstFrom c k n = none
 | 0,_,_ => rfl
 | n + 1,k,h => by
  unfold firstFrom
  rw [if_pos (h k (Nat.le_refl _) (by omega))]
  exact firstFrom_none fun j h1 h2 => h j (by omega) (by omega)
theorem firstFrom_some {c : Nat → Nat} {m : Nat} : ∀ {n k : Nat},k ≤ m → m < k + n → c m ≠ 0 → (∀ j,k ≤ j → j < m → c j = 0) → firstFrom c k n = some m
 | 0,_,h1,h2,_,_ => by omega
 | n + 1,k,h1,h2,hc,h => by
  unfold firstFrom
  by_cases e : k = m
  ·subst e
   rw [if_neg hc]
  ·rw [if_pos (h k (Nat.le_refl _) (by omega))]
   exact firstFrom_some (by omega) (by omega) hc fun j h1 h2 => h j (by omega) h2
theorem first_none {c : Nat → Nat} {n : Nat} (h : ∀ j,j < n → c j = 0) : first c n = none := firstFrom_none fun j _ h2 => h j (by omega)
theorem first_some {c : Nat → Nat} {n m : Nat} (hm : m < n) (hc : c m ≠ 0) (h : ∀ j,j < m → c j = 0) : first c n = some m := firstFrom_some (Nat.zero_le _) (by omega) hc fun j _ h2 => h j h2
theorem firstFrom_none_zero {c : Nat → Nat} : ∀ {n k : Nat},firstFrom c k n = none → ∀ j,k ≤ j → j < k + n → c j = 0
 | 0,_,_,j,h1,h2 => by omega
 | n + 1,k,h,j,h1,h2 => by
  unfold firstFrom at h
  split at h
  ·rename_i h0
   by_cases e : j = k
   ·rw [e];exact h0
   ·exact firstFrom_none_zero h j (by omega) (by omega)
  ·cases h
theorem firstFrom_some_ne {c : Nat → Nat} {m : Nat} : ∀ {n k : Nat},firstFrom c k n = some m → c m ≠ 0
 | 0,_,h => by cases h
 | n + 1,k,h => by
  unfold firstFrom at h
  split at h
  ·exact firstFrom_some_ne h
  ·rename_i h0
   rw [← Option.some.inj h]
   exact h0
theorem first_none_zero {c : Nat → Nat} {n : Nat} (h : first c n = none) (j : Nat) (hj : j < n) : c j = 0 := firstFrom_none_zero h j (Nat.zero_le _) (by omega)
theorem first_some_ne {c : Nat → Nat} {n m : Nat} (h : first c n = some m) : c m ≠ 0 := firstFrom_some_ne h
theorem firstC_none {c : Nat → Nat} {n : Nat} (h : ∀ j,j < n → c j = 0) : firstC c n = 0 := by unfold firstC;rw [first_none h]
theorem firstC_some {c : Nat → Nat} {n m : Nat} (hm : m < n) (hc : c m ≠ 0) (h : ∀ j,j < m → c j = 0) : firstC c n = c m := by unfold firstC;rw [first_some hm hc h]
theorem firstC_zero {c : Nat → Nat} {n : Nat} (h : firstC c n = 0) (j : Nat) (hj : j < n) : c j = 0 := by
 unfold firstC at h
 cases hf : first c n with
 | none => exact first_none_zero hf j hj
 | some k =>
  rw [hf] at h
  exact absurd h (first_some_ne hf)
theorem firstC_const {c : Nat → Nat} {n d : Nat} (h : ∀ j,c j = 0 ∨ c j = d) : firstC c n = 0 ∨ firstC c n = d := by
 unfold firstC
 split
 ·exact h _
 ·exact .inl rfl
structure Small (r : Ru) : Prop where
 out : r.out.length ≤ 100
 kind : r.kind.length ≤ 60
 word : r.word.length ≤ 150
 many : r.ins.length ≤ 12
 ins : ∀ x ∈ r.ins,x.length ≤ 300
end Ru
abbrev ruV (r : Ru) (v : Value) : Value := .agg #[.string (ba r.out),.string (ba r.kind),.string (ba r.word),v]
def RuAt (w : World) (g o : Nat) (r : Ru) : Prop :=
 w.cell? ⟨g,o,none⟩ = some (.string (ba r.out)) ∧ w.cell? ⟨g,o + 1,none⟩ = some (.string (ba r.kind)) ∧ w.cell? ⟨g,o + 2,none⟩ = some (.string (ba r.word)) ∧ ∃ v,w.cell? ⟨g,o + 3,none⟩ = some v ∧ XRow w v r.ins
theorem RuAt.below {w w' : World} {g o : Nat} {r : Ru} (h : RuAt w g o r) (hb : Below w.heap.size w w') : RuAt w' g o r := by
 obtain ⟨h0,h1,h2,v,h3,h4⟩ := h
 exact ⟨cell_below' h0 hb,cell_below' h1 hb,cell_below' h2 hb,v,cell_below' h3 hb,h4.below hb⟩
def RRow (w : World) (v : Value) (l : List Ru) : Prop :=
 ∃ p cap,v = .slice p l.length cap ∧ l.length ≤ cap ∧ (p = none → cap = 0) ∧ (l ≠ [] → ∃ g o,p = some ⟨g,o,none⟩ ∧ g < w.heap.size ∧ ∀ j (hj : j < l.length),RuAt w g (o + j * 4) l[j])
theorem RRow.below {w w' : World} {v : Value} {l : List Ru} (h : RRow w v l) (hb : Below w.heap.size w w') : RRow w' v l := by
 obtain ⟨p,cap,e,h0,hn,h1⟩ := h
 refine ⟨p,cap,e,h0,hn,fun hl => ?_⟩
 obtain ⟨g,o,e,hg,hc⟩ := h1 hl
 exact ⟨g,o,e,Nat.lt_of_lt_of_le hg hb.size,fun j hj => (hc j hj).below hb⟩
theorem RRow.nil (w : World) : RRow w (.slice none 0 0) [] := ⟨none,0,rfl,Nat.le_refl _,fun _ => rfl,fun h => absurd rfl h⟩
end Go.Proofs.YtdljhggillgpfaaGreatDoor
namespace Go.Proofs.YtdljhggillgpfaaGreatDoor
open Go.RowKit Go.Shelf Go.Lib
theorem ba_bytes (b : ByteArray) : ∃ l : List UInt8,b = ba l ∧ l.length = b.size := ⟨b.data.toList,by cases b;rfl,rfl⟩
theorem append_bytes (a b : ByteArray) : (a ++ b).size = a.size + b.size := by simp
theorem swapped_calls (s : List UInt8) (hs : s.length ≤ 1000000) (w : World) :
  Calls Tryz.prog 22 #[.string (ba s),.int .u8 10,.int .u8 59] w fun e w' => ∃ t : ByteArray,e = .returned (.string t) ∧ t.size = s.length ∧ Below w.heap.size w w' := by
 obtain ⟨bs,eb,T⟩ := txt s
 rw [eb]
 have HSz : Hid (bs.size = s.length) := hid1 T.size
 clear eb
 have HB := hid1 fun (V : World) => Byte_calls 59 (by omega) V
 go_enter Tryz.func22,Tryz.ntmps22
 go_wp2
 go_loopw [7,8] (fun tv iv wr => ∃ (k : Nat) (t : ByteArray),k ≤ s.length ∧ iv = .int .i64 k ∧ tv = .string t ∧ t.size = k ∧ Below w.heap.size w wr) (fun _ iv _ => s.length - (intOf iv).toNat)
 case atStart => exact ⟨0,⟨#[]⟩,Nat.zero_le _,rfl,rfl,rfl,Below.refl _ _⟩
 case round =>
  obtain ⟨k,t,hk,rfl,rfl,ht,gB⟩ := hrel
  have HT := hid1 ht
  have k0 : (0 : Int) ≤ (k : Int) := by omega
  clear ht
  by_cases hlt : k < s.length
  ·have hlt2 : k < bs.size := by rw [HSz.out];exact hlt
   have hsl : ∀ W : World,(Instr.slice 9 (.string bs) (some (.int .i64 (k : Int))) (some (.int .i64 ((k : Int) + 1))) none).run Tryz.prog W = .ok (.string (bs.extract k (k + 1))) W := fun W => by
    rw [run_slice_string (P := Tryz.prog) W 9 bs .i64 .i64 _ _ Tryz.underlying9 (by omega) (by omega) (by omega)]
    rfl
   have k1 : (k : Int) < (bs.size : Int) := by omega
   have HB2 := hid1 (HB.out wr)
   have HE : Hid (∀ u : ByteArray,u.size = 1 → (t ++ u).size = k + 1) := hid1 fun u hu => by rw [append_bytes,HT.out,hu]
   have HX : Hid ((bs.extract k (k + 1)).size = 1) := hid1 (by rw [ByteArray.size_extract];omega)
   have hl : k + 1 ≤ s.length := hlt
   have ht1 : ¬ 9223372036854775807 < t.size + 1 := by rw [HT.out];omega
   have hxe := HX.out
   by_cases hc : ((bs[k].toNat : Int) == 10) = true
   ·go_wp2_with fail
    refine HB2.out.mono ?_
    rintro e w1 ⟨rfl,g1⟩
    have HF := hid1 (below_then gB g1)
    go_wp2
    exact ⟨⟨k + 1,_,hl,by go_num,rfl,HE.out (ba [59]) (by rfl),HF.out⟩,by simp [intOf];omega⟩
   ·have hc' : ((bs[k].toNat : Int) == 10) = false := by simpa using hc
    clear hc
    go_wp2
    exact ⟨⟨k + 1,_,hl,by go_num,rfl,HE.out _ HX.out,gB⟩,by simp [intOf];omega⟩
  ·have k1 : (bs.size : Int) ≤ (k : Int) := by rw [HSz.out];omega
   go_wp2
   go_ret
   exact ⟨t,rfl,by have := HSz.out;have := HT.out;omega,gB⟩
end Go.Proofs.YtdljhggillgpfaaGreatDoor
namespace Go.Proofs.YtdljhggillgpfaaGreatDoor
open Go.RowKit Go.Shelf Go.Lib
theorem sz0 : (⟨#[]⟩ : ByteArray).size = 0 := rfl
theorem sz1 (a : UInt8) : (⟨#[a]⟩ : ByteArray).size = 1 := rfl
theorem sz2 (a b : UInt8) : (⟨#[a,b]⟩ : ByteArray).size = 2 := rfl
theorem sz3 (a b c : UInt8) : (⟨#[a,b,c]⟩ : ByteArray).size = 3 := rfl
theorem SheetText1_calls {w : World} (g c : Nat) (r : Ru) (hr : RuAt w g 0 r) (hs : r.Small) :
  Calls Tryz.prog 23 #[.slice (some ⟨g,0,none⟩) 1 c] w fun e w' => ∃ t : ByteArray,e = .returned (.string t) ∧ 1 ≤ t.size ∧ t.size ≤ 6000 ∧ Below w.heap.size w w' := by
 obtain ⟨r0,r1,r2,iv,r3,hx⟩ := hr
 obtain ⟨h0,h1,h2,h3,h4⟩ := hs
 obtain ⟨bo,ebo⟩ : ∃ bo,ba r.out = bo := ⟨_,rfl⟩
 obtain ⟨bk,ebk⟩ : ∃ bk,ba r.kind = bk := ⟨_,rfl⟩
 obtain ⟨bw,ebw⟩ : ∃ bw,ba r.word = bw := ⟨_,rfl⟩
 have z0 : bo.size ≤ 100 := by rw [← ebo,ba_size];exact h0
 have z1 : bk.size ≤ 60 := by rw [← ebk,ba_size];exact h1
 have z2 : bw.size ≤ 150 := by rw [← ebw,ba_size];exact h2
 rw [ebo] at r0
 rw [ebk] at r1
 rw [ebw] at r2
 obtain ⟨pi,ci,rfl,-,-,hin⟩ := hx
 have HI := hid1 hin
 have H4 := hid1 h4
 generalize r.ins = l at *
 have zl : (l.length : Int) ≤ 12 := by omega
 clear ebo ebk ebw h0 h1 h2 h4 hin r
 go_enter Tryz.func23,Tryz.ntmps23
 go_wp2
 go_loopw [3,4] (fun tv kv wr => (kv = .int .i64 0 ∧ tv = .string ⟨#[]⟩ ∧ w = wr) ∨ (kv = .int .i64 1 ∧ ∃ t : ByteArray,tv = .string t ∧ 1 ≤ t.size ∧ t.size ≤ 6000 ∧ w.drew = wr)) (fun _ kv _ => 1 - (intOf kv).toNat)
 case atStart => exact .inl ⟨rfl,rfl,rfl⟩
 case round =>
  rcases hrel with ⟨rfl,rfl,rfl⟩ | ⟨rfl,t,rfl,ht1,ht2,rfl⟩
  ·by_cases hw : bw.toList.isEmpty = true
   ·go_wp2
    go_region
    have r2' : w.drew.cell? ⟨g,0 + 2,none⟩ = some (.string bw) := r2
    have r3' : w.drew.cell? ⟨g,0 + 3,none⟩ = some (.slice pi l.length ci) := r3
    obtain ⟨w9,hw9⟩ : ∃ w9,w.drew = w9 := ⟨_,rfl⟩
    replace HI : Hid (l ≠ [] → ∃ g o,pi = some ⟨g,o,none⟩ ∧ ∀ j (hj : j < l.length),w9.cell? ⟨g,o + j,none⟩ = some (.string (ba l[j]))) := hid1 fun h => by
     obtain ⟨g1,o1,e1,-,h1⟩ := HI.out h
     exact ⟨g1,o1,e1,fun j hj => by rw [← hw9];exact h1 j hj⟩
    rw [hw9] at r2' r3' ⊢
    have HW9 := hid1 hw9
    clear r0 r1 r2 r3 hw9
    go_wp2
    go_loopw [3,7] (fun tv kv wr => w9 = wr ∧ ∃ (t : ByteArray) (k : Nat),k ≤ l.length ∧ kv = .int .i64 k ∧ tv = .string t ∧ t.size ≤ 700 + 301 * k) (fun _ kv _ => l.length - (intOf kv).toNat)
    case atStart => exact ⟨rfl,_,0,Nat.zero_le _,rfl,rfl,by simp only [append_bytes,sz3,sz0];omega⟩
    case round =>
     obtain ⟨rfl,t,k,hk,rfl,rfl,ht⟩ := hrel
     have k0 : (0 : Int) ≤ (k : Int) := by omega
     by_cases hlt : k < l.length
     ·have k1 : (k : Int) < (l.length : Int) := by omega
      obtain ⟨gi,oi,rfl,hci⟩ := HI.out (by intro e;rw [e] at hlt;simp at hlt)
      have dk := hci k hlt
      have hx3 := H4.out _ (List.getElem_mem hlt)
      obtain ⟨bx,ebx⟩ : ∃ bx,ba l[k] = bx := ⟨_,rfl⟩
      have hbx : bx.size ≤ 300 := by rw [← ebx,ba_size];exact hx3
      rw [ebx] at dk
      have HT := hid1 (And.intro ht hbx)
      have p1 : ¬ 9223372036854775807 < t.size + 1 := by omega
      have p2 : ¬ 9223372036854775807 < t.size + 1 + bx.size := by omega
      clear ebx hx3 hci HI H4 ht hbx
      go_wp2
      exact ⟨⟨by trivial,_,k + 1,by omega,by go_num,rfl,by have := HT.out;simp only [append_bytes,sz1];omega⟩,by simp [intOf];omega⟩
     ·have k1 : (l.length : Int) ≤ (k : Int) := by omega
      have HT := hid1 ht
      have p1 : ¬ 9223372036854775807 < t.size + 1 := by omega
      clear HI H4 ht
      go_wp2
      exact ⟨.inr ⟨by go_num,_,rfl,by simp only [append_bytes,sz1];omega,by have := HT.out;simp only [append_bytes,sz1];omega,HW9.out⟩,by simp [intOf]⟩
   ·have hw' : bw.toList.isEmpty = false := by simpa using hw
    clear hw
    go_wp2
    go_region
    have r2' : w.drew.cell? ⟨g,0 + 2,none⟩ = some (.string bw) := r2
    have r3' : w.drew.cell? ⟨g,0 + 3,none⟩ = some (.slice pi l.length ci) := r3
    obtain ⟨w9,hw9⟩ : ∃ w9,w.drew = w9 := ⟨_,rfl⟩
    replace HI : Hid (l ≠ [] → ∃ g o,pi = some ⟨g,o,none⟩ ∧ ∀ j (hj : j < l.length),w9.cell? ⟨g,o + j,none⟩ = some (.string (ba l[j]))) := hid1 fun h => by
     obtain ⟨g1,o1,e1,-,h1⟩ := HI.out h
     exact ⟨g1,o1,e1,fun j hj => by rw [← hw9];exact h1 j hj⟩
    rw [hw9] at r2' r3' ⊢
    have HW9 := hid1 hw9
    clear r0 r1 r2 r3 hw9
    go_wp2
    go_loopw [3,6] (fun tv kv wr => w9 = wr ∧ ∃ (t : ByteArray) (k : Nat),k ≤ bw.size ∧ kv = .int .i64 k ∧ tv = .string t ∧ t.size ≤ 200 + 2 * k) (fun _ kv _ => bw.size - (intOf kv).toNat)
    case atStart => exact ⟨rfl,_,0,Nat.zero_le _,rfl,rfl,by simp only [append_bytes,sz2,sz3,sz0];omega⟩
    case round =>
     obtain ⟨rfl,t,k,hk,rfl,rfl,ht⟩ := hrel
     have k0 : (0 : Int) ≤ (k : Int) := by omega
     have HT := hid1 ht
     have p1 : ¬ 9223372036854775807 < t.size + 1 := by omega
     have p2 : ¬ 9223372036854775807 < t.size + 1 + 1 := by omega
     have p3 : ¬ 9223372036854775807 < t.size + 2 := by omega
     clear ht
     by_cases hlt : k < bw.size
     ·have k1 : (k : Int) < (bw.size : Int) := by omega
      have hsl : ∀ W : World,(Instr.slice 9 (.string bw) (some (.int .i64 (k : Int))) (some (.int .i64 ((k : Int) + 1))) none).run Tryz.prog W = .ok (.string (bw.extract k (k + 1))) W := fun W => by
       rw [run_slice_string (P := Tryz.prog) W 9 bw .i64 .i64 _ _ Tryz.underlying9 (by omega) (by omega) (by omega)]
       rfl
      have hxe : (bw.extract k (k + 1)).size = 1 := by rw [ByteArray.size_extract];omega
      have HX := hid1 hxe
      have hl : k + 1 ≤ bw.size := hlt
      clear HI H4
      go_wp2
      all_goals exact ⟨⟨by trivial,_,k + 1,hl,by go_num,rfl,by have := HT.out;have := HX.out;simp only [append_bytes,sz1,sz2,HX.out];omega⟩,by simp [intOf];omega⟩
     ·have k1 : (bw.size : Int) ≤ (k : Int) := by omega
      have hkl : k ≤ 150 := by omega
      go_wp2
      go_loopw [3,7] (fun tv kv wr => w9 = wr ∧ ∃ (t : ByteArray) (k : Nat),k ≤ l.length ∧ kv = .int .i64 k ∧ tv = .string t ∧ t.size ≤ 700 + 301 * k) (fun _ kv _ => l.length - (intOf kv).toNat)
      case atStart => exact ⟨rfl,_,0,Nat.zero_le _,rfl,rfl,by have := HT.out;simp only [append_bytes,sz1];omega⟩
      case round =>
       obtain ⟨rfl,t,k,hk,rfl,rfl,ht⟩ := hrel
       have k0 : (0 : Int) ≤ (k : Int) := by omega
       by_cases hlt : k < l.length
       ·have k1 : (k : Int) < (l.length : Int) := by omega
        obtain ⟨gi,oi,rfl,hci⟩ := HI.out (by intro e;rw [e] at hlt;simp at hlt)
        have dk := hci k hlt
        have hx3 := H4.out _ (List.getElem_mem hlt)
        obtain ⟨bx,ebx⟩ : ∃ bx,ba l[k] = bx := ⟨_,rfl⟩
        have hbx : bx.size ≤ 300 := by rw [← ebx,ba_size];exact hx3
        rw [ebx] at dk
        have HT := hid1 (And.intro ht hbx)
        have p1 : ¬ 9223372036854775807 < t.size + 1 := by omega
        have p2 : ¬ 9223372036854775807 < t.size + 1 + bx.size := by omega
        clear ebx hx3 hci HI H4 ht hbx
        go_wp2
        exact ⟨⟨by trivial,_,k + 1,by omega,by go_num,rfl,by have := HT.out;simp only [append_bytes,sz1];omega⟩,by simp [intOf];omega⟩
       ·have k1 : (l.length : Int) ≤ (k : Int) := by omega
        have HT := hid1 ht
        have p1 : ¬ 9223372036854775807 < t.size + 1 := by omega
        clear HI H4 ht
        go_wp2
        exact ⟨.inr ⟨by go_num,_,rfl,by simp only [append_bytes,sz1];omega,by have := HT.out;simp only [append_bytes,sz1];omega,HW9.out⟩,by simp [intOf]⟩
  ·go_wp2
   go_ret
   exact ⟨t,rfl,ht1,ht2,(Below.refl _ w).drew⟩
end Go.Proofs.YtdljhggillgpfaaGreatDoor
namespace Go.Proofs.YtdljhggillgpfaaGreatDoor
open Go.RowKit Go.Shelf Go.Lib
namespace Af
def lines : List UInt8 → List (List UInt8)
 | [] => []
 | c :: r => if c = 10 then [] :: lines r else match lines r with
  | [] => [[c]]
  | p :: ps => (c :: p) :: ps
def told (l : List (List UInt8)) : List UInt8 := l.flatMap fun x => x ++ [10]
def all (l : List (List UInt8)) : List (List UInt8) := l.flatMap lines
def srt (l : List (List UInt8)) : List (List UInt8) := l.mergeSort fun x y => decide (x ≤ y)
theorem cut_lines (s : List UInt8) : cutB 10 s = (if s = [] then [[]] else if s.getLast? = some 10 then lines s ++ [[]] else lines s) := by
 induction s with
 | nil => rfl
 | cons c r ih =>
  rw [if_neg (List.cons_ne_nil c r)]
  by_cases hr : r = []
  ·subst hr
   by_cases hc : c = 10 <;> simp [hc,cutB,lines]
  ·rw [if_neg hr] at ih
   have hg : (c :: r).getLast? = r.getLast? := by
    cases r with
    | nil => exact absurd rfl hr
    | cons x y => exact List.getLast?_cons_cons
   rw [hg]
   have hl : lines r ≠ [] := by
    cases r with
    | nil => exact absurd rfl hr
    | cons x y =>
     unfold lines
     split
     ·simp
     ·split <;> simp
   by_cases hc : c = 10
   ·simp only [cutB,lines,if_pos hc,ih]
    split <;> simp
   ·simp only [cutB,lines,if_neg hc]
    by_cases h10 : r.getLast? = some 10
    ·rw [if_pos h10] at ih
     simp only [ih,if_pos h10]
     cases hL : lines r with
     | nil => exact absurd hL hl
     | cons p ps => simp
    ·rw [if_neg h10] at ih
     simp only [ih,if_neg h10]
     cases lines r <;> rfl
theorem lines_ne {s : List UInt8} (h : s ≠ []) : lines s ≠ [] := by
 cases s with
 | nil => exact absurd rfl h
 | cons x y =>
  unfold lines
  split
  ·simp
  ·split <;> simp
theorem lines_last : ∀ {s : List UInt8},s ≠ [] → s.getLast? ≠ some 10 → ∃ o l,lines s = o ++ [l] ∧ l ≠ []
 | [],h,_ => absurd rfl h
 | [c],_,h1 => by
  have hc : c ≠ 10 := by simpa using h1
  exact ⟨[],[c],by simp [lines,hc],by simp⟩
 | c :: x :: r,_,h1 => by
  obtain ⟨o,l,e,hl⟩ := lines_last (s := x :: r) (by simp) (by simpa using h1)
  unfold lines
  rw [e]
  by_cases hc : c = 10
  ·exact ⟨[] :: o,l,by simp [hc],hl⟩
  ·cases o with
   | nil => exact ⟨[],c :: l,by simp [hc],by simp⟩
   | cons p ps => exact ⟨(c :: p) :: ps,l,by simp [hc],hl⟩
theorem lines_of_cut (s : List UInt8) : ∃ o l,cutB 10 s = o ++ [l] ∧ lines s = (if l = [] then o else o ++ [l]) := by
 by_cases hs : s = []
 ·subst hs
  exact ⟨[],[],rfl,rfl⟩
 ·by_cases h1 : s.getLast? = some 10
  ·exact ⟨lines s,[],by rw [cut_lines,if_neg hs,if_pos h1],by simp⟩
  ·obtain ⟨o,l,e,hl⟩ := lines_last hs h1
   exact ⟨o,l,by rw [cut_lines,if_neg hs,if_neg h1,e],by rw [if_neg hl,e]⟩
theorem told_len : ∀ (l : List (List UInt8)),(told l).length = (l.map fun x => x.length + 1).sum
 | [] => rfl
 | x :: r => by
  have e : told (x :: r) = x ++ 10 :: told r := by simp [told]
  rw [e,List.length_append,List.length_cons,told_len r,List.map_cons,List.sum_cons]
  omega
theorem told_lines : ∀ (s : List UInt8),told (lines s) = s ∨ told (lines s) = s ++ [10]
 | [] => .inl rfl
 | c :: r => by
  have ih := told_lines r
  unfold lines
  by_cases hc : c = 10
  ·rw [if_pos hc]
   have e : told ([] :: lines r) = 10 :: told (lines r) := by simp [told]
   rw [e,hc]
   rcases ih with ih | ih <;> rw [ih] <;> simp
  ·rw [if_neg hc]
   cases hL : lines r with
   | nil =>
    have hr : r = [] := Classical.byContradiction fun h => lines_ne h hL
    subst hr
    right
    simp [told]
   | cons p ps =>
    rw [hL] at ih
    have e : told ((c :: p) :: ps) = c :: told (p :: ps) := by simp [told]
    simp only [e]
    rcases ih with ih | ih <;> rw [ih] <;> simp
theorem told_lines_len (s : List UInt8) : s.length ≤ (told (lines s)).length ∧ (told (lines s)).length ≤ s.length + 1 := by
 rcases told_lines s with h | h <;> rw [h] <;> simp
theorem lines_len (s : List UInt8) : (lines s).length ≤ s.length := by
 induction s with
 | nil => simp [lines]
 | cons c r ih =>
  unfold lines
  split
  ·simp;omega
  ·split
   ·simp
   ·next h => rw [h] at ih;simp at ih ⊢;omega
theorem mem_le_sum : ∀ {l : List Nat} {n : Nat},n ∈ l → n ≤ l.sum
 | [],_,h => by simp at h
 | x :: r,n,h => by
  rw [List.sum_cons]
  rcases List.mem_cons.1 h with rfl | h
  ·omega
  ·have := mem_le_sum h
   omega
theorem line_len {s x : List UInt8} (h : x ∈ lines s) : x.length ≤ s.length := by
 have h2 : x.length + 1 ≤ (told (lines s)).length := by
  rw [told_len]
  have : x.length + 1 ∈ (lines s).map fun x => x.length + 1 := List.mem_map.2 ⟨x,h,rfl⟩
  exact mem_le_sum this
 have := told_lines_len s
 omega
theorem srt_perm (l : List (List UInt8)) : (srt l).Perm l := List.mergeSort_perm _ _
theorem srt_sorted (l : List (List UInt8)) : (srt l).Pairwise (fun x y => x ≤ y) := by
 have := List.pairwise_mergeSort (le := fun (x y : List UInt8) => decide (x ≤ y)) (by intro a b c h1 h2;simp at *;exact List.le_trans h1 h2) (by intro a b;simp;exact List.le_total a b) l
 exact this.imp (by intro a b h;simpa using h)
theorem srt_len (l : List (List UInt8)) : (srt l).length = l.length := (srt_perm l).length_eq
theorem told_perm {l l' : List (List UInt8)} (h : l.Perm l') : (told l).length = (told l').length := by
 rw [told_len,told_len]
 exact (h.map _).sum_nat
theorem told_append (a b : List (List UInt8)) : told (a ++ b) = told a ++ told b := by simp [told]
theorem told_all_len : ∀ (l : List (List UInt8)),(told (all l)).length ≤ (l.map fun x => x.length + 1).sum
 | [] => by simp [all,told]
 | x :: r => by
  have h1 := told_all_len r
  have h2 := (told_lines_len x).2
  have e : all (x :: r) = lines x ++ all r := by simp [all]
  rw [e,told_append]
  simp
  omega
theorem compact_succ (zs : List (List UInt8)) (m : Nat) : compactUpTo zs.toArray (m + 1) = compactUpTo zs.toArray m ++ (if keeps zs.toArray m then [zs.toArray[m]!] else []) := compactUpTo_succ _ m
theorem compact_told_len (zs : List (List UInt8)) : ∀ m,m ≤ zs.length → (told (compactUpTo zs.toArray m)).length ≤ (told (zs.take m)).length
 | 0,_ => by simp [compactUpTo,told]
 | m + 1,h => by
  have ih := compact_told_len zs m (by omega)
  have hm : m < zs.length := by omega
  rw [compact_succ,told_append,List.take_succ_eq_append_getElem hm,told_append]
  simp only [List.length_append]
  split
  ·have e : zs.toArray[m]! = zs[m] := by simp [hm]
   rw [e]
   omega
  ·simp [told] at ih ⊢
   omega
end Af
end Go.Proofs.YtdljhggillgpfaaGreatDoor
namespace Go.Proofs.YtdljhggillgpfaaGreatDoor
open Go.RowKit Go.Shelf Go.Lib
def byteOk (stars : Bool) (c : Nat) : Bool := letter c || (stars && c == 42)
def nameR (stars : Bool) (s : List UInt8) : Bool := !(decide (s = [])) && decide (s.length ≤ 12) && !(decide (s = [46])) && !(decide (s = [46,46])) && s.all (fun b => byteOk stars b.toNat)
theorem rname_round (stars : Bool) (bs : ByteArray) (s : List UInt8) (T : Txt bs s) (hs : s.length ≤ 12) (h1 : ¬ s = []) (h3 : ¬ s = [46]) (h4 : ¬ s = [46,46]) (w : World) :
  Calls Tryz.prog 42 #[.string bs,.bool stars] w fun e w' => e = .returned (.bool (s.all (fun b => byteOk stars b.toNat))) ∧ ∃ q,w' = w.drewN q := by
 have hz := T.size
 have hpos : 0 < s.length := List.length_pos_iff.2 h1
 have e1 : bs.toList = s := by rw [T.eq,ba_toList]
 have c3 : (bs.toList == [46]) = false := by rw [e1];simpa using h3
 have c4 : (bs.toList == [46,46]) = false := by rw [e1];simpa using h4
 clear e1 h1 h3 h4
 go_enter Tryz.func42,Tryz.ntmps42
 go_wp2
 go_loopw [5] (fun i wr => ∃ k : Nat,k ≤ s.length ∧ i = .int .i64 k ∧ (s.take k).all (fun b => byteOk stars b.toNat) = true ∧ ∃ q,wr = w.drewN q) (fun i _ => s.length - (intOf i).toNat)
 case atStart => exact ⟨0,by omega,rfl,by simp,0,rfl⟩
 case round =>
  obtain ⟨k,hk,rfl,hall,q,rfl⟩ := hrel
  have HA : Hid ((s.take k).all (fun b => byteOk stars b.toNat) = true) := hall
  clear hall
  by_cases hlt : k < s.length
  ·have hlt2 : k < bs.size := by omega
   obtain ⟨c,hc⟩ : ∃ c : Nat,bs[k].toNat = c := ⟨_,rfl⟩
   have hsk : s[k].toNat = c := by rw [← hc,T.get k hlt hlt2]
   have hok : byteOk stars c = true → (s.take (k + 1)).all (fun b => byteOk stars b.toNat) = true := fun h => by
    rw [List.take_succ_eq_append_getElem hlt,List.all_append,HA.out];simp [hsk,h]
   have hno : byteOk stars c = false → s.all (fun b => byteOk stars b.toNat) = false := fun h => by
    rw [List.all_eq_false];exact ⟨s[k],List.getElem_mem hlt,by rw [hsk,h];simp⟩
   have HOK : Hid (byteOk stars c = true → (s.take (k + 1)).all (fun b => byteOk stars b.toNat) = true) := hok
   have HNO : Hid (byteOk stars c = false → s.all (fun b => byteOk stars b.toNat) = false) := hno
   clear hok hno hsk HA
   by_cases hA : 97 ≤ c ∧ c ≤ 122
   ·have a1 : (97 : Int) ≤ (c : Int) := by omega
    have a2 : (c : Int) ≤ 122 := by omega
    have hl : byteOk stars c = true := by simp [byteOk,letter];omega
    have HK : Hid ((s.take (k + 1)).all (fun b => byteOk stars b.toNat) = true) := HOK.out hl
    clear hl HOK HNO hA
    go_wp2
    exact ⟨⟨k + 1,by omega,by go_num,HK.out,q,rfl⟩,by simp [intOf];omega⟩
   by_cases hB : 48 ≤ c ∧ c ≤ 57
   ·have a0 : ¬ (97 : Int) ≤ (c : Int) := by omega
    have a1 : (48 : Int) ≤ (c : Int) := by omega
    have a2 : (c : Int) ≤ 57 := by omega
    have hl : byteOk stars c = true := by simp [byteOk,letter];omega
    have HK : Hid ((s.take (k + 1)).all (fun b => byteOk stars b.toNat) = true) := HOK.out hl
    clear hl HOK HNO hA hB
    go_wp2
    exact ⟨⟨k + 1,by omega,by go_num,HK.out,q,rfl⟩,by simp [intOf];omega⟩
   by_cases h45 : c = 45
   ·subst h45
    have HK : Hid ((s.take (k + 1)).all (fun b => byteOk stars b.toNat) = true) := HOK.out (by simp [byteOk,letter])
    clear HOK HNO hA hB
    go_wp2
    exact ⟨⟨k + 1,by omega,by go_num,HK.out,q,rfl⟩,by simp [intOf];omega⟩
   by_cases h46 : c = 46
   ·subst h46
    have HK : Hid ((s.take (k + 1)).all (fun b => byteOk stars b.toNat) = true) := HOK.out (by simp [byteOk,letter])
    clear HOK HNO hA hB
    go_wp2
    exact ⟨⟨k + 1,by omega,by go_num,HK.out,q,rfl⟩,by simp [intOf];omega⟩
   by_cases h95 : c = 95
   ·subst h95
    have HK : Hid ((s.take (k + 1)).all (fun b => byteOk stars b.toNat) = true) := HOK.out (by simp [byteOk,letter])
    clear HOK HNO hA hB
    go_wp2
    exact ⟨⟨k + 1,by omega,by go_num,HK.out,q,rfl⟩,by simp [intOf];omega⟩
   have b45 : ((c : Int) == 45) = false := by simp;omega
   have b46 : ((c : Int) == 46) = false := by simp;omega
   have b95 : ((c : Int) == 95) = false := by simp;omega
   have hll : letter c = false := by simp [letter];omega
   cases stars with
   | true =>
    by_cases h42 : c = 42
    ·subst h42
     have HK : Hid ((s.take (k + 1)).all (fun b => byteOk true b.toNat) = true) := HOK.out (by simp [byteOk])
     clear HOK HNO hA hB b45 b46 b95 hll h45 h46 h95
     go_wp2
     exact ⟨⟨k + 1,by omega,by go_num,HK.out,q,rfl⟩,by simp [intOf];omega⟩
    ·have b42 : ((c : Int) == 42) = false := by simp;omega
     have HK : Hid (s.all (fun b => byteOk true b.toNat) = false) := HNO.out (by simp [byteOk,hll,h42])
     have hr : (97 ≤ c ∧ 122 < c) ∨ (c < 97 ∧ 48 ≤ c ∧ 57 < c) ∨ c < 48 := by omega
     clear HOK HNO hA hB hll h45 h46 h95 h42
     rcases hr with ⟨r1,r2⟩ | ⟨r1,r2,r3⟩ | r1
     ·have d1 : (97 : Int) ≤ (c : Int) := by omega
      have d2 : decide ((c : Int) ≤ 122) = false := by simp;omega
      have d3 : (48 : Int) ≤ (c : Int) := by omega
      have d4 : decide ((c : Int) ≤ 57) = false := by simp;omega
      go_wp2
      go_ret
      exact ⟨ret_bool HK.out.symm,q,rfl⟩
     ·have d1 : decide ((97 : Int) ≤ (c : Int)) = false := by simp;omega
      have d3 : (48 : Int) ≤ (c : Int) := by omega
      have d4 : decide ((c : Int) ≤ 57) = false := by simp;omega
      go_wp2
      go_ret
      exact ⟨ret_bool HK.out.symm,q,rfl⟩
     ·have d1 : decide ((97 : Int) ≤ (c : Int)) = false := by simp;omega
      have d3 : decide ((48 : Int) ≤ (c : Int)) = false := by simp;omega
      go_wp2
      go_ret
      exact ⟨ret_bool HK.out.symm,q,rfl⟩
   | false =>
    have HK : Hid (s.all (fun b => byteOk false b.toNat) = false) := HNO.out (by simp [byteOk,hll])
    have hr : (97 ≤ c ∧ 122 < c) ∨ (c < 97 ∧ 48 ≤ c ∧ 57 < c) ∨ c < 48 := by omega
    clear HOK HNO hA hB hll h45 h46 h95
    rcases hr with ⟨r1,r2⟩ | ⟨r1,r2,r3⟩ | r1
    ·have d1 : (97 : Int) ≤ (c : Int) := by omega
     have d2 : decide ((c : Int) ≤ 122) = false := by simp;omega
     have d3 : (48 : Int) ≤ (c : Int) := by omega
     have d4 : decide ((c : Int) ≤ 57) = false := by simp;omega
     go_wp2
     go_ret
     exact ⟨ret_bool HK.out.symm,q,rfl⟩
    ·have d1 : decide ((97 : Int) ≤ (c : Int)) = false := by simp;omega
     have d3 : (48 : Int) ≤ (c : Int) := by omega
     have d4 : decide ((c : Int) ≤ 57) = false := by simp;omega
     go_wp2
     go_ret
     exact ⟨ret_bool HK.out.symm,q,rfl⟩
    ·have d1 : decide ((97 : Int) ≤ (c : Int)) = false := by simp;omega
     have d3 : decide ((48 : Int) ≤ (c : Int)) = false := by simp;omega
     go_wp2
     go_ret
     exact ⟨ret_bool HK.out.symm,q,rfl⟩
  ·have hge : (bs.size : Int) ≤ (k : Int) := by omega
   have HK : Hid (s.all (fun b => byteOk stars b.toNat) = true) := by
    have := HA.out
    rw [List.take_of_length_le (by omega)] at this
    exact this
   clear HA
   go_wp2
   go_ret
   exact ⟨ret_bool HK.out.symm,q,rfl⟩
end Go.Proofs.YtdljhggillgpfaaGreatDoor
namespace Go.Proofs.YtdljhggillgpfaaGreatDoor
open Go.RowKit Go.Shelf Go.Lib
theorem decode_high (s : ByteArray) (i : Nat) (h : 128 ≤ (s.get! i).toNat) : 128 ≤ (Utf8.decode s i).1 := by
 unfold Utf8.decode
 simp only [Nat.add_zero]
 rw [if_neg (by omega)]
 have hr : 128 ≤ Utf8.runeError := by decide
 split
 ·split
  ·simpa using ‹_›
  ·exact hr
 ·split
  ·split
   ·rename_i h2
    simp at h2
    simp only
    omega
   ·exact hr
  ·split
   ·split
    ·rename_i h2
     simp at h2
     simp only
     omega
    ·exact hr
   ·exact hr
theorem decode_low (s : ByteArray) (i : Nat) (h : (s.get! i).toNat < 128) : Utf8.decode s i = ((s.get! i).toNat,1) := by
 unfold Utf8.decode
 simp only [Nat.add_zero]
 rw [if_pos (by omega)]
theorem idx_bytes (p : Nat → Bool) (hp : ∀ x,128 ≤ x → p x = false) (l : List UInt8) : ∀ (f pos : Nat),l.length ≤ pos + f →
  (decide (0 ≤ Lib.idxFuncFrom (fun x => !p x) true (ba l) f pos) = !((l.drop pos).all (fun b => p b.toNat)))
 | 0,pos,h => by
  simp [Lib.idxFuncFrom,List.drop_of_length_le (show l.length ≤ pos by omega)]
 | f + 1,pos,h => by
  unfold Lib.idxFuncFrom
  have hz := ba_size l
  by_cases hlt : pos < l.length
  ·rw [if_pos (by rw [hz];exact hlt)]
   have hget : ((ba l).get! pos) = l[pos] := by
    show (l.toArray)[pos]! = _
    rw [getElem!_pos _ _ (by simpa using hlt)]
    simp
   rw [List.drop_eq_getElem_cons hlt,List.all_cons]
   by_cases hc : l[pos].toNat < 128
   ·rw [decode_low _ _ (by rw [hget];exact hc),hget]
    simp only
    cases hpc : p l[pos].toNat with
    | true =>
     simp only [Bool.not_true,Bool.false_eq_true,if_false,Bool.true_and]
     exact idx_bytes p hp l f (pos + 1) (by omega)
    | false => simp
   ·have h1 := decode_high (ba l) pos (by rw [hget];omega)
    rw [hp _ h1,hp l[pos].toNat (by omega)]
    simp
  ·rw [if_neg (by rw [hz];exact hlt),List.drop_of_length_le (by omega)]
   simp
theorem letter_high (x : Nat) (h : 128 ≤ x) : letter x = false := by simp [letter];omega
end Go.Proofs.YtdljhggillgpfaaGreatDoor
