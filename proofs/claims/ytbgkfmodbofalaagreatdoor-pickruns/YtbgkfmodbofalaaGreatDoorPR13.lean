import Derived.Test.YtbgkfmodbofalaaGreatDoorPR12
import Derived.Lib.Replace
import Derived.Shelf.GgClosure.Gives
set_option maxRecDepth 100000
set_option maxHeartbeats 4000000
namespace Go.Proofs.YtbgkfmodbofalaaGreatDoor
section
open Go.RowKit Go.Shelf Go.Lib
def Af.isSwap (wd : List UInt8) : Bool := (Lib.cut wd [61]).2.2 && !(Lib.cut wd [61]).1.isEmpty && !(Lib.contains (Lib.cut wd [61]).2.1 [61])
def Af.swap (wd s : List UInt8) : List UInt8 := Lib.replaceAll s (Lib.cut wd [61]).1 (Lib.cut wd [61]).2.1
theorem Zld (s sep : List UInt8) : (Lib.cut s sep).1.length <= s.length /\ (Lib.cut s sep).2.1.length <= s.length := by
 unfold Lib.cut;split <;> simp <;> omega
theorem Znh (wd : List UInt8) (hl : wd.length <= 1000000) (m : Int) (w : World) (hm : w.cell? ⟨14,0,none⟩ = some (.int .i64 m)) :
  Calls Tryz.prog 231 #[.string (ba wd)] w fun e w' => e = .returned (.bool (Af.isSwap wd)) /\ Below w.heap.size w w' := by
 have HC := hid1 (Zug wd [61] m w hl hm);have hle := Zld wd [61];have HQ : Hid (Af.isSwap wd = ((Lib.cut wd [61]).2.2 && !(Lib.cut wd [61]).1.isEmpty && !(Lib.contains (Lib.cut wd [61]).2.1 [61]))) := rfl;generalize Af.isSwap wd = r at *;generalize (Lib.cut wd [61]).1 = a at *;generalize (Lib.cut wd [61]).2.1 = b at *;generalize (Lib.cut wd [61]).2.2 = ok at *
 have HB : Hid (∀ q,Calls Tryz.prog 297 #[.string (ba b),.string ⟨#[61]⟩] (w.drewN q) fun e w' => e = .returned (.bool (Lib.contains b [61])) /\ w' = w.drewN q) := fun q => Tryz.strings_Contains (ba b) (ba [61]) m (w.drewN q) (by rw [Zam];omega) hm
 generalize Lib.contains b [61] = cb at *;clear hm;cases ok with
 | false =>
  go_enter Tryz.func231,Tryz.ntmps231
  go_wp2_with fail;refine Calls.mono HC.out ?_;rintro e w1 ⟨rfl,q,rfl⟩;go_wp2;go_ret;exact ⟨Zan (by rw [HQ.out];rfl),Zad (Below.refl _ w) q⟩
 | true =>
  by_cases ha : a = []
  ·subst ha;go_enter Tryz.func231,Tryz.ntmps231
   go_wp2_with fail;refine Calls.mono HC.out ?_;rintro e w1 ⟨rfl,q,rfl⟩;go_wp2;go_ret;exact ⟨Zan (by rw [HQ.out];rfl),Zad (Below.refl _ w) q⟩
  ·have d1 : a.isEmpty = false := Zch ha;go_enter Tryz.func231,Tryz.ntmps231
   go_wp2_with fail;refine Calls.mono HC.out ?_;rintro e w1 ⟨rfl,q,rfl⟩;have HB1 := HB.out q;go_wp2_with fail;refine Calls.mono HB1 ?_;rintro e w2 ⟨rfl,rfl⟩;go_wp2;go_ret;exact ⟨Zan (by rw [HQ.out,d1];cases cb <;> rfl),Zad (Below.refl _ w) q⟩
theorem Zry (wd s : List UInt8) (hl : wd.length <= 100) (hs : s.length <= 10000) (ha : 1 <= (Lib.cut wd [61]).1.length) (m : Int) (w : World) (hm : w.cell? ⟨14,0,none⟩ = some (.int .i64 m)) :
  Calls Tryz.prog 232 #[.string (ba wd),.string (ba s)] w fun e w' => e = .returned (.string (ba (Af.swap wd s))) /\ Below w.heap.size w w' := by
 have HC := hid1 (Zug wd [61] m w (by omega) hm)
 have hle := Zld wd [61];have HQ : Hid (Af.swap wd s = Lib.replaceAll s (Lib.cut wd [61]).1 (Lib.cut wd [61]).2.1) := rfl;generalize Af.swap wd s = out at *;generalize (Lib.cut wd [61]).1 = a at *;generalize (Lib.cut wd [61]).2.1 = b at *;generalize (Lib.cut wd [61]).2.2 = ok at *
 have HR : Hid (∀ q,Calls Tryz.prog 299 #[.string (ba s),.string (ba a),.string (ba b)] (w.drewN q) fun e w' => e = .returned (.string (ba out)) /\ Below (w.drewN q).heap.size (w.drewN q) w') := fun q => by
  have hcount : Lib.countB (ba s) (ba a) <= s.length + 1 := Lib.count_le s a;have := Tryz.strings_ReplaceAll (ba s) (ba a) (ba b) m (w.drewN q) (by rw [Zam];omega) hm (by rw [Zam];exact ha) (by
   rw [Zam,Zam];have h1 : Lib.countB (ba s) (ba a) * b.length <= (s.length + 1) * 100 := Nat.mul_le_mul hcount (by omega)
   omega)
  refine this.mono ?_;rintro e w' ⟨rfl,g⟩;refine ⟨?_,g⟩;rw [HQ.out]
 clear hm;go_enter Tryz.func232,Tryz.ntmps232
 go_wp2_with fail;refine Calls.mono HC.out ?_;rintro e w1 ⟨rfl,q,rfl⟩;have HR1 := HR.out q;go_wp2_with fail;refine Calls.mono HR1 ?_;rintro e w2 ⟨rfl,g2⟩;go_wp2;go_ret;exact ⟨rfl,Zab (Zad (Below.refl _ w) q) g2⟩
open Go.Sort (grow Holds putRow)
abbrev Short : Type := { l : List UInt8 // l.length <= 1000000 }
instance : Inhabited Short := ⟨⟨[],by simp⟩⟩
abbrev encS : Short -> Value := fun x => Value.string (ba x.1)
theorem Zjf (wd : List UInt8) (x : Short) (b : Nat) (W : World) (m : Int) (hb : W.cell? ⟨b,0,none⟩ = some (.string (ba wd))) (hm : W.cell? ⟨14,0,none⟩ = some (.int .i64 m)) :
  FnGives Tryz.prog 296 #[.pointer (some ⟨b,0,none⟩)] #[encS x] (.bool (!(Lib.contains x.1 wd))) W := by
 obtain ⟨x,hx⟩ := x;have HC : Hid (Calls Tryz.prog 297 #[.string (ba x),.string (ba wd)] W fun e w' => e = .returned (.bool (Lib.contains x wd)) /\ w' = W) := Tryz.strings_Contains (ba x) (ba wd) m W (by rw [Zam];omega) hm
 suffices goal : Calls Tryz.prog 296 #[.string (ba x),.pointer (some ⟨b,0,none⟩)] W fun e w' => e = .returned (.bool !(Lib.contains x wd)) /\ w' = W from Calls.mono goal fun e w' ⟨h1,h2⟩ => ⟨h1,0,h2⟩
 generalize Lib.contains x wd = r at *;clear hm;go_enter Tryz.func296,Tryz.ntmps296
 go_wp2_with fail;refine Calls.mono HC.out ?_;rintro e w1 ⟨rfl,rfl⟩;go_wp2;go_ret;exact ⟨rfl,rfl⟩
def shorts (L : List (List UInt8)) (h : ∀ x ∈ L,x.length <= 1000000) : List Short := L.attach.map fun x => ⟨x.1,h x.1 x.2⟩
theorem Zfk (L : List (List UInt8)) (h : ∀ x ∈ L,x.length <= 1000000) : (shorts L h).map (·.1) = L := by
 unfold shorts;rw [List.map_map];exact List.attach_map_subtype_val L
theorem Zbq (L : List (List UInt8)) (h : ∀ x ∈ L,x.length <= 1000000) : (shorts L h).length = L.length := by
 rw [<- congrArg List.length (Zfk L h),List.length_map]
theorem Zuh (L : List (List UInt8)) (h : ∀ x ∈ L,x.length <= 1000000) (j : Nat) (hj : j < L.length) : encS ((shorts L h).toArray[j]!) = .string (ba L[j]) := by
 have hj' : j < (shorts L h).length := by rw [Zbq];exact hj
 have e : (shorts L h).toArray[j]! = (shorts L h)[j] := by simp [hj']
 rw [e];show Value.string (ba ((shorts L h)[j]).1) = _
 have : ((shorts L h)[j]).1 = L[j] := by
  have := congrArg (fun z => z[j]?) (Zfk L h)
  simp only [List.getElem?_map,List.getElem?_eq_getElem hj',List.getElem?_eq_getElem hj,Option.map_some] at this
  exact Option.some.inj this
 rw [this]
theorem Zkk (L : List (List UInt8)) (h : ∀ x ∈ L,x.length <= 1000000) (p : List UInt8 -> Bool) : ((shorts L h).filter fun x => p x.1).map (·.1) = L.filter p := by
 conv => rhs;rw [<- Zfk L h]
 rw [List.filter_map];rfl
def Af.withW (wd : List UInt8) (L : List (List UInt8)) : List (List UInt8) := L.filter fun x => Lib.contains x wd
theorem Zlx (wd : List UInt8) (L : List (List UInt8)) : (Af.told (Af.withW wd L)).length <= (Af.told L).length := by
 unfold Af.withW;induction L with
 | nil => simp
 | cons x r ih =>
  rw [List.filter_cons];simp only [Af.told,List.flatMap_cons,List.length_append] at ih ⊢;split
  ·simp only [List.flatMap_cons,List.length_append];omega
  ·omega
theorem Znu (wd : List UInt8) (L : List (List UInt8)) (hL : ∀ x ∈ L,x.length <= 1000000) (hl : L.length <= 1000000) (b g cap : Nat) (cur : Array Value) (W : World) (m : Int) (hb : W.cell? ⟨b,0,none⟩ = some (.string (ba wd))) (hm : W.cell? ⟨14,0,none⟩ = some (.int .i64 m))
  (hbg : b ≠ g) (hmg : 14 ≠ g) (hbl : b < W.heap.size) (hml : 14 < W.heap.size) (hcap : L.length <= cap) (hblk : W.heap[g]? = some (.cells cur 9 (0,0))) (hcur : ∀ j (hj : j < L.length),cur[j]? = some (.string (ba L[j]))) (B : Nat) (hB : B <= g) (hBw : B <= W.heap.size) :
  Calls Tryz.prog 294 #[.slice (some ⟨g,0,none⟩) L.length cap,.func (.func 296) #[] #[.pointer (some ⟨b,0,none⟩)]] W fun e w' => ∃ v,e = .returned v /\ CRow w' v (Af.withW wd L) /\ Below B W w' := by
 have hH : Holds encS W g 0 (shorts L hL).toArray := fun j hj => by
  have hj' : j < L.length := by simpa [Zbq] using hj
  refine ⟨?_,by simp [World.frozen?,hblk]⟩
  rw [Nat.zero_add,Zac hblk (hcur j hj'),Zuh L hL j hj']
 have hgl : g < W.heap.size := (Array.getElem?_eq_some_iff.1 hblk).1;have key := Tryz.slices_DeleteFunc encS (fun _ => rfl) (fun x => !(Lib.contains x.1 wd)) 296 #[.pointer (some ⟨b,0,none⟩)] (enters_of Tryz.func296 (by kernel_rfl) rfl) default (fun w => by kernel_rfl) g 0 cap (shorts L hL).toArray W
  (fun V x hV => Zjf wd x b V m ((Zal hV hbl).trans hb) ((Zal hV hml).trans hm))
  (fun n os dk x _ => by
   have o : ∀ k,k ≠ g -> k < W.heap.size -> (sortWorld encS W g 0 n dk os).cell? ⟨k,0,none⟩ = W.cell? ⟨k,0,none⟩ := fun k h1 h2 => by
    unfold sortWorld;rw [Go.Sort.cell?_grow _ _ _ (by show k < (putRow _ _ _ _ _).heap.size;rw [Go.Sort.size_putRow];exact h2),Go.Sort.cell?_putRow_other _ _ g 0 _ _ (Or.inl h1)]
    rfl
   exact Zjf wd x b _ m ((o b hbg hbl).trans hb) ((o _ hmg hml).trans hm))
  hH (by simp [Zbq];omega) (by simp [Zbq];exact hcap)
 have e0 : (shorts L hL).toArray.size = L.length := by simp [Zbq]
 rw [e0] at key;refine Calls.mono key ?_;rintro e w' ⟨rfl,q,rfl⟩;have e1 : ((shorts L hL).toArray.toList.filter fun x => !(!(Lib.contains x.1 wd))) = (shorts L hL).filter fun x => Lib.contains x.1 wd := by simp
 rw [e1];have e2 : ((shorts L hL).filter fun x => Lib.contains x.1 wd).map (·.1) = Af.withW wd L := Zkk L hL fun x => Lib.contains x wd
 have hlen : ((shorts L hL).filter fun x => Lib.contains x.1 wd).length = (Af.withW wd L).length := by rw [<- e2,List.length_map]
 have hle : (Af.withW wd L).length <= L.length := List.length_filter_le _ _
 have hp := Go.Sort.holds_putRow encS (Sort.ahead W q) g 0 (shorts L hL).toArray (((shorts L hL).filter fun x : Short => Lib.contains x.1 wd) ++ List.replicate (L.length - ((shorts L hL).filter fun x : Short => Lib.contains x.1 wd).length) default).toArray hH (by simp only [List.size_toArray,List.length_append,List.length_replicate,Zbq];rw [hlen];omega)
 refine ⟨_,rfl,⟨some ⟨g,0,none⟩,cap,by rw [hlen],fun k hk => ⟨g,rfl,by rw [Go.Sort.size_putRow];exact hgl,?_⟩⟩,?_⟩
 ·have hk' : k < ((shorts L hL).filter fun x => Lib.contains x.1 wd).length := by rw [hlen];exact hk
  have p1 := (hp k (by simp;omega)).1
  rw [Nat.zero_add] at p1;rw [p1];have e3 : (((shorts L hL).filter fun x : Short => Lib.contains x.1 wd) ++ List.replicate (L.length - ((shorts L hL).filter fun x : Short => Lib.contains x.1 wd).length) default).toArray[k]! = ((shorts L hL).filter fun x => Lib.contains x.1 wd)[k] := by
   simp [List.getElem?_append_left hk',hk']
  rw [e3];have e4 : (((shorts L hL).filter fun x => Lib.contains x.1 wd)[k]).1 = (Af.withW wd L)[k] := by
   have := congrArg (fun z => z[k]?) e2
   simp only [List.getElem?_map,List.getElem?_eq_getElem hk',List.getElem?_eq_getElem hk,Option.map_some] at this
   exact Option.some.inj this
  show some (Value.string (ba _)) = _
  rw [e4]
 ·refine (Below.refl B W).grown (row := some g) ⟨rfl,rfl,rfl,by rw [Go.Sort.size_putRow];exact Nat.le_refl _,fun k _ hk => ?_⟩ hBw (fun j hj => by cases hj;exact hB)
  have : g ≠ k := fun e => hk (by rw [e])
  simp [putRow,Go.Sort.mapBlock,Go.Sort.ahead,Array.getElem?_modify,this]
theorem Zhg (wd s : List UInt8) (hs : s.length <= 100000) (m : Int) (w : World) (hm : w.cell? ⟨14,0,none⟩ = some (.int .i64 m)) (hbig : 20 < w.heap.size) :
  Calls Tryz.prog 227 #[.string (ba wd),.string (ba s)] w fun e w' => e = .returned (.string (ba (Af.told (Af.withW wd (Af.lines s))))) /\ Below w.heap.size w w' := by
 have g0 : Below w.heap.size w (w.alloc (.cells #[.string (ba wd)] 9)) := (Below.refl _ w).alloc (Nat.le_refl _) _;have hs0 : (w.alloc (.cells #[.string (ba wd)] 9)).heap.size = w.heap.size + 1 := by simp
 have c0 : (w.alloc (.cells #[.string (ba wd)] 9)).cell? ⟨w.heap.size,0,none⟩ = some (.string (ba wd)) := by
  rw [World.cell?_alloc_at _ _ _ _ rfl];rfl
 have m0 := Zaa hm g0;have HL := hid1 (Zcl s (by omega) m _ m0)
 have hL : ∀ x ∈ Af.lines s,x.length <= 1000000 := fun x h => by have := Af.line_len h;omega
 have hll := Af.lines_len s;have hlen : (Af.told (Af.withW wd (Af.lines s))).length <= 100000000 := by
  have h1 := Zlx wd (Af.lines s);have h2 := (Af.told_lines_len s).2;omega
 generalize Af.lines s = L at *;go_enter Tryz.func227,Tryz.ntmps227
 go_wp2_with fail;refine Calls.mono HL.out ?_;rintro e w2 ⟨v,rfl,⟨g,cap,cur,rfl,hg0,hcap,hblk,hcur⟩,g2⟩;rw [hs0] at hg0 g2;have G2 : Below w.heap.size w w2 := g0.trans (g2.mono (by omega))
 have hw2 : w.heap.size + 1 <= w2.heap.size := by have := g2.size;rw [hs0] at this;exact this
 have HD := hid1 (Znu wd L hL (by omega) w.heap.size g cap cur w2 m ((Zal g2 (by omega)).trans c0) ((Zal g2 (by omega)).trans m0) (by omega) (by omega) (by omega) (by omega) hcap hblk hcur w.heap.size (by omega) (by omega))
 clear HL c0 m0 hm g0;go_wp2_with fail;refine Calls.mono HD.out ?_;rintro e w3 ⟨v3,rfl,hr,g3⟩;have G3 := G2.trans g3;have HT := hid1 (Zdl v3 _ w3 hr hlen);clear HD;go_wp2_with fail;refine Calls.mono HT.out ?_;rintro e w4 ⟨rfl,g4⟩;go_wp2;go_ret;exact ⟨rfl,G3.trans (g4.mono G3.size)⟩
theorem Zxk {w W : World} {pa : Option Addr} {n cap : Nat} {x : List UInt8} (h : TRow w (.slice pa n cap) [x]) (hW : Below w.heap.size w W) : ∃ g,pa = some ⟨g,0,none⟩ /\ n = 1 /\ W.cell? ⟨g,0,none⟩ = some (.string (ba x)) /\ g < W.heap.size := by
 obtain ⟨p,c,e,h1,h2⟩ := h.below hW;obtain ⟨g,cur,rfl,hg,hcur⟩ := h2 (by simp)
 simp only [Value.slice.injEq,List.length_cons,List.length_nil] at e;exact ⟨g,e.1,e.2.1,Zac hg (hcur 0 (by simp)),(Array.getElem?_eq_some_iff.1 hg).1⟩
inductive Af.Kd where
 | write | join | upper | lines | sort | count | swap | head
namespace Af
def Kd.name : Kd -> List UInt8
 | .write => [119,114,105,116,101]
 | .join => [106,111,105,110]
 | .upper => [117,112,112,101,114]
 | .lines => [108,105,110,101,115]
 | .sort => [115,111,114,116]
 | .count => [99,111,117,110,116]
 | .swap => [115,119,97,112]
 | .head => [104,101,97,100]
def Kd.least : Kd -> Nat
 | .write => 0
 | _ => 1
def Kd.most : Kd -> Nat
 | .write => 0
 | .join => 8
 | .sort => 8
 | .count => 8
 | _ => 1
def Kd.takes (wd : List UInt8) : Kd -> Bool
 | .upper => decide (wd ∈ [[]])
 | .count => decide (wd ∈ [[]])
 | .sort => decide (wd ∈ [[],oncew])
 | .swap => isSwap wd
 | .head => (numM 3 wd).isSome
 | _ => true
def Kd.out (wd : List UInt8) (ls : List (List UInt8)) : Kd -> List UInt8
 | .write => wd
 | .join => Lib.join ls wd
 | .upper => Af.upper (ls.headD [])
 | .lines => told (withW wd (Af.lines (ls.headD [])))
 | .sort => sorted wd ls
 | .count => Af.count ls
 | .swap => Af.swap wd (ls.headD [])
 | .head => told ((Af.lines (ls.headD [])).take ((numM 3 wd).getD 0))
def kindOf (nm : List UInt8) : Option Kd :=
 if nm = Kd.write.name then some .write else if nm = Kd.join.name then some .join else if nm = Kd.upper.name then some .upper else if nm = Kd.lines.name then some .lines
 else if nm = Kd.sort.name then some .sort else if nm = Kd.count.name then some .count else if nm = Kd.swap.name then some .swap else if nm = Kd.head.name then some .head else none
theorem kindOf_name (k : Kd) : kindOf k.name = some k := by cases k <;> rfl
theorem kindOf_some {nm : List UInt8} {k : Kd} (h : kindOf nm = some k) : nm = k.name := by
 unfold kindOf at h;repeat' split at h
 all_goals first | (cases h;assumption) | cases h
def actE (nm wd : List UInt8) (n : Int) : Nat :=
 match kindOf nm with
 | none => 5
 | some k => if n < k.least \/ (k.most : Int) < n \/ k.takes wd = false then 3 else if 100 < wd.length then 10 else 0
def tf : Kd -> Nat
 | .write => 219
 | .join => 219
 | .lines => 219
 | .swap => 231
 | .head => 233
 | _ => 291
def tc (B : Nat) : Kd -> Array Value
 | .upper => #[.pointer (some ⟨B + 1 + 1,0,none⟩)]
 | .sort => #[.pointer (some ⟨B + 1 + 5,0,none⟩)]
 | .count => #[.pointer (some ⟨B + 1 + 7,0,none⟩)]
 | _ => #[]
def rf : Kd -> Nat
 | .write => 220
 | .join => 221
 | .sort => 228
 | .count => 229
 | _ => 292
def rc (B : Nat) : Kd -> Array Value
 | .upper => #[.pointer (some ⟨B + 1 + 2,0,none⟩)]
 | .lines => #[.pointer (some ⟨B + 1 + 3,0,none⟩)]
 | .swap => #[.pointer (some ⟨B + 1 + 8,0,none⟩)]
 | .head => #[.pointer (some ⟨B + 1 + 9,0,none⟩)]
 | _ => #[]
def ix : Kd -> Nat
 | .write => 0
 | .join => 1
 | .upper => 2
 | .lines => 3
 | .sort => 4
 | .count => 5
 | .swap => 6
 | .head => 7
end Af
open Af (Kd)
theorem found (k : Kd) (B : Nat) : Instr.findNow .string (.string (ba k.name)) (kindsE B) 0 = some (some (Af.ix k,kd k.least k.most (tfn (Af.tf k) (Af.tc B k)) (tfn (Af.rf k) (Af.rc B k)))) := by
 cases k <;> rfl
theorem Zcy {nm key : List UInt8} (h : nm ≠ key) : Instr.sameNow .string (.string (ba nm)) (txtv key) = some false := by
 have e : (nm.toArray == key.toArray) = false := by simpa using h
 exact congrArg some e
theorem Zth {nm : List UInt8} (h : Af.kindOf nm = none) (B : Nat) : Instr.findNow .string (.string (ba nm)) (kindsE B) 0 = some none := by
 have hne : ∀ k : Kd,nm ≠ k.name := fun k e => by rw [e,Af.kindOf_name] at h;cases h
 have h1 := Zcy (hne .write);have h2 := Zcy (hne .join);have h3 := Zcy (hne .upper);have h4 := Zcy (hne .lines);have h5 := Zcy (hne .sort);have h6 := Zcy (hne .count);have h7 := Zcy (hne .swap);have h8 := Zcy (hne .head);simp only [Af.Kd.name] at h1 h2 h3 h4 h5 h6 h7 h8;simp only [kindsE,Instr.findNow,h1,h2,h3,h4,h5,h6,h7,h8]
theorem Zcv (k : Kd) : ∀ args w,(callFunc (Af.tf k) args).run Tryz.prog w = .ok (.enter (Af.tf k) args) w := by
 cases k
 ·exact enters_of Tryz.func219 (by kernel_rfl) rfl
 ·exact enters_of Tryz.func219 (by kernel_rfl) rfl
 ·exact enters_of Tryz.func291 (by kernel_rfl) rfl
 ·exact enters_of Tryz.func219 (by kernel_rfl) rfl
 ·exact enters_of Tryz.func291 (by kernel_rfl) rfl
 ·exact enters_of Tryz.func291 (by kernel_rfl) rfl
 ·exact enters_of Tryz.func231 (by kernel_rfl) rfl
 ·exact enters_of Tryz.func233 (by kernel_rfl) rfl
theorem Zun (k : Kd) : ∀ args w,(callFunc (Af.rf k) args).run Tryz.prog w = .ok (.enter (Af.rf k) args) w := by
 cases k
 ·exact enters_of Tryz.func220 (by kernel_rfl) rfl
 ·exact enters_of Tryz.func221 (by kernel_rfl) rfl
 ·exact enters_of Tryz.func292 (by kernel_rfl) rfl
 ·exact enters_of Tryz.func292 (by kernel_rfl) rfl
 ·exact enters_of Tryz.func228 (by kernel_rfl) rfl
 ·exact enters_of Tryz.func229 (by kernel_rfl) rfl
 ·exact enters_of Tryz.func292 (by kernel_rfl) rfl
 ·exact enters_of Tryz.func292 (by kernel_rfl) rfl
theorem Zoo {w : World} {es el : Value} (hA : AW w es el) (hS : SynAt w) (wd : List UInt8) (hl : wd.length <= 1000000) (k : Kd) (W : World) (hW : Below w.heap.size w W) (hO : Objs W (w.heap.size + 1)) :
  Calls Tryz.prog (Af.tf k) (#[.string (ba wd)] ++ Af.tc (w.heap.size + 1) k) W fun e w' => e = .returned (.bool (k.takes wd)) /\ Below W.heap.size W w' := by
 obtain ⟨m,hm⟩ := hA.len;cases k
 ·exact Zcs (ba wd) W
 ·exact Zcs (ba wd) W
 ·exact Zjs 1 (.inl rfl) wd hO
 ·exact Zcs (ba wd) W
 ·exact Zsb wd hO
 ·exact Zjs 7 (.inr rfl) wd hO
 ·exact Znh wd hl m W (Zaa hm hW)
 ·exact Znj wd hl W (Zbu hA.pow hW) (hS.below hW)
theorem Zne (word : ByteArray) (x : List UInt8) (hx : x.length <= 100000) (w : World) :
  Calls Tryz.prog 225 #[.string word,.string (ba x)] w fun e w' => e = .returned (.string (ba (Af.upper x))) /\ Below w.heap.size w w' := by
 have HA := hid1 (Zom x hx w);go_enter Tryz.func225,Tryz.ntmps225
 go_wp2_with fail;refine Calls.mono HA.out ?_;rintro e w1 ⟨rfl,g1⟩;go_wp2;go_ret;exact ⟨rfl,g1⟩
end
section
open Go.RowKit Go.Shelf Go.Lib
open Go.Sort (grow Holds putRow)
open Af (Kd)
theorem one_of {l : List (List UInt8)} (h : l.length = 1) : ∃ x,l = [x] := by
 match l,h with
 | [x],_ => exact ⟨x,rfl⟩
theorem Zrf (wd : List UInt8) : ∀ (ls : List (List UInt8)),(Lib.join ls wd).length <= (ls.map List.length).sum + ls.length * wd.length
 | [] => by simp [Lib.join]
 | [x] => by rw [Lib.join_one];simp
 | x :: y :: r => by
  have ih := Zrf wd (y :: r);rw [Lib.join_cons] at ih ⊢;simp only [Lib.joinTail,List.map_cons,List.flatten_cons,List.length_append,List.sum_cons,List.length_cons] at ih ⊢;simp only [Nat.add_mul,Nat.one_mul] at ih ⊢;omega
theorem Zew {w : World} (i f : Nat) (wd x out : List UInt8) (pa : Option Addr) (cap : Nat) (hrow : TRow w (.slice pa [x].length cap) [x]) (W : World) (hW : Below w.heap.size w W) (hO : Objs W (w.heap.size + 1)) (hi : (kindsO (w.heap.size + 1))[i]? = some (.cells #[fn f] 302 (0,0)))
  (ef : ∀ args w,(callFunc f args).run Tryz.prog w = .ok (.enter f args) w)
  (HF : ∀ V,Below w.heap.size w V -> Calls Tryz.prog f #[.string (ba wd),.string (ba x)] V fun e w' => e = .returned (.string (ba out)) /\ Below V.heap.size V w') :
  Calls Tryz.prog 292 #[.string (ba wd),.slice pa [x].length cap,.pointer (some ⟨w.heap.size + 1 + 1 + i,0,none⟩)] W fun e w' => e = .returned (.string (ba out)) /\ Below W.heap.size W w' := by
 obtain ⟨g,rfl,_,hc,hg⟩ := Zxk hrow hW;have hb := Zbn (i := i) (j := 0) hO hi rfl;refine Zpg (ba wd) _ x f (w.heap.size + 1 + 1 + i) g 1 cap W hb hc ?_ hg (by omega) ef (hid1 fun V hV => HF V (Zab hW hV))
 have hlt := (List.getElem?_eq_some_iff.1 hi).1;exact (Array.getElem?_eq_some_iff.1 (hO i hlt)).1
theorem Zuj {w : World} {es el : Value} (hA : AW w es el) (wd : List UInt8) (hl : wd.length <= 100) (pa : Option Addr) (cap : Nat) (ls : List (List UInt8)) (hrow : TRow w (.slice pa ls.length cap) ls) (hx : ∀ x ∈ ls,x.length <= 3000) (k : Kd) (h1 : k.least <= ls.length) (h2 : ls.length <= k.most) (htk : k.takes wd = true)
  (W : World) (hW : Below w.heap.size w W) (hO : Objs W (w.heap.size + 1)) :
  Calls Tryz.prog (Af.rf k) (#[.string (ba wd),.slice pa ls.length cap] ++ Af.rc (w.heap.size + 1) k) W fun e w' => e = .returned (.string (ba (k.out wd ls))) /\ Below W.heap.size W w' := by
 obtain ⟨m,hm⟩ := hA.len;have hbig := hA.big;have hx' : ∀ x ∈ ls,x.length <= 100000 := fun x h => Nat.le_trans (hx x h) (by omega)
 have hm8 : k.most <= 8 := by cases k <;> decide
 have h8 : ls.length <= 8 := by omega
 cases k
 ·exact Znd (ba wd) _ W
 ·refine Zpp wd _ ls (by omega) ?_ W (hrow.below hW)
  have a1 := Zrf wd ls;have a2 := Zlh hx' ls.length (Nat.le_refl _);rw [List.take_length] at a2;have a3 : ls.length * wd.length <= 8 * 100 := Nat.mul_le_mul h8 hl;unfold Af.bytes at a2;omega
 ·obtain ⟨x,rfl⟩ := one_of (l := ls) (by simp [Af.Kd.least,Af.Kd.most] at h1 h2;omega)
  have hxx := hx x (by simp)
  exact Zew 2 225 wd x (Af.upper x) pa cap hrow W hW hO rfl (enters_of Tryz.func225 (by kernel_rfl) rfl) fun V _ => Zne (ba wd) x (by omega) V
 ·obtain ⟨x,rfl⟩ := one_of (l := ls) (by simp [Af.Kd.least,Af.Kd.most] at h1 h2;omega)
  have hxx := hx x (by simp)
  exact Zew 3 227 wd x _ pa cap hrow W hW hO rfl (enters_of Tryz.func227 (by kernel_rfl) rfl) fun V hV => Zhg wd x (by omega) m V (Zaa hm hV) (by have := hV.size;omega)
 ·have hlen : (Af.told (Af.all ls)).length <= 100000000 := by
   refine Nat.le_trans (Af.told_all_len ls) ?_;have : ∀ (l : List (List UInt8)),(∀ x ∈ l,x.length <= 3000) -> (l.map fun x => x.length + 1).sum <= l.length * 3001 := fun l => by
    induction l with
    | nil => simp
    | cons x r ih =>
     intro h
     have i1 := ih fun y hy => h y (by simp [hy])
     have i2 := h x (by simp)
     simp only [List.map_cons,List.sum_cons,List.length_cons];omega
   have := this ls hx;omega
  exact Zmf wd _ ls (by omega) hx' hlen m W (hrow.below hW) (Zaa hm hW)
 ·exact Znf (ba wd) _ ls (by omega) hx' m W (hrow.below hW) (Zaa hm hW) (Zbu hA.pow hW)
 ·obtain ⟨x,rfl⟩ := one_of (l := ls) (by simp [Af.Kd.least,Af.Kd.most] at h1 h2;omega)
  have hxx := hx x (by simp)
  have ha : 1 <= (Lib.cut wd [61]).1.length := by
   have ht : Af.isSwap wd = true := htk;unfold Af.isSwap at ht;cases hc : (Lib.cut wd [61]).1 with
   | nil => rw [hc] at ht;simp at ht
   | cons a b => simp
  exact Zew 8 232 wd x _ pa cap hrow W hW hO rfl (enters_of Tryz.func232 (by kernel_rfl) rfl) fun V hV => Zry wd x (by omega) (by omega) ha m V (Zaa hm hV)
 ·obtain ⟨x,rfl⟩ := one_of (l := ls) (by simp [Af.Kd.least,Af.Kd.most] at h1 h2;omega)
  have hxx := hx x (by simp)
  obtain ⟨n,hn⟩ : ∃ n,numM 3 wd = some n := Option.isSome_iff_exists.1 htk
  have e : Kd.head.out wd [x] = Af.told ((Af.lines x).take n) := by simp [Af.Kd.out,hn]
  rw [e];exact Zew 9 234 wd x _ pa cap hrow W hW hO rfl (enters_of Tryz.func234 (by kernel_rfl) rfl) fun V hV => Ztc wd x n hn (by omega) m V (Zaa hm hV) (Zbu hA.pow hV)
structure AE (w : World) (er : Nat -> Value) : Prop where
 aw : AW w (er 3) (er 10)
 syn : SynAt w
 kind : w.cell? ⟨8,0,none⟩ = some (er 5)
 iface : ∀ k,∃ t u,er (k + 1) = .iface t u
 zero : er 0 = .nilIface
theorem Zrj {w : World} {er : Nat -> Value} (h : AE w er) (nm wd : List UInt8) (n : Int) (hl : wd.length <= 1000000) :
  (Af.actE nm wd n = 0 /\ ∃ k : Kd,Af.kindOf nm = some k /\ (k.least : Int) <= n /\ n <= k.most /\ k.takes wd = true /\ wd.length <= 100 /\
   Calls Tryz.prog 111 #[.string (ba nm),.string (ba wd),.int .i64 n] w fun e w' => e = .returned (.tuple #[kd k.least k.most (tfn (Af.tf k) (Af.tc (w.heap.size + 1) k)) (tfn (Af.rf k) (Af.rc (w.heap.size + 1) k)),.nilIface]) /\ Below w.heap.size w w' /\ Objs w' (w.heap.size + 1)) \/
  (Af.actE nm wd n ≠ 0 /\ Calls Tryz.prog 111 #[.string (ba nm),.string (ba wd),.int .i64 n] w fun e w' => e = .returned (.tuple #[zkd,er (Af.actE nm wd n)]) /\ Below w.heap.size w w') := by
 have hA := h.aw;have hbig := hA.big;cases hk : Af.kindOf nm with
 | none =>
  refine .inr ⟨by simp [Af.actE,hk],?_⟩
  have e : Af.actE nm wd n = 5 := by simp [Af.actE,hk]
  rw [e];exact find_none (ba nm) (ba wd) n (er 5) w h.kind (by omega) fun B => Zth hk B
 | some k =>
  have hnm := Af.kindOf_some hk;have hf := found k (w.heap.size + 1);rw [<- hnm] at hf;have HT := hid1 fun W hW hO => Zoo hA h.syn wd hl k W hW hO
  have e : Af.actE nm wd n = (if n < k.least \/ (k.most : Int) < n \/ k.takes wd = false then 3 else if 100 < wd.length then 10 else 0) := by simp [Af.actE,hk]
  rw [e];by_cases h1 : n < k.least
  ·rw [if_pos (.inl h1)];refine .inr ⟨by decide,?_⟩
   exact (Zyj (ba nm) (ba wd) n k.least k.most _ _ _ _ (k.takes wd) (er 3) (er 10) w hA.shape hA.long hA.big _ hf (Zcv k) HT h1).mono fun e w' ⟨p,q,_⟩ => ⟨p,q⟩
  by_cases h2 : (k.most : Int) < n
  ·rw [if_pos (.inr (.inl h2))];refine .inr ⟨by decide,?_⟩
   exact (Zwm (ba nm) (ba wd) n k.least k.most _ _ _ _ (k.takes wd) (er 3) (er 10) w hA.shape hA.long hA.big _ hf (Zcv k) HT ⟨by omega,h2⟩).mono fun e w' ⟨p,q,_⟩ => ⟨p,q⟩
  cases h3 : k.takes wd with
  | false =>
   rw [if_pos (.inr (.inr rfl))];refine .inr ⟨by decide,?_⟩
   exact (Zzm (ba nm) (ba wd) n k.least k.most _ _ _ _ (k.takes wd) (er 3) (er 10) w hA.shape hA.long hA.big _ hf (Zcv k) HT ⟨by omega,by omega,h3⟩).mono fun e w' ⟨p,q,_⟩ => ⟨p,q⟩
  | true =>
   have hno : ¬ (n < k.least \/ (k.most : Int) < n \/ true = false) := by simp;omega
   rw [if_neg hno];by_cases h4 : 100 < wd.length
   ·rw [if_pos h4];refine .inr ⟨by decide,?_⟩
    exact (Zwl (ba nm) (ba wd) n k.least k.most _ _ _ _ (k.takes wd) (er 3) (er 10) w hA.shape hA.long hA.big _ hf (Zcv k) HT ⟨by omega,by omega,h3,by rw [Zam];exact h4⟩).mono fun e w' ⟨p,q,_⟩ => ⟨p,q⟩
   ·rw [if_neg h4];refine .inl ⟨rfl,k,rfl,by omega,by omega,h3,by omega,?_⟩
    exact Zwn (ba nm) (ba wd) n k.least k.most _ _ _ _ (k.takes wd) (er 3) (er 10) w hA.shape hA.long hA.big _ hf (Zcv k) HT ⟨by omega,by omega,h3,by rw [Zam];omega⟩
theorem Zxh {w : World} {er : Nat -> Value} (h : AE w er) (nm wd : List UInt8) (n : Int) (hl : wd.length <= 1000000) :
  Calls Tryz.prog 38 #[.string (ba nm),.string (ba wd),.int .i64 n] w fun e w' => e = .returned (er (Af.actE nm wd n)) /\ Below w.heap.size w w' := by
 rcases Zrj h nm wd n hl with ⟨e0,k,_,_,_,_,_,hf⟩ | ⟨_,hf⟩
 ·rw [e0,h.zero];exact Zih (ba nm) (ba wd) n _ _ _ _ .nilIface w rfl rfl (hid1 (hf.mono fun e w' ⟨p,q,_⟩ => ⟨p,q⟩))
 ·exact Zih (ba nm) (ba wd) n 0 0 .nilFunc .nilFunc _ w rfl rfl (hid1 hf)
end
section
open Go.RowKit Go.Shelf Go.Lib
theorem Zyw (nm word : ByteArray) (p : Option Addr) (len cap : Nat) (a b : Int) (tv : Value) (gr : Nat) (cr : Array Value) (out : ByteArray) (el : Value) (w : World)
  (hel : w.cell? ⟨3,0,none⟩ = some el) (h6 : 20 < w.heap.size) (htv : ∃ g c,tv = tfn g c)
  (eg : ∀ args w,(callFunc gr args).run Tryz.prog w = .ok (.enter gr args) w)
  (hfind : Hid (Calls Tryz.prog 111 #[.string nm,.string word,.int .i64 len] w fun e w' => e = .returned (.tuple #[kd a b tv (tfn gr cr),.nilIface]) /\ Below w.heap.size w w' /\ Objs w' (w.heap.size + 1)))
  (HR : Hid (∀ W,Below w.heap.size w W -> Objs W (w.heap.size + 1) -> Calls Tryz.prog gr (#[.string word,.slice p len cap] ++ cr) W fun e w' => e = .returned (.string out) /\ Below W.heap.size W w')) :
  Calls Tryz.prog 35 #[.string nm,.string word,.slice p len cap] w fun e w' => e = .returned (if 2000 < out.size then .tuple #[.string ⟨#[]⟩,el] else .tuple #[.string out,.nilIface]) /\ Below w.heap.size w w' := by
 obtain ⟨g,c,rfl⟩ := htv;generalize hr : (if 2000 < out.size then Value.tuple #[.string ⟨#[]⟩,el] else .tuple #[.string out,.nilIface]) = r
 have HQ : Hid ((if 2000 < out.size then Value.tuple #[.string ⟨#[]⟩,el] else .tuple #[.string out,.nilIface]) = r) := hr
 clear hr;have hnf : ∀ (a : Addr) (m : Mode) (W : World),Sem.run Tryz.prog (store a .nilFunc m) W = stored Tryz.prog W a .nilFunc m := fun a m W => run_store _ W a _ m rfl
 have hnt : ∀ (a : Addr) (m : Mode) (W : World),Sem.run Tryz.prog (store a (tfn g c) m) W = stored Tryz.prog W a (tfn g c) m := fun a m W => run_store _ W a _ m rfl
 have hnr : ∀ (a : Addr) (m : Mode) (W : World),Sem.run Tryz.prog (store a (tfn gr cr) m) W = stored Tryz.prog W a (tfn gr cr) m := fun a m W => run_store _ W a _ m rfl
 go_enter Tryz.func35,Tryz.ntmps35
 go_wp2_with fail;refine hfind.out.mono ?_;rintro e w2 ⟨rfl,hb2,hO2⟩;have gC : Below w2.heap.size w2 (w2.alloc (.cells #[.int .i64 a,.int .i64 b,tfn g c,tfn gr cr] 173)) := (Below.refl _ w2).alloc (Nat.le_refl _) _;have HC := HR.out _ (Zab hb2 gC) (hO2.stays gC);go_wp2_with fail;refine HC.mono ?_;rintro e w3 ⟨rfl,hb3⟩;have g3 := Zab (Zab hb2 gC) hb3
 have ke : w3.cell? ⟨3,0,none⟩ = some el := (Zal g3 (by omega)).trans hel
 clear HC gC hb2 hO2 hb3;by_cases hl : 2000 < out.size
 ·have d3 : decide ((2000 : Int) < (out.size : Int)) = true := by simp;omega
  go_wp2;go_region
  all_goals go_wp2
  go_ret2;exact ⟨ret_eq (by rw [<- HQ.out,if_pos hl];rfl),Zad g3 1⟩
 ·have d3 : decide ((2000 : Int) < (out.size : Int)) = false := by simp;omega
  go_wp2;go_ret2;exact ⟨ret_eq (by rw [<- HQ.out,if_neg hl];rfl),g3⟩
theorem Zzs (nm word : ByteArray) (p : Option Addr) (len cap : Nat) (t : TypeId) (u : Value) (w : World)
  (hfind : Hid (Calls Tryz.prog 111 #[.string nm,.string word,.int .i64 len] w fun e w' => e = .returned (.tuple #[zkd,.iface t u]) /\ Below w.heap.size w w')) :
  Calls Tryz.prog 35 #[.string nm,.string word,.slice p len cap] w fun e w' => e = .returned (.tuple #[.string ⟨#[]⟩,.iface t u]) /\ Below w.heap.size w w' := by
 have hnf : ∀ (a : Addr) (m : Mode) (W : World),Sem.run Tryz.prog (store a .nilFunc m) W = stored Tryz.prog W a .nilFunc m := fun a m W => run_store _ W a _ m rfl
 go_enter Tryz.func35,Tryz.ntmps35
 go_wp2_with fail;refine hfind.out.mono ?_;rintro e w2 ⟨rfl,hb2⟩;have g3 := hb2.alloc hb2.size (.cells #[.int .i64 0,.int .i64 0,.nilFunc,.nilFunc] 173);go_wp2;go_ret2;exact ⟨rfl,g3⟩
end
section
open Go.RowKit Go.Shelf Go.Lib
open Go.Sort (grow Holds putRow)
open Af (Kd)
def Af.actO (nm wd : List UInt8) (ls : List (List UInt8)) : List UInt8 × Nat :=
 if Af.actE nm wd ls.length = 0 then
  (match Af.kindOf nm with
   | some k => if 2000 < (k.out wd ls).length then ([],10) else (k.out wd ls,0)
   | none => ([],5))
 else ([],Af.actE nm wd ls.length)
theorem Zzt {w : World} {er : Nat -> Value} (h : AE w er) (nm wd : List UInt8) (hl : wd.length <= 1000000) (v : Value) (ls : List (List UInt8)) (hrow : TRow w v ls) (hx : ∀ x ∈ ls,x.length <= 3000) :
  Calls Tryz.prog 35 #[.string (ba nm),.string (ba wd),v] w fun e w' => e = .returned (.tuple #[.string (ba (Af.actO nm wd ls).1),er (Af.actO nm wd ls).2]) /\ Below w.heap.size w w' := by
 obtain ⟨pa,cap,rfl,hcap,hin⟩ := hrow;have hrow : TRow w (.slice pa ls.length cap) ls := ⟨pa,cap,rfl,hcap,hin⟩;rcases Zrj h nm wd ls.length hl with ⟨e0,k,hk,h1,h2,h3,h4,hf⟩ | ⟨e0,hf⟩
 ·have eO : Af.actO nm wd ls = if 2000 < (k.out wd ls).length then ([],10) else (k.out wd ls,0) := by
   unfold Af.actO;rw [if_pos e0,hk]
  have := Zyw (ba nm) (ba wd) pa ls.length cap k.least k.most _ (Af.rf k) (Af.rc (w.heap.size + 1) k) (ba (k.out wd ls)) (er 10) w h.aw.long h.aw.big ⟨_,_,rfl⟩ (Zun k) (hid1 hf)
   (hid1 fun W hW hO => Zuj h.aw wd h4 pa cap ls hrow hx k (by omega) (by omega) h3 W hW hO)
  refine this.mono ?_;rintro e w' ⟨rfl,g⟩;refine ⟨?_,g⟩;rw [eO,Zam];split
  ·rfl
  ·rw [h.zero]
 ·have eO : Af.actO nm wd ls = ([],Af.actE nm wd ls.length) := by
   unfold Af.actO;rw [if_neg e0]
  rw [eO];obtain ⟨c,hc⟩ : ∃ c,Af.actE nm wd ls.length = c + 1 := ⟨Af.actE nm wd ls.length - 1,by omega⟩
  obtain ⟨t,u,hu⟩ := h.iface c;simp only [hc,hu] at hf ⊢;exact Zzs (ba nm) (ba wd) pa ls.length cap t u w (hid1 hf)
end
end Go.Proofs.YtbgkfmodbofalaaGreatDoor
