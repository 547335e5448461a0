import Derived.RangeFuncNested
import Derived.RangeFuncBound
import Derived.RangeFuncCalls
import Derived.RangeFuncLeaves
import Derived.Shelf.Abstract
import Derived.Shelf.RegionOpen
import Derived.WalkKit
import Derived.OwnWalkIn
import Derived.TacticsInMore
import Derived.LoopNIn
import Derived.LoopIn
import Derived.Deep.QuietTactic
import Derived.BigQuiet
import Derived.Maps.AppendAt
import Derived.WalkLawsBesides
import Derived.Test.YtdljhggillgpfaaGreatDoorSA01
import Derived.Test.YtdljhggillgpfaaGreatDoorSA02
import Derived.WalkSmall
import Derived.Lib.Split
import Derived.Lib.SplitLaws
import Derived.Lib.CountLaws
import Derived.Lib.IndexBytes
set_option maxRecDepth 100000
set_option maxHeartbeats 2000000
namespace Go.Proofs.YtdljhggillgpfaaGreatDoor
open Go.RowKit Go.Shelf Go.Lib
def letter (x : Nat) : Bool := x == 45 || x == 46 || x == 95 || (decide (97 ≤ x) && decide (x ≤ 122)) || (decide (48 ≤ x) && decide (x ≤ 57))
theorem ret_bool {a b : Bool} (h : a = b) : Ending.returned (.bool a) = .returned (.bool b) := by rw [h]
theorem isLetter_calls (x : Nat) (w : World) :
  Calls Tryz.prog 194 #[.int .i32 x] w fun e w' => e = .returned (.bool (letter x)) ∧ ∃ q,w' = w.drewN q := by
 by_cases h1 : x = 45
 ·subst h1
  go_enter Tryz.func194,Tryz.ntmps194
  go_wp2
  go_ret
  exact ⟨rfl,0,rfl⟩
 by_cases h2 : x = 46
 ·subst h2
  go_enter Tryz.func194,Tryz.ntmps194
  go_wp2
  go_ret
  exact ⟨rfl,0,rfl⟩
 by_cases h3 : x = 95
 ·subst h3
  go_enter Tryz.func194,Tryz.ntmps194
  go_wp2
  go_ret
  exact ⟨rfl,0,rfl⟩
 have b1 : ((x : Int) == 45) = false := by simp;omega
 have b2 : ((x : Int) == 46) = false := by simp;omega
 have b3 : ((x : Int) == 95) = false := by simp;omega
 have fin : ∀ b : Bool,b = letter x → Ending.returned (.bool b) = .returned (.bool (letter x)) := fun b h => by rw [h]
 by_cases h4 : 97 ≤ x
 ·have b4 : decide ((97 : Int) ≤ (x : Int)) = true := by simp;omega
  by_cases h5 : x ≤ 122
  ·have b5 : decide ((x : Int) ≤ 122) = true := by simp;omega
   have e : letter x = true := by simp [letter];omega
   go_enter Tryz.func194,Tryz.ntmps194
   go_wp2
   go_ret
   exact ⟨fin _ e.symm,0,rfl⟩
  ·have b5 : decide ((x : Int) ≤ 122) = false := by simp;omega
   have b6 : decide ((48 : Int) ≤ (x : Int)) = true := by simp;omega
   have b7 : decide ((x : Int) ≤ 57) = false := by simp;omega
   have e : letter x = false := by simp [letter];omega
   go_enter Tryz.func194,Tryz.ntmps194
   go_wp2
   go_ret
   exact ⟨fin _ e.symm,0,rfl⟩
 ·have b4 : decide ((97 : Int) ≤ (x : Int)) = false := by simp;omega
  by_cases h6 : 48 ≤ x
  ·have b6 : decide ((48 : Int) ≤ (x : Int)) = true := by simp;omega
   by_cases h7 : x ≤ 57
   ·have b7 : decide ((x : Int) ≤ 57) = true := by simp;omega
    have e : letter x = true := by simp [letter];omega
    go_enter Tryz.func194,Tryz.ntmps194
    go_wp2
    go_ret
    exact ⟨fin _ e.symm,0,rfl⟩
   ·have b7 : decide ((x : Int) ≤ 57) = false := by simp;omega
    have e : letter x = false := by simp [letter];omega
    go_enter Tryz.func194,Tryz.ntmps194
    go_wp2
    go_ret
    exact ⟨fin _ e.symm,0,rfl⟩
  ·have b6 : decide ((48 : Int) ≤ (x : Int)) = false := by simp;omega
   have e : letter x = false := by simp [letter];omega
   go_enter Tryz.func194,Tryz.ntmps194
   go_wp2
   go_ret
   exact ⟨fin _ e.symm,0,rfl⟩
def KindIs (g : Nat) (p : Nat → Bool) : Prop :=
 (∀ args w,(callFunc g args).run Tryz.prog w = .ok (.enter g args) w) ∧
 ∀ (x : Nat) (W : World),Calls Tryz.prog g #[.int .i32 x] W fun e w' => e = .returned (.bool (p x)) ∧ ∃ q,w' = W.drewN q
theorem letter_kind : KindIs 194 letter := ⟨enters_of Tryz.func194 (by kernel_rfl) rfl,isLetter_calls⟩
theorem madeOf1_calls (g : Nat) (p : Nat → Bool) (hk : KindIs g p) (b : Nat) (x : Nat) (W : World) (hb : W.cell? ⟨b,0,none⟩ = some (.func (.func g) #[] #[])) :
  Calls Tryz.prog 226 #[.int .i32 x,.pointer (some ⟨b,0,none⟩)] W fun e w' => e = .returned (.bool !(p x)) ∧ ∃ q,w' = W.drewN q := by
 have eg := hk.1
 go_enter Tryz.func226,Tryz.ntmps226
 go_wp2_with fail
 refine (hk.2 x _).mono ?_
 rintro e w' ⟨rfl,q,rfl⟩
 go_wp2
 go_ret
 exact ⟨rfl,q,rfl⟩
def nameK (p : Nat → Bool) (s : ByteArray) : Bool :=
 !(decide (s.toList = [])) && decide (s.size ≤ 12) && !(decide (s.toList = [46])) && !(decide (s.toList = [46,46])) && !(decide (0 ≤ Lib.idxFunc (fun x => !p x) true s))
theorem madeOf_calls (g : Nat) (p : Nat → Bool) (hk : KindIs g p) (s : ByteArray) (w : World) :
  Calls Tryz.prog 193 #[.string s,.func (.func g) #[] #[]] w fun e w' => e = .returned (.bool (nameK p s)) ∧ Below w.heap.size w w' := by
 have hB : Below w.heap.size w (w.alloc (.cells #[.func (.func g) #[] #[]] 260)) := (Below.refl _ w).alloc (Nat.le_refl _) _
 by_cases h1 : s.toList = []
 ·have e : nameK p s = false := by simp [nameK,h1]
  go_enter Tryz.func193,Tryz.ntmps193
  go_wp2_with fail
  go_ret
  exact ⟨ret_bool e.symm,hB⟩
 have c1 : s.toList.isEmpty = false := by simpa using h1
 by_cases h2 : ¬ s.size ≤ 12
 ·have e : nameK p s = false := by simp [nameK];intros;omega
  have h2' : 12 < (s.size : Int) := by omega
  go_enter Tryz.func193,Tryz.ntmps193
  go_wp2_with fail
  go_ret
  exact ⟨ret_bool e.symm,hB⟩
 have h2 : s.size ≤ 12 := by omega
 have h2' : (s.size : Int) ≤ 12 := by omega
 by_cases h3 : s.toList = [46]
 ·have e : nameK p s = false := by simp [nameK,h3]
  go_enter Tryz.func193,Tryz.ntmps193
  go_wp2_with fail
  go_ret
  exact ⟨ret_bool e.symm,hB⟩
 have c3 : (s.toList == [46]) = false := by simpa using h3
 by_cases h4 : s.toList = [46,46]
 ·have e : nameK p s = false := by simp [nameK,h4]
  have c4 : (s.toList == [46,46]) = true := by simpa using h4
  go_enter Tryz.func193,Tryz.ntmps193
  go_wp2_with fail
  go_ret
  exact ⟨ret_bool e.symm,hB⟩
 have c4 : (s.toList == [46,46]) = false := by simpa using h4
 have H : nameK p s = !(decide (0 ≤ Lib.idxFunc (fun x => !p x) true s)) := by simp [nameK,h1,h2,h3,h4]
 have HH : Hid (nameK p s = !(decide (0 ≤ Lib.idxFunc (fun x => !p x) true s))) := H
 clear H
 go_enter Tryz.func193,Tryz.ntmps193
 go_wp2_with fail
 refine (Tryz.strings_ContainsFunc_runes 226 #[.pointer (some ⟨w.heap.size,0,none⟩)] (enters_of Tryz.func226 (by kernel_rfl) rfl) (fun x => !p x) s _ ?_).mono ?_
 ·intro W x _ hb
  refine madeOf1_calls g p hk w.heap.size x W ?_
  rw [hb.cell (p := ⟨w.heap.size,0,none⟩) (by simp)]
  simp
 ·rintro e w' ⟨rfl,hb⟩
  go_wp2
  go_ret
  exact ⟨ret_bool HH.out.symm,hB.trans (hb.mono (by simp))⟩
theorem isName_calls (s : ByteArray) (w : World) :
  Calls Tryz.prog 145 #[.string s] w fun e w' => e = .returned (.bool (nameK letter s)) ∧ Below w.heap.size w w' := by
 go_enter Tryz.func145,Tryz.ntmps145
 go_wp2_with fail
 refine (madeOf_calls 194 letter letter_kind s _).mono ?_
 rintro e w' ⟨rfl,hb⟩
 go_wp2
 go_ret
 exact ⟨rfl,hb⟩
attribute [local go_sem] Oper.semAt_some
abbrev ba (l : List UInt8) : ByteArray := ⟨l.toArray⟩
theorem grownBy_drewN (w : World) (q : Nat) : w.grownBy (w.drewN q) none := ⟨rfl,rfl,rfl,Nat.le_refl _,fun _ _ _ => rfl⟩
theorem ba_eq {s : ByteArray} {l : List UInt8} (h : s.data.toList = l) : s = ba l := by
 subst h;rfl
theorem ba_inj {a b : List UInt8} (h : ba a = ba b) : a = b := by
 have := congrArg (fun s : ByteArray => s.data.toList) h
 simpa using this
theorem ba_size (l : List UInt8) : (ba l).size = l.length := by simp [ByteArray.size]
theorem ba_toList (l : List UInt8) : (ba l).toList = l := by
 rw [Lib.toList_data]
theorem sliteCut_miss (s : ByteArray) (h : Lib.indexByte s.data.toList 47 = -1) (w : World) :
  Calls Tryz.prog 43 #[.string s,.string ⟨#[47]⟩] w fun e w' => e = .returned (.tuple #[.string s,.string ⟨#[]⟩,.bool false]) ∧ ∃ q,w' = w.drewN q := by
 have H : Hid (Lib.indexByte s.data.toList 47 = -1) := h
 clear h
 go_enter Tryz.func43,Tryz.ntmps43
 go_wp2_with fail
 refine (Tryz.stringslite_Index_one _ _ _).mono ?_
 rintro e w' ⟨rfl,rfl⟩
 rw [H.out]
 go_wp2
 go_ret3
 exact ⟨rfl,0,rfl⟩
theorem sliteCut_hit (s : ByteArray) (i : Nat) (h : Lib.indexByte s.data.toList 47 = (i : Int)) (hi : i < s.size) (hs : s.size ≤ 1000000) (w : World) :
  Calls Tryz.prog 43 #[.string s,.string ⟨#[47]⟩] w fun e w' => e = .returned (.tuple #[.string (s.extract 0 i),.string (s.extract (i + 1) s.size),.bool true]) ∧ ∃ q,w' = w.drewN q := by
 have H : Hid (Lib.indexByte s.data.toList 47 = (i : Int)) := h
 clear h
 have c1 : (0 : Int) ≤ (i : Int) := by omega
 have c2 : (i : Int) ≤ (s.size : Int) := by omega
 have c3 : (0 : Int) ≤ (i : Int) + 1 := by omega
 have c4 : (i : Int) + 1 ≤ (s.size : Int) := by omega
 go_enter Tryz.func43,Tryz.ntmps43
 go_wp2_with fail
 refine (Tryz.stringslite_Index_one _ _ _).mono ?_
 rintro e w' ⟨rfl,rfl⟩
 rw [H.out]
 go_wp2
 go_region
 go_wp2
 go_ret3
 exact ⟨rfl,1,rfl⟩
theorem strCut_miss (l : List UInt8) (h : Lib.indexByte l 47 = -1) (w : World) :
  Calls Tryz.prog 33 #[.string (ba l),.string ⟨#[47]⟩] w fun e w' => e = .returned (.tuple #[.string (ba l),.string (ba []),.bool false]) ∧ ∃ q,w' = w.drewN q := by
 generalize hs : ba l = s
 have h' : Lib.indexByte s.data.toList 47 = -1 := by rw [← hs];exact h
 clear hs h
 go_enter Tryz.func33,Tryz.ntmps33
 go_wp2_with fail
 refine (sliteCut_miss s h' _).mono ?_
 rintro e w' ⟨rfl,q,rfl⟩
 go_wp2
 go_ret3
 exact ⟨rfl,q,rfl⟩
theorem strCut_hit (l : List UInt8) (i : Nat) (h : Lib.indexByte l 47 = (i : Int)) (hi : i < l.length) (hl : l.length ≤ 1000000) (w : World) :
  Calls Tryz.prog 33 #[.string (ba l),.string ⟨#[47]⟩] w fun e w' => e = .returned (.tuple #[.string (ba (l.take i)),.string (ba (l.drop (i + 1))),.bool true]) ∧ ∃ q,w' = w.drewN q := by
 have e1 : (ba l).extract 0 i = ba (l.take i) := ba_eq (by rw [Lib.extract_data];simp)
 have e2 : (ba l).extract (i + 1) (ba l).size = ba (l.drop (i + 1)) := ba_eq (by rw [Lib.extract_to_end])
 have hz := ba_size l
 rw [← e1,← e2]
 generalize hs : ba l = s at *
 have h' : Hid (Lib.indexByte s.data.toList 47 = (i : Int)) := by rw [← hs];exact h
 clear hs h e1 e2
 have hi' : i < s.size := by omega
 have hl' : s.size ≤ 1000000 := by omega
 clear hz hi hl
 go_enter Tryz.func33,Tryz.ntmps33
 go_wp2_with fail
 refine (sliteCut_hit s i h'.out hi' hl' _).mono ?_
 rintro e w' ⟨rfl,q,rfl⟩
 go_wp2
 go_ret3
 exact ⟨rfl,q,rfl⟩
theorem strCut_any (l : List UInt8) (hl : l.length ≤ 1000000) : ∃ (p r : List UInt8) (m : Bool),(m = true → Kf.parts l = p :: Kf.parts r ∧ r.length < l.length) ∧ (m = false → Kf.parts l = [p]) ∧
  ∀ w : World,Calls Tryz.prog 33 #[.string (ba l),.string ⟨#[47]⟩] w fun e w' => e = .returned (.tuple #[.string (ba p),.string (ba r),.bool m]) ∧ ∃ q,w' = w.drewN q := by
 rcases Kf.index_cases l with hm | ⟨i,hi⟩
 ·exact ⟨l,[],false,(fun h => by cases h),fun _ => Kf.parts_miss l hm,fun w => strCut_miss l hm w⟩
 ·obtain ⟨h1,h2⟩ := Kf.parts_hit l i hi
  exact ⟨l.take i,l.drop (i + 1),true,fun _ => ⟨h1,by simp;omega⟩,(fun h => by cases h),fun w => strCut_hit l i hi h2 hl w⟩
def ahead (r m : Value) : Nat :=
 match r,m with
 | .string s,.bool true => s.size + 1
 | _,_ => 0
theorem parts1_in (n : Nat) (hn : 1 ≤ n) (l Bn n₀ : Nat) (s : List UInt8) (hs : s.length ≤ 1000000) (J Jx : List (List UInt8) → World → Prop) (B : Nat) (hJ : AbidesFrom B J)
  (hY : ∀ pre x W,J pre W → pre.length < (Kf.parts s).length → YieldAt Fence.wide (n - 1) Tryz.prog l #[.string (ba x)] W fun e W' =>
   (e = .returned (.bool true) ∧ J (pre ++ [x]) W' ∧ Below n₀ W W') ∨ (e = .returned (.bool false) ∧ Jx (pre ++ [x]) W'))
  (W : World) (hBn : W.cell? ⟨Bn,0,none⟩ = some (.string (ba s))) (h0 : J [] W) :
  CallsIn Fence.wide n Tryz.prog 224 #[.func (.yield l) #[] #[],.pointer (some ⟨Bn,0,none⟩)] W fun e W' => (∃ v,e = .returned v) ∧
   ((∃ ys,ys = Kf.parts s ∧ J ys W') ∨ (∃ pre,pre <+: Kf.parts s ∧ Jx pre W')) := by
 have hfc : Fence.wide.fn 33 := trivial
 refine callsIn_of_wp Tryz.func224 rfl trivial ?_ rfl
 simp only [Tryz.ntmps224,List.size_toArray,List.length_cons,List.length_nil,Nat.reduceAdd,Nat.reduceSub,Array.replicate_succ,Array.replicate_zero,List.push_toArray,List.append_toArray,List.nil_append,List.cons_append]
 gi_wp2
 gi_loopw [3,4,5] (fun rest more _ wr => ∃ pre,J pre wr ∧ ((∃ r : List UInt8,r.length ≤ 1000000 ∧ rest = .string (ba r) ∧ more = .bool true ∧ Kf.parts s = pre ++ Kf.parts r) ∨ (more = .bool false ∧ (∃ r,rest = .string r) ∧ Kf.parts s = pre)))
  (fun rest more _ _ => ahead rest more)
 case atStart =>
  exact ⟨[],h0,.inl ⟨s,hs,rfl,rfl,rfl⟩⟩
 case round =>
  obtain ⟨pre,hJs,⟨r,hr,rfl,rfl,hx⟩ | ⟨rfl,⟨r,rfl⟩,hx⟩⟩ := hrel
  ·obtain ⟨p,r',m,hm1,hm2,hcut⟩ := strCut_any r hr
   have hlen : pre.length < (Kf.parts s).length := by
    rw [hx]
    have := Kf.parts_ne r
    have : 0 < (Kf.parts r).length := List.length_pos_iff.2 this
    simp;omega
   have HX := show Hid (Kf.parts s = pre ++ Kf.parts r) from hx
   clear hx
   gi_wp2_with fail
   refine (callsIn_wide.2 (hcut _)).mono ?_
   rintro e w1 ⟨rfl,q,rfl⟩
   have hJ1 : J pre (wr.drewN q) := hJ pre wr _ none hJs (grownBy_drewN wr q) (by simp)
   obtain ⟨fn,tmps,assign,body,hy,hR⟩ := hY pre p _ hJ1 hlen
   gi_wp2
   refine hR.mono ?_
   rintro e W3 (⟨rfl,hJ3,hk3⟩ | ⟨rfl,hJx3⟩)
   ·gi_wp2
    go_roundw
    case rel =>
     refine ⟨pre ++ [p],hJ3,?_⟩
     cases m with
     | true =>
      obtain ⟨e1,e2⟩ := hm1 rfl
      exact .inl ⟨r',by omega,rfl,rfl,by rw [HX.out,e1];simp⟩
     | false => exact .inr ⟨rfl,⟨_,rfl⟩,by rw [HX.out,hm2 rfl]⟩
    case measure =>
     cases m with
     | true =>
      obtain ⟨e1,e2⟩ := hm1 rfl
      simp [ahead,ByteArray.size];omega
     | false => simp [ahead]
   ·gi_wp2
    refine bodyPost_ret (results_none rfl _ _ _) rfl ?_
    refine ⟨⟨_,rfl⟩,.inr ⟨pre ++ [p],?_,hJx3⟩⟩
    rw [HX.out]
    cases m with
    | true => rw [(hm1 rfl).1];exact ⟨Kf.parts r',by simp⟩
    | false => rw [hm2 rfl];exact List.prefix_refl _
  ·gi_wp2
   go_end0
   exact ⟨⟨_,rfl⟩,.inl ⟨pre,hx.symm,hJs⟩⟩
attribute [local go_sem] Oper.semAt_some
theorem parts_in (n : Nat) (s : List UInt8) (w : World) :
  CallsIn Fence.wide n Tryz.prog 192 #[.string (ba s)] w fun e w' => e = .returned (.func (.func 224) #[] #[.pointer (some ⟨w.heap.size,0,none⟩)]) ∧ w' = w.alloc (.cells #[.string (ba s)] 9) := by
 refine callsIn_of_wp Tryz.func192 rfl trivial ?_ rfl
 simp only [Tryz.ntmps192,List.size_toArray,List.length_cons,List.length_nil,Nat.reduceAdd,Nat.reduceSub,Array.replicate_succ,Array.replicate_zero,List.push_toArray,List.append_toArray,List.nil_append,List.cons_append]
 gi_wp2
 go_ret
 exact ⟨rfl,rfl⟩
theorem parts_stops (n : Nat) (hn : 1 ≤ n) (Bn n₀ : Nat) (s : List UInt8) (hs : s.length ≤ 1000000) (w : World) (hBn : Bn < w.heap.size)
  (hc : w.cell? ⟨Bn,0,none⟩ = some (.string (ba s))) :
  SeqStopsK Fence.wide n Tryz.prog 224 #[.pointer (some ⟨Bn,0,none⟩)] (fun x : List UInt8 => #[Value.string (ba x)]) (Below n₀) (fun ys => ys = Kf.parts s) (fun pre => pre <+: Kf.parts s) (Kf.parts s).length w := fun l J Jx W hW hJ _ hY h0 =>
 parts1_in n hn l Bn n₀ s hs J Jx W.heap.size hJ hY W ((hW.cell (p := ⟨Bn,0,none⟩) hBn).trans hc) h0
theorem boxed_below {W W' : World} {B : Nat} {t : TypeId} {v : Value} (h : Boxed W B t v) (hb : Below W.heap.size W W') : Boxed W' B t v := (hb.block B h.lt).trans h
theorem keeps_below {W W' : World} (hb : Below W.heap.size W W') (B : Nat) : KeepsFrom B W W' :=
 ⟨hb.size,fun k _ _ hk _ => (hb.block k (Array.getElem?_eq_some_iff.1 hk).1).trans hk⟩
def WellIs (g : Nat) (p : ByteArray → Bool) : Prop :=
 (∀ args w,(callFunc g args).run Tryz.prog w = .ok (.enter g args) w) ∧
 ∀ (s : ByteArray) (W : World),Calls Tryz.prog g #[.string s] W fun e w' => e = .returned (.bool (p s)) ∧ Below W.heap.size W w'
theorem isName_well : WellIs 145 (nameK letter) := ⟨enters_of Tryz.func145 (by kernel_rfl) rfl,isName_calls⟩
def allB (p : ByteArray → Bool) (l : List (List UInt8)) : Bool := decide (l.length ≤ 5) && l.all (fun x => p (ba x))
theorem allB_prefix (p : ByteArray → Bool) {a b : List (List UInt8)} (h : a <+: b) (ha : allB p a = false) : allB p b = false := by
 obtain ⟨c,rfl⟩ := h
 cases hb : allB p (a ++ c) with
 | false => rfl
 | true =>
  exfalso
  simp [allB] at ha hb
  obtain ⟨x,hx,h'⟩ := ha (by omega)
  have := hb.2.1 x hx
  rw [this] at h'
  cases h'
theorem allParts_in (n : Nat) (hn : 3 ≤ n) (g : Nat) (p : ByteArray → Bool) (hp : WellIs g p) (s : List UInt8) (hs : s.length ≤ 1000000) (w : World) :
  CallsIn Fence.wide n Tryz.prog 144 #[.string (ba s),.func (.func g) #[] #[]] w fun e W' => e = .returned (.bool (allB p (Kf.parts s))) ∧ Below w.heap.size w W' := by
 have h1 : 1 ≤ n := by omega
 have eg := hp.1
 have hfp : Fence.wide.fn 192 := trivial
 refine callsIn_of_wp_marks Tryz.func144 rfl trivial ?_ rfl
 simp only [Tryz.ntmps144,List.size_toArray,List.length_cons,List.length_nil,Nat.reduceAdd,Nat.reduceSub,Array.replicate_succ,Array.replicate_zero,List.push_toArray,List.append_toArray,List.nil_append,List.cons_append]
 gi_wp2_with (gi_at_call 192;refine (parts_in (n - 1) s _).mono ?_;rintro e w' ⟨rfl,rfl⟩)
 have b0 := Boxed.new w 52 (.func (.func g) #[] #[])
 have b1 := Boxed.new (w.alloc (.cells #[.func (.func g) #[] #[]] 52)) 4 (.bool false)
 have b2 := Boxed.new ((w.alloc (.cells #[.func (.func g) #[] #[]] 52)).alloc (.cells #[.bool false] 4)) 3 (.int .i64 0)
 have b3 := Boxed.new (((w.alloc (.cells #[.func (.func g) #[] #[]] 52)).alloc (.cells #[.bool false] 4)).alloc (.cells #[.int .i64 0] 3)) 9 (.string (ba s))
 simp only [World.size_alloc] at b1 b2 b3
 have hB0 : Below w.heap.size w ((((w.alloc (.cells #[.func (.func g) #[] #[]] 52)).alloc (.cells #[.bool false] 4)).alloc (.cells #[.int .i64 0] 3)).alloc (.cells #[.string (ba s)] 9)) :=
  ((((Below.refl _ w).alloc (Nat.le_refl _) _).alloc (by simp) _).alloc (by simp;omega) _).alloc (by simp;omega) _
 refine wpIn_rangeFunc_ownG rfl h1 (gf := 224) (lb := #[.pointer (some ⟨w.heap.size + 1 + 1 + 1,0,none⟩)]) rfl trivial (enters_of Tryz.func224 (by kernel_rfl) rfl)
  (parts_stops (n - 1) (by omega) (w.heap.size + 1 + 1 + 1) w.heap.size s hs _ (by simp) b3.cell) belowK_t (belowK_b (by simp;omega)) (Below.refl _ _) (fun _ => rfl)
  (fun pre W => (Boxed W w.heap.size 52 (.func (.func g) #[] #[]) ∧ Boxed W (w.heap.size + 1) 4 (.bool false) ∧ Boxed W (w.heap.size + 1 + 1) 3 (.int .i64 (pre.length : Nat)) ∧ allB p pre = true) ∧ Below w.heap.size w W)
  (fun c pre W => (c = .ret ∧ allB p pre = false ∧ Boxed W (w.heap.size + 1) 4 (.bool false)) ∧ Below w.heap.size w W)
  (OwnFrom.and (Own.from (fun s A B row hs hg hr => ⟨boxed_own (β := Unit) _ _ (fun _ => _) () A B row hs.1 hg hr,boxed_own (β := Unit) _ _ (fun _ => _) () A B row hs.2.1 hg hr,boxed_own (β := Unit) _ _ (fun _ => _) () A B row hs.2.2.1 hg hr,hs.2.2.2⟩) _) (ownFrom_below (Nat.le_refl _) (by simp;omega)))
  (fun c => OwnFrom.and (Own.from (fun s A B row hs hg hr => ⟨hs.1,hs.2.1,boxed_own (β := Unit) _ _ (fun _ => _) () A B row hs.2.2 hg hr⟩) _) (ownFrom_below (Nat.le_refl _) (by simp;omega)))
  ⟨⟨((b0.alloc _).alloc _).alloc _,(b1.alloc _).alloc _,b2.alloc _,by simp [allB]⟩,hB0⟩
  (fun x => { tmps := #[.string (ba s),.func (.func g) #[] #[],undef,.pointer (some ⟨w.heap.size,0,none⟩),.pointer (some ⟨w.heap.size + 1,0,none⟩),.pointer (some ⟨w.heap.size + 1 + 1,0,none⟩),.string (ba x),.string (ba s),.func (.func 224) #[] #[.pointer (some ⟨w.heap.size + 1 + 1 + 1,0,none⟩)],.string (ba x),undef,undef,undef,undef,undef,undef,undef,undef,undef,undef],defers := [] }) ?assign ?body ?done ?stop
 case assign =>
  intro l x W K hK
  gi_wp2
  exact hK
 case body =>
  rintro l pre x W ⟨⟨hb0,hb1,hb2,hall⟩,hB⟩ hlt
  have hc0 := hb0.cell
  have hc1 := hb1.cell
  have hc2 := hb2.cell
  have hf2 := hb2.frozen
  have hf1 := hb1.frozen
  have hle : pre.length ≤ 5 := by simp [allB] at hall;omega
  by_cases h5 : pre.length < 5
  ·have c5 : (pre.length : Int) + 1 ≤ 5 := by omega
   have d0 := hb0.other (B' := w.heap.size + 1 + 1) (by omega) (.int .i64 ((pre.length : Int) + 1))
   have d1 := hb1.other (B' := w.heap.size + 1 + 1) (by omega) (.int .i64 ((pre.length : Int) + 1))
   have d2 := hb2.set (.int .i64 ((pre.length : Int) + 1))
   have hB2 : Below w.heap.size W (W.setCell ⟨w.heap.size + 1 + 1,0,none⟩ (.int .i64 ((pre.length : Int) + 1))) := (Below.refl w.heap.size W).setCell (p := ⟨w.heap.size + 1 + 1,0,none⟩) (by simp;omega) _
   have hk2 : KeepsFrom ((((w.alloc (.cells #[.func (.func g) #[] #[]] 52)).alloc (.cells #[.bool false] 4)).alloc (.cells #[.int .i64 0] 3)).alloc (.cells #[.string (ba s)] 9)).heap.size W (W.setCell ⟨w.heap.size + 1 + 1,0,none⟩ (.int .i64 ((pre.length : Int) + 1))) := (KeepsOthers.setCell _ _ _).from _
   gi_wp2_with fail
   refine ⟨trivial,fun h => by simp [Fence.wide] at h,?_⟩
   refine (CallsIn.inRound l (callsIn_wide.2 (hp.2 (ba x) _))).mono ?_
   rintro e w1 ⟨rfl,hb⟩
   have hB3 : Below w.heap.size W w1 := hB2.trans (hb.mono (Nat.le_trans hB.size hB2.size))
   have hk3 := hk2.trans (keeps_below hb _)
   cases hpx : p (ba x) with
   | true =>
    gi_wp2
    refine ⟨hk3,hB3,⟨boxed_below d0 hb,boxed_below d1 hb,?_,?_⟩,hB.trans hB3⟩
    ·have := boxed_below d2 hb
     simpa using this
    ·simp [allB] at hall ⊢
     exact ⟨by omega,hall.2,hpx⟩
   | false =>
    have e1 := boxed_below d1 hb
    have hc3 := e1.cell
    have hf3 := e1.frozen
    gi_wp2
    refine ⟨hk3.trans ((KeepsOthers.setCell _ _ _).from _),⟨rfl,?_,e1.set _⟩,hB.trans (hB3.setCell (p := ⟨w.heap.size + 1,0,none⟩) (by simp) _)⟩
    simp [allB,hpx]
  ·have c5 : (5 : Int) < (pre.length : Int) + 1 := by omega
   have d1 := hb1.other (B' := w.heap.size + 1 + 1) (by omega) (.int .i64 ((pre.length : Int) + 1))
   have hB2 : Below w.heap.size W (W.setCell ⟨w.heap.size + 1 + 1,0,none⟩ (.int .i64 ((pre.length : Int) + 1))) := (Below.refl w.heap.size W).setCell (p := ⟨w.heap.size + 1 + 1,0,none⟩) (by simp;omega) _
   gi_wp2_with fail
   refine ⟨fun _ h => (by cases h),?_⟩
   gi_wp2
   refine ⟨((KeepsOthers.setCell _ _ _).from _).trans ((KeepsOthers.setCell _ _ _).from _),⟨rfl,?_,d1.set _⟩,hB.trans (hB2.setCell (p := ⟨w.heap.size + 1,0,none⟩) (by simp) _)⟩
   simp [allB];intros;omega
 case done =>
  rintro D ys W hD rfl ⟨⟨_,hb1,_,hall⟩,hB⟩ hK
  have hc1 := hb1.cell
  have hf1 := hb1.frozen
  gi_wp2
  have hK' := (KeepsOthers.setCell W ⟨w.heap.size + 1,0,none⟩ (.bool true)).same D _ hK rfl
  refine ⟨by simp,.inl ⟨_,_,rfl,run_takeDeferred hK',?_⟩⟩
  have hc5 := cell_kept (World.cell?_setCell_same' W ⟨w.heap.size + 1,0,none⟩ (.bool true) (by rw [hc1];rfl)) (grownBy_putObj' _ D (.deferred none)) (fun r e => by cases e;exact ⟨_,hK',rfl⟩)
  refine ⟨.bool true,?_,by rw [hall],(hB.setCell (p := ⟨w.heap.size + 1,0,none⟩) (by simp) _).trans (belowK_b (w := w) (Nat.le_refl _) _ D _ _ (by simp at hD;omega) hK' rfl rfl)⟩
  simp [results,Tryz.f144,go_sem,hc5]
 case stop =>
  rintro D c pre W hD hpre ⟨⟨rfl,hin,hb1⟩,hB⟩ hK
  have hcr := hb1.cell
  gi_wp2
  refine ⟨by simp,.inl ⟨_,_,rfl,run_takeDeferred hK,?_⟩⟩
  have hc5 := cell_kept hcr (grownBy_putObj' _ D (.deferred none)) (fun r e => by cases e;exact ⟨_,hK,rfl⟩)
  refine ⟨.bool false,?_,?_,hB.trans (belowK_b (w := w) (Nat.le_refl _) W D _ _ (by simp at hD;omega) hK rfl rfl)⟩
  ·simp [results,Tryz.f144,go_sem,hc5]
  ·rw [allB_prefix p hpre hin]
attribute [local go_sem] Oper.semAt_some
def pathB (s : List UInt8) : Bool := allB (nameK letter) (Kf.parts s)
theorem lt_of_cell {w : World} {a : Addr} {v : Value} (h : w.cell? a = some v) : a.block < w.heap.size := by
 rcases Nat.lt_or_ge a.block w.heap.size with h' | h'
 ·exact h'
 ·simp [World.cell?,Array.getElem?_eq_none h'] at h
theorem Check_yes (s : List UInt8) (hs : s.length ≤ 1000000) (h : pathB s = true) (w : World) :
  Calls Tryz.prog 104 #[.string (ba s)] w fun e w' => e = .returned .nilIface ∧ Below w.heap.size w w' := by
 have H : Hid (allB (nameK letter) (Kf.parts s) = true) := h
 clear h
 go_enter Tryz.func104,Tryz.ntmps104
 go_wp2_with fail
 refine (callsIn_wide.1 (allParts_in 3 (by omega) 145 (nameK letter) isName_well s hs _)).mono ?_
 rintro e w' ⟨rfl,hb⟩
 rw [H.out]
 go_wp2
 go_ret
 exact ⟨rfl,hb⟩
theorem Check_no (s : List UInt8) (hs : s.length ≤ 1000000) (h : pathB s = false) (w : World) (t : TypeId) (u : Value) (hg : w.cell? ⟨3,0,none⟩ = some (.iface t u)) :
  Calls Tryz.prog 104 #[.string (ba s)] w fun e w' => e = .returned (.iface t u) ∧ Below w.heap.size w w' := by
 have H : Hid (allB (nameK letter) (Kf.parts s) = false) := h
 clear h
 go_enter Tryz.func104,Tryz.ntmps104
 go_wp2_with fail
 refine (callsIn_wide.1 (allParts_in 3 (by omega) 145 (nameK letter) isName_well s hs _)).mono ?_
 rintro e w' ⟨rfl,hb⟩
 rw [H.out]
 have hg' := (hb.cell (p := ⟨3,0,none⟩) (lt_of_cell hg)).trans hg
 go_wp2
 go_ret
 exact ⟨rfl,hb⟩
theorem ba_append (a b : List UInt8) : ba a ++ ba b = ba (a ++ b) := ba_eq (by simp)
theorem cell_below' {w w' : World} {a : Addr} {v : Value} (h : w.cell? a = some v) (hb : Below w.heap.size w w') : w'.cell? a = some v := (hb.cell (p := a) (lt_of_cell h)).trans h
theorem below_draws {B : Nat} {a w : World} (h : Below B a w) (q : Nat) : Below B a (w.drewN q) := h.trans ⟨rfl,rfl,rfl,Nat.le_refl _,fun _ _ => rfl⟩
theorem Tryz.infoStr : (Tryz.prog.info? 9).map (fun i => (i.zero,i.size,i.bytes)) = some (some (.string ⟨#[]⟩),1,16) := by kernel_rfl
abbrev sv (x : List UInt8) : Value := Value.string (ba x)
theorem ret_eq {a b : Value} (h : a = b) : Ending.returned a = .returned b := by rw [h]
theorem owns_cells {w : World} {base : Nat} {g cap : Nat} {a : List (List UInt8)} (h : w.ownsRow base 9 1 (.slice (some ⟨g,0,none⟩) a.length cap) a.length (a.map sv)) :
  (∀ (j : Nat) x,(a.map ba)[j]? = some x → w.cell? ⟨g,0 + j,none⟩ = some (.string x)) ∧ g < w.heap.size ∧ a.length ≤ cap := by
 rcases h.2 with ⟨h',_⟩ | ⟨g',cap',cur,hv,_,hg,hn,_,hsz,ht⟩
 ·cases h'
 ·cases hv
  refine ⟨fun j x hj => ?_,(Array.getElem?_eq_some_iff.1 hg).1,hn⟩
  have hjl : j < a.length := by
   have := (List.getElem?_eq_some_iff.1 hj).1
   simpa using this
  have h1 : (cur.toList.take (a.length * 1))[j]? = some (.string x) := by
   rw [ht]
   rw [List.getElem?_map] at hj ⊢
   cases ha : a[j]? with
   | none => rw [ha] at hj;simp at hj
   | some y => rw [ha] at hj;simp at hj;subst hj;rfl
  rw [List.getElem?_take_of_lt (by omega)] at h1
  simp only [World.cell?,hg,Nat.zero_add]
  simpa using h1
theorem hid1 {p : Prop} (h : p) : Hid p := h
theorem below_then {w W W' : World} (h : Below w.heap.size w W) (hb : Below W.heap.size W W') : Below w.heap.size w W' :=
 ⟨hb.os.trans h.os,hb.tape.trans h.tape,hb.output.trans h.output,Nat.le_trans h.size hb.size,fun i hi => (hb.block i (Nat.lt_of_lt_of_le hi h.size)).trans (h.block i hi)⟩
theorem cell_below2 {B : Nat} {w W : World} (h : Below B w W) {k j : Nat} (hk : k < B) : W.cell? ⟨k,j,none⟩ = w.cell? ⟨k,j,none⟩ := World.cell?_of_block (h.block k hk)
theorem below_more {w wr w1 : World} {n₀ : Nat} {e : TypeId} {size : Nat} {v : Value} {k : Nat} {xs : List Value}
  (hB : Below n₀ w wr) (hn : n₀ ≤ wr.heap.size) (hrow : wr.ownsRow n₀ e size v k xs) (hgrow : wr.grownBy w1 v.ownBlock) : Below n₀ w w1 := by
 refine hB.grown hgrow hn fun j ej => ?_
 rcases hrow.2 with ⟨rfl,_⟩ | ⟨g,cap,cur,rfl,hb,_,_⟩
 ·simp [Value.ownBlock] at ej
 ·obtain rfl : g = j := by simpa [Value.ownBlock] using ej
  exact hb
theorem add_at (g j : Nat) : (⟨g,0,none⟩ : Addr).add j = ⟨g,j,none⟩ := by
 by_cases h0 : j = 0 <;> simp [Addr.add,h0]
def cutB (b : UInt8) : List UInt8 → List (List UInt8)
 | [] => [[]]
 | c :: r => if c = b then [] :: cutB b r else match cutB b r with
  | [] => [[c]]
  | p :: ps => (c :: p) :: ps
theorem cutB_parts (s : List UInt8) : cutB 47 s = Kf.parts s := by
 induction s with
 | nil => rfl
 | cons c r ih => simp only [cutB,Kf.parts,ih];rfl
theorem cutB_ne (b : UInt8) (s : List UInt8) : cutB b s ≠ [] := by
 cases s with
 | nil => simp [cutB]
 | cons c r =>
  unfold cutB
  split
  ·simp
  ·split <;> simp
theorem cutB_hit (b : UInt8) (t : List UInt8) : cutB b (t ++ [b]) = cutB b t ++ [[]] := by
 induction t with
 | nil => simp [cutB]
 | cons c r ih =>
  simp only [List.cons_append,cutB,ih]
  split
  ·simp
  ·cases h : cutB b r with
   | nil => exact absurd h (cutB_ne b r)
   | cons p ps => simp
theorem cutB_miss (b x : UInt8) (hx : x ≠ b) (t : List UInt8) : ∀ (o : List (List UInt8)) (l : List UInt8),cutB b t = o ++ [l] → cutB b (t ++ [x]) = o ++ [l ++ [x]] := by
 induction t with
 | nil =>
  intro o l h
  have h' : o ++ [l] = [] ++ [[]] := h.symm
  obtain ⟨rfl,e⟩ := List.append_inj' h' rfl
  simp at e
  subst e
  simp [cutB,hx]
 | cons c r ih =>
  intro o l h
  simp only [List.cons_append,cutB] at h ⊢
  by_cases hc : c = b
  ·rw [if_pos hc] at h ⊢
   cases o with
   | nil =>
    simp at h
    exact absurd h.2 (cutB_ne b r)
   | cons q o =>
    simp at h
    obtain ⟨rfl,h⟩ := h
    rw [ih o l h]
    simp
  ·rw [if_neg hc] at h ⊢
   cases hr : cutB b r with
   | nil => exact absurd hr (cutB_ne b r)
   | cons p ps =>
    rw [hr] at h
    simp only at h
    cases o with
    | nil =>
     simp at h
     obtain ⟨rfl,rfl⟩ := h
     have := ih [] p (by simpa using hr)
     rw [this]
     simp
    | cons q o =>
     simp at h
     obtain ⟨rfl,rfl⟩ := h
     have := ih (p :: o) l (by simpa using hr)
     rw [this]
     simp
structure Txt (bs : ByteArray) (s : List UInt8) : Prop where
 eq : bs = ba s
theorem txt (s : List UInt8) : ∃ bs,ba s = bs ∧ Txt bs s := ⟨_,rfl,⟨rfl⟩⟩
theorem Txt.size {bs : ByteArray} {s : List UInt8} (h : Txt bs s) : bs.size = s.length := by rw [h.eq];exact ba_size s
theorem Txt.get {bs : ByteArray} {s : List UInt8} (h : Txt bs s) (i : Nat) (h1 : i < s.length) (h2 : i < bs.size) : bs[i] = s[i] := by
 obtain ⟨rfl⟩ := h
 simp [ba]
 rfl
theorem Txt.extract {bs : ByteArray} {s : List UInt8} (h : Txt bs s) (f k : Nat) : bs.extract f k = ba ((s.take k).drop f) := by
 rw [h.eq]
 exact ba_eq (by rw [Lib.extract_data];simp [List.drop_take])
theorem below_appended {w wr w1 : World} {n₀ : Nat} {e : TypeId} {size : Nat} {v : Value} {k : Nat} {xs : List Value} {tmp : Obj}
  (hB : Below n₀ w wr) (hn : n₀ ≤ wr.heap.size) (hrow : wr.ownsRow n₀ e size v k xs) (hgrow : (wr.alloc tmp).grownBy w1 v.ownBlock) : Below n₀ w w1 := by
 refine (hB.alloc hn tmp).grown hgrow (by simp;omega) fun j ej => ?_
 rcases hrow.2 with ⟨rfl,_⟩ | ⟨g,cap,cur,rfl,hb,_,_⟩
 ·simp [Value.ownBlock] at ej
 ·obtain rfl : g = j := by simpa [Value.ownBlock] using ej
  exact hb
theorem rCut_calls (s : List UInt8) (hs : s.length ≤ 1000000) (b : UInt8) (n : Int) (hn : n = (b.toNat : Int)) (w : World) :
  Calls Tryz.prog 17 #[.string (ba s),.int .u8 n] w fun e w' => ∃ v,e = .returned v ∧ w'.ownsRow w.heap.size 9 1 v (cutB b s).length ((cutB b s).map sv) ∧ Below w.heap.size w w' := by
 obtain ⟨i0,hi,hz0,hz1,hz2⟩ := info_parts Tryz.infoStr
 obtain ⟨bs,eb,T⟩ := txt s
 rw [eb]
 clear eb
 go_enter Tryz.func17,Tryz.ntmps17
 go_wp2
 go_loopw [5,6,7] (fun out fr i wr => ∃ (k f : Nat) (o : List (List UInt8)),k ≤ s.length ∧ f ≤ k ∧ i = .int .i64 k ∧ fr = .int .i64 f ∧ cutB b (s.take k) = o ++ [(s.take k).drop f] ∧ o.length ≤ k ∧ wr.ownsRow w.heap.size 9 1 out o.length (o.map sv) ∧ Below w.heap.size w wr) (fun _ _ i _ => s.length - (intOf i).toNat)
 case atStart => exact ⟨0,0,[],by omega,by omega,rfl,rfl,by simp [cutB],by simp,World.ownsRow_nil _ _ _ _,Below.refl _ _⟩
 case round =>
  obtain ⟨k,f,o,hk,hf,rfl,rfl,hcut,hol,hrow,hB⟩ := hrel
  have HC : Hid (cutB b (s.take k) = o ++ [(s.take k).drop f]) := hcut
  clear hcut
  by_cases hlt : k < s.length
  ·have hlt2 : k < bs.size := by rw [T.size];exact hlt
   have hfb : f ≤ bs.size := by omega
   have hkb : k ≤ bs.size := by omega
   have hml : o.length + 1 ≤ maxLen := by unfold maxLen;omega
   have hbz : w.heap.size ≤ wr.heap.size := hB.size
   have HN : Hid (n = (b.toNat : Int)) := hn
   clear hn
   go_wp2_with (at_builtin;refine wpList_append_own _ rfl _ _ 22 rfl w.heap.size 9 i0 (.string ⟨#[]⟩) 1 16 Tryz.underlying22 hi hz0 hz1 hz2 rfl (by decide) _ _ _ rfl (hrow.alloc _) ⟨wr.heap.size,0,none⟩ 1 1 [.string (bs.extract f k)] rfl rfl (cell_one_new _ _ _) (by simp [Value.oneCell']) hml (by omega) (by simp;omega) ?_;intro v' w1 hown' hgrow _)
   ·have e1 : ((bs[k].toNat : Int) == n) = true := by assumption
    have e2 : s[k] = b := by
     rw [T.get k hlt hlt2,HN.out] at e1
     have := eq_of_beq e1
     exact UInt8.toNat_inj.1 (by omega)
    have e3 : cutB b (s.take (k + 1)) = (o ++ [(s.take k).drop f]) ++ [(s.take (k + 1)).drop (k + 1)] := by
     rw [List.drop_of_length_le (i := k + 1) (by simp;omega),List.take_succ_eq_append_getElem hlt,e2,cutB_hit,HC.out]
    have e4 : .string (bs.extract f k) = sv ((s.take k).drop f) := by rw [T.extract]
    refine ⟨⟨k + 1,k + 1,o ++ [(s.take k).drop f],by omega,by omega,by go_num,by go_num,e3,by simp;omega,?_,?_⟩,by simp [intOf];omega⟩
    ·rw [e4] at hown'
     simpa using hown'
    ·exact below_appended hB hbz hrow hgrow
   ·have e1 : ((bs[k].toNat : Int) == n) = false := by assumption
    have e2 : s[k] ≠ b := by
     rw [T.get k hlt hlt2,HN.out] at e1
     intro e
     rw [e] at e1
     simp at e1
    have e3 : cutB b (s.take (k + 1)) = o ++ [(s.take (k + 1)).drop f] := by
     rw [List.take_succ_eq_append_getElem hlt,cutB_miss b s[k] e2 _ o _ HC.out,List.drop_append_of_le_length (by simp;omega)]
    exact ⟨⟨k + 1,f,o,by omega,by omega,by go_num,rfl,e3,by omega,hrow,hB⟩,by simp [intOf];omega⟩
  ·have hkk : k = s.length := by omega
   have hfb : f ≤ bs.size := by rw [T.size];omega
   have hml : o.length + 1 ≤ maxLen := by unfold maxLen;omega
   have hbz : w.heap.size ≤ wr.heap.size := hB.size
   have hge : (bs.size : Int) ≤ (k : Int) := by rw [T.size];omega
   have HK : Hid (k = s.length) := hkk
   clear hn hkk
   go_wp2_with (at_builtin;refine wpList_append_own _ rfl _ _ 22 rfl w.heap.size 9 i0 (.string ⟨#[]⟩) 1 16 Tryz.underlying22 hi hz0 hz1 hz2 rfl (by decide) _ _ _ rfl (hrow.alloc _) ⟨wr.heap.size,0,none⟩ 1 1 [.string (bs.extract f bs.size)] rfl rfl (cell_one_new _ _ _) (by simp [Value.oneCell']) hml (by omega) (by simp;omega) ?_;intro v' w1 hown' hgrow _)
   go_ret
   have e3 : cutB b s = o ++ [s.drop f] := by
    have := HC.out
    rw [HK.out,List.take_length] at this
    exact this
   have e4 : .string (bs.extract f bs.size) = sv (s.drop f) := by rw [T.extract,T.size,List.take_length]
   refine ⟨_,rfl,?_,below_appended hB hbz hrow hgrow⟩
   rw [e3]
   rw [e4] at hown'
   simpa using hown'
theorem cutB_none (c : UInt8) : ∀ (s : List UInt8),Lib.indexByte s c = -1 → cutB c s = [s]
 | [],_ => rfl
 | x :: r,h => by
  unfold Lib.indexByte at h
  by_cases hc : x = c
  ·simp [hc] at h
  ·have hb : (x == c) = false := by simp [hc]
   rw [hb] at h
   by_cases h1 : Lib.indexByte r c = -1
   ·have := cutB_none c r h1
    simp [cutB,hc,this]
   ·have hge := Lib.indexByte_ge r c
    simp [h1] at h
    omega
theorem cutB_some (c : UInt8) : ∀ (s : List UInt8) (i : Nat),Lib.indexByte s c = (i : Int) → cutB c s = s.take i :: cutB c (s.drop (i + 1)) ∧ i < s.length
 | [],i,h => by simp [Lib.indexByte] at h
 | x :: r,i,h => by
  unfold Lib.indexByte at h
  by_cases hc : x = c
  ·simp [hc] at h
   obtain rfl : i = 0 := by omega
   simp [cutB,hc]
  ·have hb : (x == c) = false := by simp [hc]
   rw [hb] at h
   by_cases h1 : Lib.indexByte r c = -1
   ·simp [h1] at h
   ·have hge := Lib.indexByte_ge r c
    simp [h1] at h
    obtain ⟨j,rfl⟩ : ∃ j,i = j + 1 := ⟨i - 1,by omega⟩
    obtain ⟨e1,e2⟩ := cutB_some c r j (by omega)
    refine ⟨?_,by simp;omega⟩
    simp [cutB,hc,e1]
theorem splitK_cut (c : UInt8) : ∀ (k : Nat) (s : List UInt8),s.length ≤ k → Lib.splitK [c] 0 (Lib.count s [c]) s = cutB c s
 | k,s,hk => by
  have hge := Lib.indexByte_ge s c
  by_cases h : Lib.indexByte s c = -1
  ·have h' : Lib.index s [c] = -1 := by rw [Lib.index_one];exact h
   rw [Lib.count_miss h',cutB_none c s h]
   rfl
  ·obtain ⟨i,hi⟩ : ∃ i : Nat,Lib.indexByte s c = (i : Int) := ⟨(Lib.indexByte s c).toNat,by omega⟩
   have h' : Lib.index s [c] = (i : Int) := by rw [Lib.index_one];exact hi
   obtain ⟨e1,e2⟩ := cutB_some c s i hi
   cases k with
   | zero => omega
   | succ k =>
    have hc := Lib.count_hit (sub := [c]) (by simp) h'
    rw [hc,e1,Nat.add_comm 1]
    unfold Lib.splitK
    rw [h']
    have hne : ((i : Int) == -1) = false := by simp
    rw [hne]
    simp only [Bool.false_eq_true,if_false,Int.toNat_natCast,Nat.add_zero,List.length_cons,List.length_nil,Nat.zero_add]
    rw [splitK_cut c k (s.drop (i + 1)) (by simp;omega)]
theorem splitB_cut (c : UInt8) (s : List UInt8) : Lib.splitB (ba [c]) 0 (Lib.countB (ba s) (ba [c])) (ba s) = (cutB c s).map ba := by
 have h1 := Lib.splitB_data (ba [c]) 0 (Lib.countB (ba s) (ba [c])) (ba s)
 have h2 : Lib.splitK [c] 0 (Lib.count s [c]) s = cutB c s := splitK_cut c _ s (Nat.le_refl _)
 have h3 : (Lib.splitB (ba [c]) 0 (Lib.countB (ba s) (ba [c])) (ba s)).map (·.data.toList) = cutB c s := h1.trans h2
 rw [← h3,List.map_map]
 conv => lhs;rw [← List.map_id (Lib.splitB (ba [c]) 0 (Lib.countB (ba s) (ba [c])) (ba s))]
 exact List.map_congr_left fun x _ => rfl
theorem count_cut (c : UInt8) (s : List UInt8) : Lib.countB (ba s) (ba [c]) + 1 = (cutB c s).length := by
 have := Lib.splitB_all (ba [c]) (by rw [ba_size];simp) 0 _ (ba s) rfl
 rw [splitB_cut] at this
 simpa using this.symm
end Go.Proofs.YtdljhggillgpfaaGreatDoor
