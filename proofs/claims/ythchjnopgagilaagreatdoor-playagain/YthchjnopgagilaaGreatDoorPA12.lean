import Derived.Test.YthchjnopgagilaaGreatDoorPA11
import Derived.Test.YthchjnopgagilaaGreatDoorChecked
import Derived.LaidEql
import Derived.Stop.Asserts
import Derived.RowKitTokens
import Derived.Below
set_option maxHeartbeats 4000000
namespace Go.Proofs.YthchjnopgagilaaGreatDoor
open Go.RowKit Go.Shelf Go.Lib
structure Ru where
 out : List UInt8
 kind : List UInt8
 word : List UInt8
 ins : List (List UInt8)
namespace Ru
def firstFrom (c : Nat → Nat) : Nat → Nat → Option Nat
 | _,0 => none
 | k,n + 1 => if c k = 0 then firstFrom c (k + 1) n else some k
def first (c : Nat → Nat) (n : Nat) : Option Nat := firstFrom c 0 n
def firstC (c : Nat → Nat) (n : Nat) : Nat := match first c n with | some k => c k | none => 0
theorem firstFrom_none {c : Nat → Nat} : ∀ {n k : Nat},(∀ j,k ≤ j → j < k + n → c j = 0) → firstFrom c k n = none
 | 0,_,_ => rfl
 | n + 1,k,h => by
  unfold firstFrom
  rw [if_pos (h k (Nat.le_refl _) (by omega))]
  exact firstFrom_none fun j h1 h2 => h j (by omega) (by omega)
theorem firstFrom_some {c : Nat → Nat} {m : Nat} : ∀ {n k : Nat},k ≤ m → m < k + n → c m ≠ 0 → (∀ j,k ≤ j → j < m → c j = 0) → firstFrom c k n = some m
 | 0,_,h1,h2,_,_ => by omega
 | n + 1,k,h1,h2,hc,h => by
  unfold firstFrom
  by_cases e : k = m
  ·subst e
   rw [if_neg hc]
  ·rw [if_pos (h k (Nat.le_refl _) (by omega))]
   exact firstFrom_some (by omega) (by omega) hc fun j h1 h2 => h j (by omega) h2
theorem first_none {c : Nat → Nat} {n : Nat} (h : ∀ j,j < n → c j = 0) : first c n = none := firstFrom_none fun j _ h2 => h j (by omega)
theorem first_some {c : Nat → Nat} {n m : Nat} (hm : m < n) (hc : c m ≠ 0) (h : ∀ j,j < m → c j = 0) : first c n = some m := firstFrom_some (Nat.zero_le _) (by omega) hc fun j _ h2 => h j h2
theorem firstFrom_none_zero {c : Nat → Nat} : ∀ {n k : Nat},firstFrom c k n = none → ∀ j,k ≤ j → j < k + n → c j = 0
 | 0,_,_,j,h1,h2 => by omega
 | n + 1,k,h,j,h1,h2 => by
  unfold firstFrom at h
  split at h
  ·rename_i h0
   by_cases e : j = k
   ·rw [e];exact h0
   ·exact firstFrom_none_zero h j (by omega) (by omega)
  ·cases h
theorem firstFrom_some_ne {c : Nat → Nat} {m : Nat} : ∀ {n k : Nat},firstFrom c k n = some m → c m ≠ 0
 | 0,_,h => by cases h
 | n + 1,k,h => by
  unfold firstFrom at h
  split at h
  ·exact firstFrom_some_ne h
  ·rename_i h0
   rw [← Option.some.inj h]
   exact h0
theorem first_none_zero {c : Nat → Nat} {n : Nat} (h : first c n = none) (j : Nat) (hj : j < n) : c j = 0 := firstFrom_none_zero h j (Nat.zero_le _) (by omega)
theorem first_some_ne {c : Nat → Nat} {n m : Nat} (h : first c n = some m) : c m ≠ 0 := firstFrom_some_ne h
theorem firstC_none {c : Nat → Nat} {n : Nat} (h : ∀ j,j < n → c j = 0) : firstC c n = 0 := by unfold firstC;rw [first_none h]
theorem firstC_some {c : Nat → Nat} {n m : Nat} (hm : m < n) (hc : c m ≠ 0) (h : ∀ j,j < m → c j = 0) : firstC c n = c m := by unfold firstC;rw [first_some hm hc h]
theorem firstC_zero {c : Nat → Nat} {n : Nat} (h : firstC c n = 0) (j : Nat) (hj : j < n) : c j = 0 := by
 unfold firstC at h
 cases hf : first c n with
 | none => exact first_none_zero hf j hj
 | some k =>
  rw [hf] at h
  exact absurd h (first_some_ne hf)
theorem firstC_const {c : Nat → Nat} {n d : Nat} (h : ∀ j,c j = 0 ∨ c j = d) : firstC c n = 0 ∨ firstC c n = d := by
 unfold firstC
 split
 ·exact h _
 ·exact .inl rfl
structure Small (r : Ru) : Prop where
 out : r.out.length ≤ 100
 kind : r.kind.length ≤ 60
 word : r.word.length ≤ 150
 many : r.ins.length ≤ 12
 ins : ∀ x ∈ r.ins,x.length ≤ 300
end Ru
abbrev ruV (r : Ru) (v : Value) : Value := .agg #[.string (ba r.out),.string (ba r.kind),.string (ba r.word),v]
def RuAt (w : World) (g o : Nat) (r : Ru) : Prop :=
 w.cell? ⟨g,o,none⟩ = some (.string (ba r.out)) ∧ w.cell? ⟨g,o + 1,none⟩ = some (.string (ba r.kind)) ∧ w.cell? ⟨g,o + 2,none⟩ = some (.string (ba r.word)) ∧ ∃ v,w.cell? ⟨g,o + 3,none⟩ = some v ∧ XRow w v r.ins
theorem RuAt.below {w w' : World} {g o : Nat} {r : Ru} (h : RuAt w g o r) (hb : Below w.heap.size w w') : RuAt w' g o r := by
 obtain ⟨h0,h1,h2,v,h3,h4⟩ := h
 exact ⟨cell_below' h0 hb,cell_below' h1 hb,cell_below' h2 hb,v,cell_below' h3 hb,h4.below hb⟩
def RRow (w : World) (v : Value) (l : List Ru) : Prop :=
 ∃ p cap,v = .slice p l.length cap ∧ l.length ≤ cap ∧ (p = none → cap = 0) ∧ (l ≠ [] → ∃ g o,p = some ⟨g,o,none⟩ ∧ g < w.heap.size ∧ ∀ j (hj : j < l.length),RuAt w g (o + j * 4) l[j])
theorem RRow.below {w w' : World} {v : Value} {l : List Ru} (h : RRow w v l) (hb : Below w.heap.size w w') : RRow w' v l := by
 obtain ⟨p,cap,e,h0,hn,h1⟩ := h
 refine ⟨p,cap,e,h0,hn,fun hl => ?_⟩
 obtain ⟨g,o,e,hg,hc⟩ := h1 hl
 exact ⟨g,o,e,Nat.lt_of_lt_of_le hg hb.size,fun j hj => (hc j hj).below hb⟩
theorem RRow.nil (w : World) : RRow w (.slice none 0 0) [] := ⟨none,0,rfl,Nat.le_refl _,fun _ => rfl,fun h => absurd rfl h⟩
end Go.Proofs.YthchjnopgagilaaGreatDoor
namespace Go.Proofs.YthchjnopgagilaaGreatDoor
open Go.RowKit Go.Shelf Go.Lib
open Go.Sort (grow Holds putRow)
open Af (Kd)
theorem one_of {l : List (List UInt8)} (h : l.length = 1) : ∃ x,l = [x] := by
 match l,h with
 | [x],_ => exact ⟨x,rfl⟩
theorem join_len (wd : List UInt8) : ∀ (ls : List (List UInt8)),(Lib.join ls wd).length ≤ (ls.map List.length).sum + ls.length * wd.length
 | [] => by simp [Lib.join]
 | [x] => by rw [Lib.join_one];simp
 | x :: y :: r => by
  have ih := join_len wd (y :: r)
  rw [Lib.join_cons] at ih ⊢
  simp only [Lib.joinTail,List.map_cons,List.flatten_cons,List.length_append,List.sum_cons,List.length_cons] at ih ⊢
  simp only [Nat.add_mul,Nat.one_mul] at ih ⊢
  omega
theorem ofOne_run {w : World} (i f : Nat) (wd x out : List UInt8) (pa : Option Addr) (cap : Nat) (hrow : TRow w (.slice pa [x].length cap) [x]) (W : World) (hW : Below w.heap.size w W) (hO : Objs W (w.heap.size + 1)) (hi : (kindsO (w.heap.size + 1))[i]? = some (.cells #[fn f] 326 (0,0)))
  (ef : ∀ args w,(callFunc f args).run Tryz.prog w = .ok (.enter f args) w)
  (HF : ∀ V,Below w.heap.size w V → Calls Tryz.prog f #[.string (ba wd),.string (ba x)] V fun e w' => e = .returned (.string (ba out)) ∧ Below V.heap.size V w') :
  Calls Tryz.prog 317 #[.string (ba wd),.slice pa [x].length cap,.pointer (some ⟨w.heap.size + 1 + 1 + i,0,none⟩)] W fun e w' => e = .returned (.string (ba out)) ∧ Below W.heap.size W w' := by
 obtain ⟨g,rfl,_,hc,hg⟩ := trow_one hrow hW
 have hb := objs_cell (i := i) (j := 0) hO hi rfl
 refine ofOne_calls (ba wd) _ x f (w.heap.size + 1 + 1 + i) g 1 cap W hb hc ?_ hg (by omega) ef (hid1 fun V hV => HF V (below_then hW hV))
 have hlt := (List.getElem?_eq_some_iff.1 hi).1
 exact (Array.getElem?_eq_some_iff.1 (hO i hlt)).1
theorem run_calls {w : World} {es el : Value} (hA : AW w es el) (wd : List UInt8) (hl : wd.length ≤ 100) (pa : Option Addr) (cap : Nat) (ls : List (List UInt8)) (hrow : TRow w (.slice pa ls.length cap) ls) (hx : ∀ x ∈ ls,x.length ≤ 3000) (k : Kd) (h1 : k.least ≤ ls.length) (h2 : ls.length ≤ k.most) (htk : k.takes wd = true)
  (W : World) (hW : Below w.heap.size w W) (hO : Objs W (w.heap.size + 1)) :
  Calls Tryz.prog (Af.rf k) (#[.string (ba wd),.slice pa ls.length cap] ++ Af.rc (w.heap.size + 1) k) W fun e w' => e = .returned (.string (ba (k.out wd ls))) ∧ Below W.heap.size W w' := by
 obtain ⟨m,hm⟩ := hA.len
 have hbig := hA.big
 have hx' : ∀ x ∈ ls,x.length ≤ 100000 := fun x h => Nat.le_trans (hx x h) (by omega)
 have hm8 : k.most ≤ 8 := by cases k <;> decide
 have h8 : ls.length ≤ 8 := by omega
 cases k
 ·exact kwrite_calls (ba wd) _ W
 ·refine kjoin_calls wd _ ls (by omega) ?_ W (hrow.below hW)
  have a1 := join_len wd ls
  have a2 := bytes_le hx' ls.length (Nat.le_refl _)
  rw [List.take_length] at a2
  have a3 : ls.length * wd.length ≤ 8 * 100 := Nat.mul_le_mul h8 hl
  unfold Af.bytes at a2
  omega
 ·obtain ⟨x,rfl⟩ := one_of (l := ls) (by simp [Af.Kd.least,Af.Kd.most] at h1 h2;omega)
  have hxx := hx x (by simp)
  exact ofOne_run 2 246 wd x (Af.upper x) pa cap hrow W hW hO rfl (enters_of Tryz.func246 (by kernel_rfl) rfl) fun V _ => kupper_calls (ba wd) x (by omega) V
 ·obtain ⟨x,rfl⟩ := one_of (l := ls) (by simp [Af.Kd.least,Af.Kd.most] at h1 h2;omega)
  have hxx := hx x (by simp)
  exact ofOne_run 3 248 wd x _ pa cap hrow W hW hO rfl (enters_of Tryz.func248 (by kernel_rfl) rfl) fun V hV => linesWith_calls wd x (by omega) m V (cell_below' hm hV) (by have := hV.size;omega)
 ·have hlen : (Af.told (Af.all ls)).length ≤ 100000000 := by
   refine Nat.le_trans (Af.told_all_len ls) ?_
   have : ∀ (l : List (List UInt8)),(∀ x ∈ l,x.length ≤ 3000) → (l.map fun x => x.length + 1).sum ≤ l.length * 3001 := fun l => by
    induction l with
    | nil => simp
    | cons x r ih =>
     intro h
     have i1 := ih fun y hy => h y (by simp [hy])
     have i2 := h x (by simp)
     simp only [List.map_cons,List.sum_cons,List.length_cons]
     omega
   have := this ls hx
   omega
  exact sorted_calls wd _ ls (by omega) hx' hlen m W (hrow.below hW) (cell_below' hm hW)
 ·exact kcount_calls (ba wd) _ ls (by omega) hx' m W (hrow.below hW) (cell_below' hm hW) (pow_below hA.pow hW)
 ·obtain ⟨x,rfl⟩ := one_of (l := ls) (by simp [Af.Kd.least,Af.Kd.most] at h1 h2;omega)
  have hxx := hx x (by simp)
  have ha : 1 ≤ (Lib.cut wd [61]).1.length := by
   have ht : Af.isSwap wd = true := htk
   unfold Af.isSwap at ht
   cases hc : (Lib.cut wd [61]).1 with
   | nil => rw [hc] at ht;simp at ht
   | cons a b => simp
  exact ofOne_run 8 253 wd x _ pa cap hrow W hW hO rfl (enters_of Tryz.func253 (by kernel_rfl) rfl) fun V hV => swap_calls wd x (by omega) (by omega) ha m V (cell_below' hm hV)
 ·obtain ⟨x,rfl⟩ := one_of (l := ls) (by simp [Af.Kd.least,Af.Kd.most] at h1 h2;omega)
  have hxx := hx x (by simp)
  obtain ⟨n,hn⟩ : ∃ n,numM 3 wd = some n := Option.isSome_iff_exists.1 htk
  have e : Kd.head.out wd [x] = Af.told ((Af.lines x).take n) := by simp [Af.Kd.out,hn]
  rw [e]
  exact ofOne_run 9 255 wd x _ pa cap hrow W hW hO rfl (enters_of Tryz.func255 (by kernel_rfl) rfl) fun V hV => head_calls wd x n hn (by omega) m V (cell_below' hm hV) (pow_below hA.pow hV)
structure AE (w : World) (er : Nat → Value) : Prop where
 aw : AW w (er 3) (er 10)
 syn : SynAt w
 kind : w.cell? ⟨8,0,none⟩ = some (er 5)
 iface : ∀ k,∃ t u,er (k + 1) = .iface t u
 zero : er 0 = .nilIface
theorem find_any {w : World} {er : Nat → Value} (h : AE w er) (nm wd : List UInt8) (n : Int) (hl : wd.length ≤ 1000000) :
  (Af.actE nm wd n = 0 ∧ ∃ k : Kd,Af.kindOf nm = some k ∧ (k.least : Int) ≤ n ∧ n ≤ k.most ∧ k.takes wd = true ∧ wd.length ≤ 100 ∧
   Calls Tryz.prog 116 #[.string (ba nm),.string (ba wd),.int .i64 n] w fun e w' => e = .returned (.tuple #[kd k.least k.most (tfn (Af.tf k) (Af.tc (w.heap.size + 1) k)) (tfn (Af.rf k) (Af.rc (w.heap.size + 1) k)),.nilIface]) ∧ Below w.heap.size w w' ∧ Objs w' (w.heap.size + 1)) ∨
  (Af.actE nm wd n ≠ 0 ∧ Calls Tryz.prog 116 #[.string (ba nm),.string (ba wd),.int .i64 n] w fun e w' => e = .returned (.tuple #[zkd,er (Af.actE nm wd n)]) ∧ Below w.heap.size w w') := by
 have hA := h.aw
 have hbig := hA.big
 cases hk : Af.kindOf nm with
 | none =>
  refine .inr ⟨by simp [Af.actE,hk],?_⟩
  have e : Af.actE nm wd n = 5 := by simp [Af.actE,hk]
  rw [e]
  exact find_none (ba nm) (ba wd) n (er 5) w h.kind (by omega) fun B => found_none hk B
 | some k =>
  have hnm := Af.kindOf_some hk
  have hf := found k (w.heap.size + 1)
  rw [← hnm] at hf
  have HT := hid1 fun W hW hO => takes_calls hA h.syn wd hl k W hW hO
  have e : Af.actE nm wd n = (if n < k.least ∨ (k.most : Int) < n ∨ k.takes wd = false then 3 else if 100 < wd.length then 10 else 0) := by simp [Af.actE,hk]
  rw [e]
  by_cases h1 : n < k.least
  ·rw [if_pos (.inl h1)]
   refine .inr ⟨by decide,?_⟩
   exact (find_low (ba nm) (ba wd) n k.least k.most _ _ _ _ (k.takes wd) (er 3) (er 10) w hA.shape hA.long hA.big _ hf (tf_enters k) HT h1).mono fun e w' ⟨p,q,_⟩ => ⟨p,q⟩
  by_cases h2 : (k.most : Int) < n
  ·rw [if_pos (.inr (.inl h2))]
   refine .inr ⟨by decide,?_⟩
   exact (find_high (ba nm) (ba wd) n k.least k.most _ _ _ _ (k.takes wd) (er 3) (er 10) w hA.shape hA.long hA.big _ hf (tf_enters k) HT ⟨by omega,h2⟩).mono fun e w' ⟨p,q,_⟩ => ⟨p,q⟩
  cases h3 : k.takes wd with
  | false =>
   rw [if_pos (.inr (.inr rfl))]
   refine .inr ⟨by decide,?_⟩
   exact (find_no (ba nm) (ba wd) n k.least k.most _ _ _ _ (k.takes wd) (er 3) (er 10) w hA.shape hA.long hA.big _ hf (tf_enters k) HT ⟨by omega,by omega,h3⟩).mono fun e w' ⟨p,q,_⟩ => ⟨p,q⟩
  | true =>
   have hno : ¬ (n < k.least ∨ (k.most : Int) < n ∨ true = false) := by simp;omega
   rw [if_neg hno]
   by_cases h4 : 100 < wd.length
   ·rw [if_pos h4]
    refine .inr ⟨by decide,?_⟩
    exact (find_long (ba nm) (ba wd) n k.least k.most _ _ _ _ (k.takes wd) (er 3) (er 10) w hA.shape hA.long hA.big _ hf (tf_enters k) HT ⟨by omega,by omega,h3,by rw [ba_size];exact h4⟩).mono fun e w' ⟨p,q,_⟩ => ⟨p,q⟩
   ·rw [if_neg h4]
    refine .inl ⟨rfl,k,rfl,by omega,by omega,h3,by omega,?_⟩
    exact find_good (ba nm) (ba wd) n k.least k.most _ _ _ _ (k.takes wd) (er 3) (er 10) w hA.shape hA.long hA.big _ hf (tf_enters k) HT ⟨by omega,by omega,h3,by rw [ba_size];omega⟩
theorem Check_any {w : World} {er : Nat → Value} (h : AE w er) (nm wd : List UInt8) (n : Int) (hl : wd.length ≤ 1000000) :
  Calls Tryz.prog 38 #[.string (ba nm),.string (ba wd),.int .i64 n] w fun e w' => e = .returned (er (Af.actE nm wd n)) ∧ Below w.heap.size w w' := by
 rcases find_any h nm wd n hl with ⟨e0,k,_,_,_,_,_,hf⟩ | ⟨_,hf⟩
 ·rw [e0,h.zero]
  exact Check_calls (ba nm) (ba wd) n _ _ _ _ .nilIface w rfl rfl (hid1 (hf.mono fun e w' ⟨p,q,_⟩ => ⟨p,q⟩))
 ·exact Check_calls (ba nm) (ba wd) n 0 0 .nilFunc .nilFunc _ w rfl rfl (hid1 hf)
end Go.Proofs.YthchjnopgagilaaGreatDoor
namespace Go.Proofs.YthchjnopgagilaaGreatDoor
open Go.RowKit Go.Extern.Stop Go.Stop Go.Extern
theorem Tryz.isTypeOf (v : Value) (w : World) : (callFunc 229 #[.iface 430 v]).run Tryz.prog w = .ok (.value (.iface 364 (.agg #[.pointer (some ⟨21,430,none⟩)]))) w := by kernel_rfl
theorem Tryz.isComparable (w : World) : (callFunc 407 #[.agg #[.pointer (some ⟨21,430,none⟩)]]).run Tryz.prog w = .ok (.value (.bool true)) w := by kernel_rfl
theorem Tryz.isMethodComparable (v : Value) (w : World) : (Go.method 564 364 v "Comparable").run Tryz.prog w = .ok (407, v) w := by kernel_rfl
theorem Tryz.isComp : (Tryz.prog.info? 430).map (·.comparable) = some true := by kernel_rfl
theorem Tryz.isSize : (Tryz.prog.info? 432).map (·.size) = some 1 := by kernel_rfl
theorem Tryz.noIsE (v : Value) (xT : TypeId) (w : World) : (Instr.typeAssert (.iface 430 v) xT 375 true).run Tryz.prog w = .ok (.tuple #[.nilIface,.bool false]) w := run_typeAssert_lacksB Tryz.underlying375 (by kernel_rfl) (by kernel_rfl) v xT w
theorem Tryz.noAsE (v : Value) (xT : TypeId) (w : World) : (Instr.typeAssert (.iface 430 v) xT 368 true).run Tryz.prog w = .ok (.tuple #[.nilIface,.bool false]) w := run_typeAssert_lacksB Tryz.underlying368 (by kernel_rfl) (by kernel_rfl) v xT w
theorem Tryz.noUnwrapE (v : Value) (xT : TypeId) (w : World) : (Instr.typeAssert (.iface 430 v) xT 371 true).run Tryz.prog w = .ok (.tuple #[.nilIface,.bool false]) w := run_typeAssert_lacksB Tryz.underlying371 (by kernel_rfl) (by kernel_rfl) v xT w
theorem Tryz.noUnwrapsE (v : Value) (xT : TypeId) (w : World) : (Instr.typeAssert (.iface 430 v) xT 373 true).run Tryz.prog w = .ok (.tuple #[.nilIface,.bool false]) w := run_typeAssert_lacksB Tryz.underlying373 (by kernel_rfl) (by kernel_rfl) v xT w
theorem is_same (a : Addr) (w : World) :
  Calls Tryz.prog 168 #[.iface 430 (.pointer (some a)),.iface 430 (.pointer (some a))] w fun e w' => e = .returned (.bool true) ∧ w' = w := by
 obtain ⟨i,hi,hcmp⟩ := Option.map_eq_some_iff.1 Tryz.isComp
 obtain ⟨j,hj,hjs⟩ := Option.map_eq_some_iff.1 Tryz.isSize
 have tT := Tryz.isTypeOf
 have cT := Tryz.isComparable
 have mR := Tryz.isMethodComparable
 have heq := run_eql_iface_ptr_same (P := Tryz.prog) w a Tryz.underlying25 Tryz.underlying430 hi hcmp hj
 go_enter Tryz.func168,Tryz.ntmps168
 go_wp2
 refine wp_loop_rounds 1 ?_
 rw [rounds_succ]
 go_wp2
 go_ret
 exact ⟨rfl,rfl⟩
theorem is_other (a b : Addr) (ca cb : Array Value) (ta tb : TypeId) (w : World) (hne : a ≠ b) (ha : w.heap[a.block]? = some (.cells ca ta (0,0))) (hb : w.heap[b.block]? = some (.cells cb tb (0,0))) :
  Calls Tryz.prog 168 #[.iface 430 (.pointer (some a)),.iface 430 (.pointer (some b))] w fun e w' => e = .returned (.bool false) ∧ w' = w := by
 obtain ⟨i,hi,hcmp⟩ := Option.map_eq_some_iff.1 Tryz.isComp
 obtain ⟨j,hj,hjs⟩ := Option.map_eq_some_iff.1 Tryz.isSize
 have tT := Tryz.isTypeOf
 have cT := Tryz.isComparable
 have mR := Tryz.isMethodComparable
 have nE := Tryz.noIsE
 have uE := Tryz.noUnwrapE
 have vE := Tryz.noUnwrapsE
 have heq := run_eql_iface_ptr_other (P := Tryz.prog) w Tryz.underlying25 Tryz.underlying430 hi hcmp hj (by rw [hjs];decide) hne ha hb
 go_enter Tryz.func168,Tryz.ntmps168
 go_wp2
 refine wp_loop_rounds 1 ?_
 rw [rounds_succ]
 go_wp2
 go_ret
 exact ⟨rfl,rfl⟩
end Go.Proofs.YthchjnopgagilaaGreatDoor
namespace Go.Proofs.YthchjnopgagilaaGreatDoor
open Go.RowKit Go.Extern.Stop Go.Stop Go.Extern
theorem Tryz.valueOfP (t : Addr) (w : World) : (callFunc 225 #[.iface 250 (.pointer (some t))]).run Tryz.prog w
  = .ok (.value (.agg #[.pointer (some ⟨21,250,none⟩),.pointer (some ⟨w.heap.size,0,none⟩),.int .u64 150])) (w.alloc (.cells #[.pointer (some t)] 250)) := by kernel_rfl
theorem Tryz.typeP (a : Addr) (w : World) : (callFunc 226 #[.agg #[.pointer (some ⟨21,250,none⟩),.pointer (some a),.int .u64 150]]).run Tryz.prog w
  = .ok (.value (.iface 364 (.agg #[.pointer (some ⟨21,250,none⟩)]))) w := by kernel_rfl
theorem Tryz.methodKind (h : Value) (w : World) : (Go.method 564 364 (.agg #[h]) "Kind").run Tryz.prog w = .ok (395, h) w := by kernel_rfl
theorem Tryz.methodElem (h : Value) (w : World) : (Go.method 564 364 (.agg #[h]) "Elem").run Tryz.prog w = .ok (408, .agg #[h]) w := by kernel_rfl
theorem Tryz.methodImplements (h : Value) (w : World) : (Go.method 564 364 (.agg #[h]) "Implements").run Tryz.prog w = .ok (409, .agg #[h]) w := by kernel_rfl
theorem Tryz.methodAssignableTo (h : Value) (w : World) : (Go.method 564 364 (.agg #[h]) "AssignableTo").run Tryz.prog w = .ok (406, .agg #[h]) w := by kernel_rfl
theorem Tryz.kindP (w : World) : (callFunc 395 #[.pointer (some ⟨21,250,none⟩)]).run Tryz.prog w = .ok (.value (.int .u8 22)) w := by kernel_rfl
theorem Tryz.kindF (w : World) : (callFunc 395 #[.pointer (some ⟨21,200,none⟩)]).run Tryz.prog w = .ok (.value (.int .u8 22)) w := by kernel_rfl
theorem Tryz.elemP (w : World) : (callFunc 408 #[.agg #[.pointer (some ⟨21,250,none⟩)]]).run Tryz.prog w = .ok (.value (.iface 364 (.agg #[.pointer (some ⟨21,200,none⟩)]))) w := by kernel_rfl
theorem Tryz.implementsF (w : World) : (callFunc 409 #[.agg #[.pointer (some ⟨21,200,none⟩)],.iface 364 (.agg #[.pointer (some ⟨21,25,none⟩)])]).run Tryz.prog w = .ok (.value (.bool true)) w := by kernel_rfl
theorem Tryz.typeOfF (v : Value) (w : World) : (callFunc 229 #[.iface 200 v]).run Tryz.prog w = .ok (.value (.iface 364 (.agg #[.pointer (some ⟨21,200,none⟩)]))) w := by kernel_rfl
theorem Tryz.assignableF (w : World) : (callFunc 406 #[.agg #[.pointer (some ⟨21,200,none⟩)],.iface 364 (.agg #[.pointer (some ⟨21,200,none⟩)])]).run Tryz.prog w = .ok (.value (.bool true)) w := by kernel_rfl
theorem Tryz.assignableE (w : World) : (callFunc 406 #[.agg #[.pointer (some ⟨21,430,none⟩)],.iface 364 (.agg #[.pointer (some ⟨21,200,none⟩)])]).run Tryz.prog w = .ok (.value (.bool false)) w := by kernel_rfl
theorem Tryz.valueOfF (e : Addr) (w : World) : (callFunc 225 #[.iface 200 (.pointer (some e))]).run Tryz.prog w
  = .ok (.value (.agg #[.pointer (some ⟨21,200,none⟩),.pointer (some ⟨w.heap.size,0,none⟩),.int .u64 150])) (w.alloc (.cells #[.pointer (some e)] 200)) := by kernel_rfl
theorem rlm (z : Sem Value) (f : TypeId → Addr → Nat → Nat → Sem Value) (v : Value) :
  ReflectliteValue.method z f #[v] = (do match ← ReflectliteValue.parts v with | none => z | some (t,a,fl) => f t a fl (fl % 32)) := rfl
theorem Tryz.partsP (a : Addr) (w : World) : (ReflectliteValue.parts (.agg #[.pointer (some ⟨21,250,none⟩),.pointer (some a),.int .u64 150])).run Tryz.prog w = .ok (some (250,a,150)) w := by kernel_rfl
theorem Tryz.isNilP (a p : Addr) (W : World) (ha : W.cell? a = some (.pointer (some p))) :
  (ReflectliteValue.method (ReflectliteValue.valueError "reflectlite.Value.IsNil" 0) ReflectliteValue.isNil #[.agg #[.pointer (some ⟨21, 250, none⟩), .pointer (some a), .int .u64 150]]).run Tryz.prog W = .ok (.bool false) W := by
 rw [rlm]
 simp only [Sem.run_bind,Tryz.partsP,Result.andThen]
 simp [ReflectliteValue.isNil,loadVar,isAgg,underlying,Tryz.underlying250,ha,Result.andThen]
theorem as_miss (x t : Addr) (w : World) (hg : w.cell? ⟨12,0,none⟩ = some (.iface 364 (.agg #[.pointer (some ⟨21,25,none⟩)]))) :
  Calls Tryz.prog 167 #[.iface 430 (.pointer (some x)),.iface 250 (.pointer (some t))] w fun ev w' => ev = .returned (.bool false) ∧ Below w.heap.size w w' := by
 have h8 := @run_callFunc_extern Tryz.prog 227 _ (ReflectliteValue.method (ReflectliteValue.valueError "reflectlite.Value.IsNil" 0) ReflectliteValue.isNil) Tryz.func227 (by kernel_rfl) (by kernel_rfl) (by kernel_rfl) (by kernel_rfl)
 have tO := Tryz.isTypeOf
 have mA := Tryz.methodAssignableTo
 have aE := Tryz.assignableE
 have f6 := Tryz.valueOfP
 have f7 := Tryz.typeP
 have mK := Tryz.methodKind
 have mE := Tryz.methodElem
 have mI := Tryz.methodImplements
 have k27 := Tryz.kindP
 have k25 := Tryz.kindF
 have e27 := Tryz.elemP
 have i25 := Tryz.implementsF
 have nE := Tryz.noAsE
 have uE := Tryz.noUnwrapE
 have vE := Tryz.noUnwrapsE
 have n8 := Tryz.isNilP ⟨w.heap.size,0,none⟩ t ((w.alloc (.cells #[.pointer (some t)] 250)).alloc (.cells #[.pointer (some ⟨21,250,none⟩),.pointer (some ⟨w.heap.size,0,none⟩),.int .u64 150] 307)) (by simp)
 have hlt : 12 < w.heap.size := by
  rcases Nat.lt_or_ge 12 w.heap.size with h | h
  ·exact h
  ·simp [World.cell?,Array.getElem?_eq_none h] at hg
 have hg2 : ((w.alloc (.cells #[.pointer (some t)] 250)).alloc (.cells #[.pointer (some ⟨21,250,none⟩),.pointer (some ⟨w.heap.size,0,none⟩),.int .u64 150] 307)).cell? ⟨12,0,none⟩ = some (.iface 364 (.agg #[.pointer (some ⟨21,25,none⟩)])) := by
  rw [World.cell?_alloc_lt _ _ ⟨12,0,none⟩ (by simp;omega),World.cell?_alloc_lt _ _ ⟨12,0,none⟩ hlt];exact hg
 go_enter Tryz.func167,Tryz.ntmps167
 go_wp2
 refine wp_loop_rounds 1 ?_
 rw [rounds_succ]
 go_wp2
 go_ret
 exact ⟨rfl,(((Below.refl _ w).alloc (Nat.le_refl _) _).alloc (by simp) _).alloc (by simp;omega) _⟩
end Go.Proofs.YthchjnopgagilaaGreatDoor
namespace Go.Proofs.YthchjnopgagilaaGreatDoor
open Go.RowKit Go.Extern.Stop Go.Stop Go.Extern
structure E12 (w : World) (es : Nat → Addr) : Prop where
 c0 : w.cell? ⟨0,0,none⟩ = some (.iface 430 (.pointer (some (es 0))))
 c1 : w.cell? ⟨4,0,none⟩ = some (.iface 430 (.pointer (some (es 1))))
 c2 : w.cell? ⟨1,0,none⟩ = some (.iface 430 (.pointer (some (es 2))))
 c3 : w.cell? ⟨7,0,none⟩ = some (.iface 430 (.pointer (some (es 3))))
 c4 : w.cell? ⟨8,0,none⟩ = some (.iface 430 (.pointer (some (es 4))))
 c5 : w.cell? ⟨2,0,none⟩ = some (.iface 430 (.pointer (some (es 5))))
 c6 : w.cell? ⟨9,0,none⟩ = some (.iface 430 (.pointer (some (es 6))))
 c7 : w.cell? ⟨10,0,none⟩ = some (.iface 430 (.pointer (some (es 7))))
 c8 : w.cell? ⟨11,0,none⟩ = some (.iface 430 (.pointer (some (es 8))))
 c9 : w.cell? ⟨3,0,none⟩ = some (.iface 430 (.pointer (some (es 9))))
 c10 : w.cell? ⟨6,0,none⟩ = some (.iface 430 (.pointer (some (es 10))))
 c11 : w.cell? ⟨5,0,none⟩ = some (.iface 430 (.pointer (some (es 11))))
 t : w.cell? ⟨12,0,none⟩ = some (.iface 364 (.agg #[.pointer (some ⟨21,25,none⟩)]))
 rows : ∀ k,k < 12 → ∃ c t,w.heap[(es k).block]? = some (.cells c t (0,0))
 inj : ∀ j k,j < 12 → k < 12 → j ≠ k → es j ≠ es k
theorem blt_of_cell {w : World} {a : Addr} {v : Value} (h : w.cell? a = some v) : a.block < w.heap.size := by
 rcases Nat.lt_or_ge a.block w.heap.size with h' | h'
 ·exact h'
 ·simp [World.cell?,Array.getElem?_eq_none h'] at h
theorem cell_below {w w' : World} {a : Addr} {v : Value} (h : w.cell? a = some v) (hb : Below w.heap.size w w') : w'.cell? a = some v := (hb.cell (p := a) (blt_of_cell h)).trans h
theorem row_below {w w' : World} {b : Nat} {o : Obj} (h : w.heap[b]? = some o) (hb : Below w.heap.size w w') : w'.heap[b]? = some o := (hb.block b (Array.getElem?_eq_some_iff.1 h).1).trans h
theorem E12.below {w w' : World} {es : Nat → Addr} (h : E12 w es) (hb : Below w.heap.size w w') : E12 w' es :=
 ⟨cell_below h.c0 hb,cell_below h.c1 hb,cell_below h.c2 hb,cell_below h.c3 hb,cell_below h.c4 hb,cell_below h.c5 hb,cell_below h.c6 hb,cell_below h.c7 hb,cell_below h.c8 hb,cell_below h.c9 hb,cell_below h.c10 hb,cell_below h.c11 hb,cell_below h.t hb,
  fun k hk => by obtain ⟨c,t,hc⟩ := h.rows k hk;exact ⟨c,t,row_below hc hb⟩,h.inj⟩
def codeOf (es : Nat → Addr) (x : Addr) : Int :=
 match (List.range 12).find? (fun k => decide (es k = x)) with
 | some k => (k : Int) + 1
 | none => -1
theorem codeOf_none {es : Nat → Addr} {x : Addr} (h : ∀ j,j < 12 → es j ≠ x) : codeOf es x = -1 := by
 have : (List.range 12).find? (fun k => decide (es k = x)) = none := by
  rw [List.find?_eq_none]
  intro k hk
  simpa using h k (List.mem_range.1 hk)
 unfold codeOf
 rw [this]
theorem codeOf_some {es : Nat → Addr} {x : Addr} {k : Nat} (hk : k < 12) (he : es k = x) (h : ∀ j,j < k → es j ≠ x) : codeOf es x = (k : Int) + 1 := by
 have : (List.range 12).find? (fun k => decide (es k = x)) = some k := by
  rw [List.find?_range_eq_some]
  simp [he,hk]
  exact fun j hj => h j hj
 unfold codeOf
 rw [this]
theorem Code_nil (w : World) : Calls Tryz.prog 101 #[.nilIface] w fun e w' => e = .returned (.tuple #[.int .i64 0,.int .i64 (-1)]) ∧ w' = w := by
 go_enter Tryz.func101,Tryz.ntmps101
 go_wp2
 go_ret2
 exact ⟨rfl,rfl⟩
def esV (es : Nat → Addr) : Array Value := #[.iface 430 (.pointer (some (es 0))),.iface 430 (.pointer (some (es 1))),.iface 430 (.pointer (some (es 2))),.iface 430 (.pointer (some (es 3))),.iface 430 (.pointer (some (es 4))),.iface 430 (.pointer (some (es 5))),.iface 430 (.pointer (some (es 6))),.iface 430 (.pointer (some (es 7))),.iface 430 (.pointer (some (es 8))),.iface 430 (.pointer (some (es 9))),.iface 430 (.pointer (some (es 10))),.iface 430 (.pointer (some (es 11)))]
theorem es_cells (es : Nat → Addr) (w : World) (k : Nat) (hk : k < 12) : (w.alloc (.cells (esV es) 25)).cell? ⟨w.heap.size,k,none⟩ = some (.iface 430 (.pointer (some (es k)))) := by
 have : k = 0 ∨ k = 1 ∨ k = 2 ∨ k = 3 ∨ k = 4 ∨ k = 5 ∨ k = 6 ∨ k = 7 ∨ k = 8 ∨ k = 9 ∨ k = 10 ∨ k = 11 := by omega
 rcases this with rfl | rfl | rfl | rfl | rfl | rfl | rfl | rfl | rfl | rfl | rfl | rfl <;> simp [esV]
theorem Code_ptr (x : Addr) (es : Nat → Addr) (cx : Array Value) (tx : TypeId) (w : World) (hE : E12 w es) (hx : w.heap[x.block]? = some (.cells cx tx (0,0))) :
  Calls Tryz.prog 101 #[.iface 430 (.pointer (some x))] w fun e w' => e = .returned (.tuple #[.int .i64 (codeOf es x),.int .i64 (-1)]) ∧ Below w.heap.size w w' := by
 have hB0 : Below w.heap.size w (w.alloc (.cells #[.pointer none] 200)) := (Below.refl _ w).alloc (Nat.le_refl _) _
 have hE0 := hE.below hB0
 go_enter Tryz.func101,Tryz.ntmps101
 go_wp2_with fail
 refine (as_miss x _ _ hE0.t).mono ?_
 rintro e w1 ⟨rfl,hb1'⟩
 have hB1 := hB0.trans (hb1'.mono hB0.size)
 have hE1 := hE.below hB1
 have hx1 := row_below hx hB1
 have k0 := hE1.c0;have k1 := hE1.c1;have k2 := hE1.c2;have k3 := hE1.c3;have k4 := hE1.c4;have k5 := hE1.c5
 have k6 := hE1.c6;have k7 := hE1.c7;have k8 := hE1.c8;have k9 := hE1.c9;have k10 := hE1.c10;have k11 := hE1.c11
 clear hE0 hB0 hb1'
 go_wp2
 have hB2 : Below w1.heap.size w1 (w1.alloc (.cells (esV es) 25)) := (Below.refl _ w1).alloc (Nat.le_refl _) _
 have hE2 := hE1.below hB2
 have hx2 := row_below hx1 hB2
 have hBB := hB1.trans (hB2.mono hB1.size)
 have hsl := es_cells es w1
 unfold esV at hB2 hE2 hx2 hBB hsl
 clear k0 k1 k2 k3 k4 k5 k6 k7 k8 k9 k10 k11 hE1 hB2 hx1 hE hx
 generalize w1.alloc _ = W2 at *
 have HE : Hid (E12 W2 es) := hE2
 clear hE2
 go_loop [3,30] (fun a i => a = .int .i64 (-1) ∧ ∃ k : Nat,k ≤ 12 ∧ i = .int .i64 k ∧ ∀ j,j < k → es j ≠ x) (fun _ i => 12 - (intOf i).toNat)
 case atStart => exact ⟨rfl,0,by omega,rfl,fun j hj => by omega⟩
 case round =>
  obtain ⟨rfl,k,hk,rfl,hno⟩ := hrel
  have HN : Hid (∀ j,j < k → es j ≠ x) := hno
  clear hno
  by_cases hlt : k < 12
  ·have hck := hsl k hlt
   have hlt' : (k : Int) < 12 := by omega
   have hk0 : (0 : Int) ≤ (k : Int) := by omega
   by_cases hek : es k = x
   ·have hc := codeOf_some hlt hek HN.out
    have HC : Hid (codeOf es x = (k : Int) + 1) := hc
    have HK : Hid (es k = x) := hek
    clear hc hsl hek
    go_wp2_with fail
    rw [HK.out]
    refine (is_same x _).mono ?_
    rintro e w' ⟨rfl,rfl⟩
    go_wp2
    go_ret2
    exact ⟨by rw [HC.out];rfl,hBB⟩
   ·obtain ⟨c,t,hr⟩ := HE.out.rows k hlt
    have hio := is_other x (es k) cx c tx t W2 (fun e => hek e.symm) hx2 hr
    have HI : Hid (Calls Tryz.prog 168 #[.iface 430 (.pointer (some x)),.iface 430 (.pointer (some (es k)))] W2 fun e w' => e = .returned (.bool false) ∧ w' = W2) := hio
    have HK : Hid (¬ es k = x) := hek
    clear hio hsl hek hr
    go_wp2_with fail
    refine HI.out.mono ?_
    rintro e w' ⟨rfl,rfl⟩
    go_wp2
    go_round
    case rel =>
     refine ⟨rfl,k + 1,by omega,by go_num,fun j hj => ?_⟩
     rcases Nat.lt_or_ge j k with h | h
     ·exact HN.out j h
     ·obtain rfl : j = k := by omega
      exact HK.out
    case measure => simp [intOf];omega
  ·have hc := codeOf_none (es := es) (x := x) (fun j hj => HN.out j (by omega))
   have HC : Hid (codeOf es x = -1) := hc
   have hge : (12 : Int) ≤ (k : Int) := by omega
   clear hc hsl
   go_wp2
   go_ret2
   exact ⟨by rw [HC.out];rfl,hBB⟩
end Go.Proofs.YthchjnopgagilaaGreatDoor
namespace Go.Proofs.YthchjnopgagilaaGreatDoor
open Go.RowKit Go.Extern.Stop Go.Stop Go.Extern
theorem Tryz.elemOfP (w : World) : (Rtype.elem? 250).run Tryz.prog w = .ok (some 200) w := by kernel_rfl
theorem Tryz.mkF (p : Addr) (w : World) : (ReflectliteValue.mk 200 p ReflectliteValue.flagAddr).run Tryz.prog w = .ok (.agg #[.pointer (some ⟨21,200,none⟩),.pointer (some p),.int .u64 406]) w := by kernel_rfl
theorem Tryz.elemVP (a p : Addr) (W : World) (ha : W.cell? a = some (.pointer (some p))) :
  (ReflectliteValue.method (ReflectliteValue.valueError "reflectlite.Value.Elem" 0) ReflectliteValue.elem #[.agg #[.pointer (some ⟨21, 250, none⟩), .pointer (some a), .int .u64 150]]).run Tryz.prog W
   = .ok (.agg #[.pointer (some ⟨21,200,none⟩),.pointer (some p),.int .u64 406]) W := by
 rw [rlm]
 simp only [Sem.run_bind,Tryz.partsP,Result.andThen]
 simp [ReflectliteValue.elem,loadVar,isAgg,underlying,Tryz.underlying250,ha,Result.andThen,Tryz.elemOfP,Tryz.mkF]
theorem rls (v x : Value) : ReflectliteValue.set #[v,x] = (do
  let (some (dst,a,fl),some (src,b,_)) := (← ReflectliteValue.parts v,← ReflectliteValue.parts x)
   | unsupported (.noEntry "extern/(internal/reflectlite.Value).Set.zeroValue")
  if fl / ReflectliteValue.flagAddr % 2 == 0 then unsupported (.noEntry "extern/(internal/reflectlite.Value).Set.unaddressable")
  let val ← loadVar src b
  if ← Rtype.directlyAssignable dst src then storeVar dst a val
  else if ← Rtype.implements dst src then
   if (← Rtype.kind src) == 20 then
    match val with
    | .nilIface => unsupported (.noEntry "extern/reflectlite: a nil value of one interface type handed on as a value of another")
    | _ => storeVar dst a val
   else storeVar dst a (.iface src val)
  else panicString ("reflectlite.Set: value of type " ++ (← Rtype.spelt src) ++ " is not assignable to type " ++ (← Rtype.spelt dst))
  pure (.tuple #[])) := rfl
theorem Tryz.partsFa (a : Addr) (w : World) : (ReflectliteValue.parts (.agg #[.pointer (some ⟨21,200,none⟩),.pointer (some a),.int .u64 406])).run Tryz.prog w = .ok (some (200,a,406)) w := by kernel_rfl
theorem Tryz.partsF (a : Addr) (w : World) : (ReflectliteValue.parts (.agg #[.pointer (some ⟨21,200,none⟩),.pointer (some a),.int .u64 150])).run Tryz.prog w = .ok (some (200,a,150)) w := by kernel_rfl
theorem Tryz.directF (w : World) : (Rtype.directlyAssignable 200 200).run Tryz.prog w = .ok true w := by kernel_rfl
theorem Tryz.setF (ta b e : Addr) (old : Value) (W : World) (hb : W.cell? b = some (.pointer (some e))) (ht : W.cell? ta = some old) (hf : W.frozen? ta = false) :
  (ReflectliteValue.set #[.agg #[.pointer (some ⟨21,200,none⟩),.pointer (some ta),.int .u64 406],.agg #[.pointer (some ⟨21,200,none⟩),.pointer (some b),.int .u64 150]]).run Tryz.prog W
   = .ok (.tuple #[]) (W.setCell ta (.pointer (some e))) := by
 rw [rls]
 simp only [Sem.run_bind,Tryz.partsFa,Tryz.partsF,Result.andThen]
 simp [ReflectliteValue.flagAddr,loadVar,isAgg,underlying,Tryz.underlying200,hb,Result.andThen,Tryz.directF,storeVar,Value.cells,storeCells,Addr.add]
 rw [run_store Tryz.prog W ta _ _ (by rfl)]
 simp [ht,hf]
theorem as_hit (e t : Addr) (old : Value) (w : World) (hg : w.cell? ⟨12,0,none⟩ = some (.iface 364 (.agg #[.pointer (some ⟨21,25,none⟩)]))) (ht0 : w.cell? t = some old) (hf0 : w.frozen? t = false) :
  Calls Tryz.prog 167 #[.iface 200 (.pointer (some e)),.iface 250 (.pointer (some t))] w fun ev w' => ev = .returned (.bool true) ∧ w' = ((((w.alloc (.cells #[.pointer (some t)] 250)).alloc (.cells #[.pointer (some ⟨21,250,none⟩),.pointer (some ⟨w.heap.size,0,none⟩),.int .u64 150] 307)).alloc (.cells #[.pointer (some ⟨21,250,none⟩),.pointer (some ⟨w.heap.size,0,none⟩),.int .u64 150] 307)).alloc (.cells #[.pointer (some e)] 200)).setCell t (.pointer (some e)) := by
 have h8 := @run_callFunc_extern Tryz.prog 227 _ (ReflectliteValue.method (ReflectliteValue.valueError "reflectlite.Value.IsNil" 0) ReflectliteValue.isNil) Tryz.func227 (by kernel_rfl) (by kernel_rfl) (by kernel_rfl) (by kernel_rfl)
 have h11 := @run_callFunc_extern Tryz.prog 305 _ (ReflectliteValue.method (ReflectliteValue.valueError "reflectlite.Value.Elem" 0) ReflectliteValue.elem) Tryz.func305 (by kernel_rfl) (by kernel_rfl) (by kernel_rfl) (by kernel_rfl)
 have h12 := @run_callFunc_extern Tryz.prog 306 _ ReflectliteValue.set Tryz.func306 (by kernel_rfl) (by kernel_rfl) (by kernel_rfl) (by kernel_rfl)
 have tO := Tryz.typeOfF
 have mA := Tryz.methodAssignableTo
 have a25 := Tryz.assignableF
 have v25 := Tryz.valueOfF
 have f6 := Tryz.valueOfP
 have f7 := Tryz.typeP
 have mK := Tryz.methodKind
 have mE := Tryz.methodElem
 have mI := Tryz.methodImplements
 have k27 := Tryz.kindP
 have k25 := Tryz.kindF
 have e27 := Tryz.elemP
 have i25 := Tryz.implementsF
 have n8 := Tryz.isNilP ⟨w.heap.size,0,none⟩ t ((w.alloc (.cells #[.pointer (some t)] 250)).alloc (.cells #[.pointer (some ⟨21,250,none⟩),.pointer (some ⟨w.heap.size,0,none⟩),.int .u64 150] 307)) (by simp)
 have hlt : 12 < w.heap.size := by
  rcases Nat.lt_or_ge 12 w.heap.size with h | h
  ·exact h
  ·simp [World.cell?,Array.getElem?_eq_none h] at hg
 have hg2 : ((w.alloc (.cells #[.pointer (some t)] 250)).alloc (.cells #[.pointer (some ⟨21,250,none⟩),.pointer (some ⟨w.heap.size,0,none⟩),.int .u64 150] 307)).cell? ⟨12,0,none⟩ = some (.iface 364 (.agg #[.pointer (some ⟨21,25,none⟩)])) := by
  rw [World.cell?_alloc_lt _ _ ⟨12,0,none⟩ (by simp;omega),World.cell?_alloc_lt _ _ ⟨12,0,none⟩ hlt];exact hg
 have htl : t.block < w.heap.size := by
  rcases Nat.lt_or_ge t.block w.heap.size with h | h
  ·exact h
  ·simp [World.cell?,Array.getElem?_eq_none h] at ht0
 have el := Tryz.elemVP ⟨w.heap.size,0,none⟩ t (((w.alloc (.cells #[.pointer (some t)] 250)).alloc (.cells #[.pointer (some ⟨21,250,none⟩),.pointer (some ⟨w.heap.size,0,none⟩),.int .u64 150] 307)).alloc (.cells #[.pointer (some ⟨21,250,none⟩),.pointer (some ⟨w.heap.size,0,none⟩),.int .u64 150] 307)) (by rw [World.cell?_alloc_lt _ _ ⟨w.heap.size,0,none⟩ (by simp;omega)];simp)
 have st := Tryz.setF t ⟨w.heap.size + 1 + 1 + 1,0,none⟩ e old ((((w.alloc (.cells #[.pointer (some t)] 250)).alloc (.cells #[.pointer (some ⟨21,250,none⟩),.pointer (some ⟨w.heap.size,0,none⟩),.int .u64 150] 307)).alloc (.cells #[.pointer (some ⟨21,250,none⟩),.pointer (some ⟨w.heap.size,0,none⟩),.int .u64 150] 307)).alloc (.cells #[.pointer (some e)] 200))
  (by rw [World.cell?_alloc_at _ _ _ _ (by simp)];rfl)
  (by rw [World.cell?_alloc_lt _ _ t (by simp;omega),World.cell?_alloc_lt _ _ t (by simp;omega),World.cell?_alloc_lt _ _ t (by simp;omega),World.cell?_alloc_lt _ _ t htl];exact ht0)
  (by rw [World.frozen?_alloc_old _ _ t (by simp;omega),World.frozen?_alloc_old _ _ t (by simp;omega),World.frozen?_alloc_old _ _ t (by simp;omega),World.frozen?_alloc_old _ _ t (Nat.ne_of_lt htl)];exact hf0)
 go_enter Tryz.func167,Tryz.ntmps167
 go_wp2
 refine wp_loop_rounds 1 ?_
 rw [rounds_succ]
 go_wp2
 go_ret
 exact ⟨rfl,rfl⟩
end Go.Proofs.YthchjnopgagilaaGreatDoor
namespace Go.Proofs.YthchjnopgagilaaGreatDoor
open Go.RowKit
theorem codeOf_es {w : World} {es : Nat → Addr} (h : E12 w es) (k : Nat) (hk : k < 12) : codeOf es (es k) = (k : Int) + 1 :=
 codeOf_some hk rfl (fun j hj => h.inj j k (by omega) hk (by omega))
def erOf (es : Nat → Addr) : Nat → Value
 | 0 => .nilIface
 | k + 1 => .iface 430 (.pointer (some (es k)))
end Go.Proofs.YthchjnopgagilaaGreatDoor
namespace Go.Proofs.YthchjnopgagilaaGreatDoor
open Go.RowKit Go.Shelf Go.Lib
theorem E12.ae {w : World} {es : Nat → Addr} (h : E12 w es) (hm : ∃ m,w.cell? ⟨14,0,none⟩ = some (.int .i64 m)) (hP : Pow w) (hS : SynAt w) (hb : 20 < w.heap.size) : AE w (erOf es) :=
 ⟨⟨hm,hP,h.c2,h.c9,hb⟩,hS,h.c4,fun _ => ⟨_,_,rfl⟩,rfl⟩
theorem AE.stays {w W : World} {er : Nat → Value} (h : AE w er) (hb : Below w.heap.size w W) : AE W er := by
 have h0 := h.aw.big
 exact ⟨h.aw.stays hb,h.syn.below hb,(cell_below2 hb (by omega)).trans h.kind,h.iface,h.zero⟩
theorem actE_le (nm wd : List UInt8) (n : Int) : Af.actE nm wd n = 0 ∨ ∃ k,k < 12 ∧ Af.actE nm wd n = k + 1 := by
 unfold Af.actE
 split
 ·exact .inr ⟨4,by omega,rfl⟩
 ·split
  ·exact .inr ⟨2,by omega,rfl⟩
  ·split
   ·exact .inr ⟨9,by omega,rfl⟩
   ·exact .inl rfl
end Go.Proofs.YthchjnopgagilaaGreatDoor
