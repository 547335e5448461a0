import Derived.Test.YtbgkfmodbofalaaGreatDoorPR06
import Derived.Laws.OwnMore
import Derived.OneCell
import Derived.OwnWalk
import Derived.Deep.RegionHeld3
set_option maxRecDepth 100000
set_option maxHeartbeats 4000000
namespace Go.Proofs.YtbgkfmodbofalaaGreatDoor
section
namespace Bf
inductive St where
 | no | waits | done (s : List UInt8) (hit : Bool) | failed (why : Nat) | left
def St.isWaits : St -> Bool | .waits => true | _ => false
def St.isDone : St -> Bool | .done _ _ => true | _ => false
def St.isBad : St -> Bool | .failed _ => true | .left => true | _ => false
def St.isNo : St -> Bool | .no => true | _ => false
def St.isFailed : St -> Bool | .failed _ => true | _ => false
def St.isLeft : St -> Bool | .left => true | _ => false
def St.name : St -> List UInt8
 | .no => []
 | .waits => [119,97,105,116,115]
 | .done _ _ => [100,111,110,101]
 | .failed _ => [102,97,105,108,101,100]
 | .left => [108,101,102,116]
def St.out : St -> List UInt8 | .done s _ => s | _ => []
def St.hit : St -> Bool | .done _ h => h | _ => false
def St.why : St -> Nat | .failed c => c | _ => 0
theorem St.name_waits (s : St) : (s.name == [119,97,105,116,115]) = s.isWaits := by cases s <;> rfl
theorem St.name_done (s : St) : (s.name == [100,111,110,101]) = s.isDone := by cases s <;> rfl
theorem St.name_failed (s : St) : (s.name == [102,97,105,108,101,100]) = s.isFailed := by cases s <;> rfl
theorem St.name_left (s : St) : (s.name == [108,101,102,116]) = s.isLeft := by cases s <;> rfl
theorem St.name_no (s : St) : (s.name == []) = s.isNo := by cases s <;> rfl
theorem St.bad_eq (s : St) : s.isBad = (s.isFailed || s.isLeft) := by cases s <;> rfl
theorem St.waits_eq {s : St} (h : s.isWaits = true) : s = .waits := by cases s <;> first | rfl | cases h
structure Bd where
 fs : Tf.Fs
 l : List Ru
 st : Nat -> St
def setS (st : Nat -> St) (i : Nat) (s : St) : Nat -> St := fun j => if j = i then s else st j
theorem setS_same (st : Nat -> St) (i : Nat) (s : St) : setS st i s i = s := if_pos rfl
theorem setS_other {st : Nat -> St} {i j : Nat} {s : St} (h : j ≠ i) : setS st i s j = st j := if_neg h
def Bd.set (d : Bd) (i : Nat) (s : St) : Bd := { d with st := setS d.st i s }
def freeTo (l : List Ru) (st : Nat -> St) (i m : Nat) : Bool := (List.range m).all fun k => !(Ru.needs l i k && !(st k).isDone)
theorem freeTo_zero (l : List Ru) (st : Nat -> St) (i : Nat) : freeTo l st i 0 = true := rfl
theorem freeTo_succ (l : List Ru) (st : Nat -> St) (i m : Nat) : freeTo l st i (m + 1) = (freeTo l st i m && !(Ru.needs l i m && !(st m).isDone)) := by
 unfold freeTo;rw [List.range_succ,List.all_append];simp
def Bd.isReady (d : Bd) (i : Nat) : Bool := (d.st i).isWaits && freeTo d.l d.st i d.l.length
def Bd.readyTo (d : Bd) (m : Nat) : List Nat := (List.range m).filter d.isReady
def Bd.ready (d : Bd) : List Nat := d.readyTo d.l.length
theorem readyTo_succ (d : Bd) (m : Nat) : d.readyTo (m + 1) = d.readyTo m ++ (if d.isReady m = true then [m] else []) := by
 unfold Bd.readyTo;rw [List.range_succ,List.filter_append];congr 1
 by_cases h : d.isReady m = true
 ·rw [if_pos h,List.filter_cons_of_pos h];rfl
 ·rw [if_neg h,List.filter_cons_of_neg h];rfl
theorem readyTo_len (d : Bd) (m : Nat) : (d.readyTo m).length <= m := by
 have := List.length_filter_le d.isReady (List.range m);simpa [Bd.readyTo] using this
theorem mem_ready {d : Bd} {i : Nat} : i ∈ d.ready ↔ i < d.l.length /\ d.isReady i = true := by
 unfold Bd.ready Bd.readyTo;rw [List.mem_filter,List.mem_range]
theorem ready_free {d : Bd} {i k : Nat} (h : d.isReady i = true) (hk : k < d.l.length) (hn : Ru.needs d.l i k = true) : (d.st k).isDone = true := by
 unfold Bd.isReady freeTo at h;rw [Bool.and_eq_true,List.all_eq_true] at h;have := h.2 k (List.mem_range.2 hk);rw [hn] at this;simpa using this
theorem ready_waits {d : Bd} {i : Nat} (h : d.isReady i = true) : d.st i = .waits := by
 unfold Bd.isReady at h;rw [Bool.and_eq_true] at h;exact St.waits_eq h.1
theorem ready_of {d : Bd} {i : Nat} (h : d.st i = .waits) (hf : ∀ k,k < d.l.length -> Ru.needs d.l i k = true -> (d.st k).isDone = true) : d.isReady i = true := by
 unfold Bd.isReady freeTo;rw [h,Bool.and_eq_true,List.all_eq_true];refine ⟨rfl,fun k hk => ?_⟩
 by_cases hn : Ru.needs d.l i k = true
 ·rw [hn,hf k (List.mem_range.1 hk) hn];rfl
 ·rw [Bool.not_eq_true] at hn;rw [hn];rfl
inductive Chain (l : List Ru) (st : Nat -> St) : Nat -> Prop
 | one {k j : Nat} : Ru.needs l k j = true -> (st j).isBad = true -> Chain l st k
 | more {k j : Nat} : Ru.needs l k j = true -> (st j).isWaits = true -> Chain l st j -> Chain l st k
open Classical in
noncomputable def spread (l : List Ru) (st : Nat -> St) : Nat -> St := fun k => if (st k).isWaits = true /\ Chain l st k then .left else st k
noncomputable def Bd.fail (d : Bd) (i c : Nat) : Bd := { d with st := spread d.l (setS d.st i (.failed c)) }
def mkr (l : List Ru) (x : List UInt8) : Option Nat := l.findIdx? fun r => r.out == x
def Bd.bytes (d : Bd) (x : List UInt8) : Option (List UInt8) :=
 match mkr d.l x with
 | some j => some (d.st j).out
 | none => Tf.get d.fs x
def inB (f : List UInt8 -> Option (List UInt8)) : List (List UInt8) -> Option (List (List UInt8))
 | [] => some []
 | x :: r => match f x with
  | none => none
  | some b => (inB f r).map (b :: ·)
theorem inB_snoc (f : List UInt8 -> Option (List UInt8)) : ∀ (a : List (List UInt8)) (x : List UInt8) {o : List (List UInt8)},inB f a = some o -> inB f (a ++ [x]) = (f x).map fun b => o ++ [b]
 | [],x,o,h => by
  cases h
  show inB f [x] = _
  unfold inB inB;cases f x <;> rfl
 | y :: r,x,o,h => by
  unfold inB at h;rw [List.cons_append];unfold inB;cases hy : f y with
  | none => rw [hy] at h;cases h
  | some b =>
   rw [hy] at h;cases hr : inB f r with
   | none => rw [hr] at h;cases h
   | some q =>
    rw [hr] at h;obtain rfl : b :: q = o := by simpa using h
    have := inB_snoc f r x hr;simp only [this];cases f x <;> rfl
theorem inB_bad (f : List UInt8 -> Option (List UInt8)) : ∀ (a : List (List UInt8)) (x : List UInt8) (r : List (List UInt8)),f x = none -> inB f (a ++ x :: r) = none
 | [],x,r,h => by
  show inB f (x :: r) = none
  unfold inB;rw [h]
 | y :: a,x,r,h => by
  rw [List.cons_append];unfold inB;cases f y with
  | none => rfl
  | some b => simp only [inB_bad f a x r h];rfl
theorem inB_len {f : List UInt8 -> Option (List UInt8)} : ∀ {a o : List (List UInt8)},inB f a = some o -> o.length = a.length
 | [],o,h => by cases h;rfl
 | y :: r,o,h => by
  unfold inB at h;cases hy : f y with
  | none => rw [hy] at h;cases h
  | some b =>
   rw [hy] at h;cases hr : inB f r with
   | none => rw [hr] at h;cases h
   | some q =>
    rw [hr] at h;obtain rfl : b :: q = o := by simpa using h
    simp [inB_len hr]
theorem Zwf {f : List UInt8 -> Option (List UInt8)} : ∀ {a o : List (List UInt8)},inB f a = some o -> ∀ b ∈ o,∃ x ∈ a,f x = some b
 | [],o,h,b,hb => by cases h;cases hb
 | y :: r,o,h,b,hb => by
  unfold inB at h;cases hy : f y with
  | none => rw [hy] at h;cases h
  | some c =>
   rw [hy] at h;cases hr : inB f r with
   | none => rw [hr] at h;cases h
   | some q =>
    rw [hr] at h;obtain rfl : c :: q = o := by simpa using h
    rcases List.mem_cons.1 hb with rfl | hb
    ·exact ⟨y,by simp,hy⟩
    ·obtain ⟨x,hx,e⟩ := Zwf hr b hb;exact ⟨x,List.mem_cons_of_mem _ hx,e⟩
abbrev Ca : Type := Option (Nat × Cf.Ens)
def cfind : Ca -> List UInt8 -> Option (List UInt8)
 | some (_,l),k => Cf.find l k
 | none,_ => none
def cget : Ca -> List UInt8 -> Ca
 | some (m,l),k => some (m,Cf.get m l k)
 | none,_ => none
def cput : Ca -> List UInt8 -> List UInt8 -> Ca
 | some (m,l),k,b => some (m,Cf.put m l k b)
 | none,_,_ => none
structure Res where
 hit : Bool
 code : Nat
 d : Bd
 c : Ca
abbrev Act : Type := List UInt8 -> List UInt8 -> List (List UInt8) -> List UInt8 × Nat
def Bd.rule (d : Bd) (i : Nat) : Ru := d.l.getD i ⟨[],[],[],[]⟩
def Bd.ins (d : Bd) (i : Nat) : Option (List (List UInt8)) := inB d.bytes (d.rule i).ins
noncomputable def go (act : Act) (c : Ca) (d : Bd) (i : Nat) : Res :=
 match d.ins i with
 | none => ⟨false,0,d.fail i 6,c⟩
 | some xs =>
  match cfind c (Kp.key (d.rule i).kind (d.rule i).word xs) with
  | some s => ⟨true,0,d.set i (.done s true),cget c (Kp.key (d.rule i).kind (d.rule i).word xs)⟩
  | none =>
   if (act (d.rule i).kind (d.rule i).word xs).2 = 0 then ⟨false,0,d.set i (.done (act (d.rule i).kind (d.rule i).word xs).1 false),cput c (Kp.key (d.rule i).kind (d.rule i).word xs) (act (d.rule i).kind (d.rule i).word xs).1⟩
   else ⟨false,0,d.fail i (act (d.rule i).kind (d.rule i).word xs).2,c⟩
noncomputable def runN (act : Act) (c : Ca) (d : Bd) (i : Nat) : Res :=
 if (d.st i).isNo = true then ⟨false,6,d,c⟩
 else if (d.st i).isWaits = false then ⟨false,12,d,c⟩
 else if d.isReady i = false then ⟨false,11,d,c⟩
 else go act c d i
noncomputable def run (act : Act) (c : Ca) (d : Bd) (i : Int) : Res :=
 if i < 0 \/ (d.l.length : Int) <= i then ⟨false,6,d,c⟩ else runN act c d i.toNat
def many (st : Nat -> St) (p : St -> Bool) : Nat -> Nat
 | 0 => 0
 | n + 1 => many st p n + (if p (st n) = true then 1 else 0)
theorem many_le (st : Nat -> St) (p : St -> Bool) : ∀ n,many st p n <= n
 | 0 => Nat.le_refl _
 | n + 1 => by
  have := many_le st p n;unfold many;split <;> omega
theorem Zdb {st st' : Nat -> St} {p : St -> Bool} {i : Nat} : ∀ {n : Nat},i < n -> p (st i) = true -> p (st' i) = false -> (∀ k,p (st' k) = true -> p (st k) = true) -> many st' p n < many st p n
 | 0,h,_,_,_ => by omega
 | n + 1,h,h1,h2,h3 => by
  have hle : ∀ m,many st' p m <= many st p m := by
   intro m
   induction m with
   | zero => exact Nat.le_refl _
   | succ m ih =>
    unfold many;by_cases hp : p (st' m) = true
    ·rw [if_pos hp,if_pos (h3 m hp)];omega
    ·rw [if_neg hp];split <;> omega
  unfold many;by_cases e : i = n
  ·subst e;have := hle i;rw [if_pos h1,if_neg (by rw [h2];simp)]
   omega
  ·have ih := Zdb (n := n) (by omega) h1 h2 h3
   by_cases hp : p (st' n) = true
   ·rw [if_pos hp,if_pos (h3 n hp)];omega
   ·rw [if_neg hp];split <;> omega
def Bd.waits (d : Bd) : Nat := many d.st St.isWaits d.l.length
theorem Zmb {l : List Ru} {st : Nat -> St} {k : Nat} (h : (spread l st k).isWaits = true) : (st k).isWaits = true /\ ¬ Chain l st k := by
 unfold spread at h;split at h
 ·cases h
 ·rename_i hn
  exact ⟨h,fun hc => hn ⟨h,hc⟩⟩
theorem Zbb {l : List Ru} {st : Nat -> St} {k : Nat} (h : (st k).isWaits = false) : spread l st k = st k := by
 unfold spread;rw [if_neg (by rw [h];simp)]
theorem go_less (act : Act) (c : Ca) (d : Bd) (i : Nat) (hi : i < d.l.length) (hr : d.isReady i = true) : (go act c d i).d.waits < d.waits /\ (go act c d i).d.l = d.l /\ (go act c d i).d.fs = d.fs := by
 have hw := ready_waits hr;have hset : ∀ s : St,s.isWaits = false -> (d.set i s).waits < d.waits := fun s hs => by
  refine Zdb (i := i) hi (by rw [hw];rfl) ?_ fun k hk => ?_
  ·show (setS d.st i s i).isWaits = false
   rw [setS_same];exact hs
  ·have hk' : (setS d.st i s k).isWaits = true := hk;by_cases e : k = i
   ·rw [e,hw];rfl
   ·rwa [setS_other e] at hk'
 have hfail : ∀ e,(d.fail i e).waits < d.waits := fun e => by
  refine Zdb (i := i) hi (by rw [hw];rfl) ?_ fun k hk => ?_
  ·show (spread d.l (setS d.st i (.failed e)) i).isWaits = false
   rw [Zbb (by rw [setS_same];rfl),setS_same];rfl
  ·have hk' := (Zmb (show (spread d.l (setS d.st i (.failed e)) k).isWaits = true from hk)).1
   by_cases e : k = i
   ·rw [e,hw];rfl
   ·rwa [setS_other e] at hk'
 unfold go;split
 ·exact ⟨hfail _,rfl,rfl⟩
 ·split
  ·exact ⟨hset _ rfl,rfl,rfl⟩
  ·split
   ·exact ⟨hset _ rfl,rfl,rfl⟩
   ·exact ⟨hfail _,rfl,rfl⟩
theorem run_ready (act : Act) (c : Ca) (d : Bd) (i : Nat) (hi : i < d.l.length) (hr : d.isReady i = true) : run act c d i = go act c d i := by
 have hw := ready_waits hr;unfold run runN;rw [if_neg (by omega),if_neg (by simp [hw,St.isNo]),if_neg (by simp [hw,St.isWaits]),if_neg (by simp [hr])]
 simp
noncomputable def allF (act : Act) : Nat -> Ca -> Bd -> Bd × Ca
 | 0,c,d => (d,c)
 | f + 1,c,d =>
  match d.ready with
  | [] => (d,c)
  | i :: _ => allF act f (go act c d i).c (go act c d i).d
noncomputable def all (act : Act) (c : Ca) (d : Bd) : Bd × Ca := allF act (d.waits + 1) c d
theorem Zid (act : Act) : ∀ (f f' : Nat) (c : Ca) (d : Bd),d.waits < f -> d.waits < f' -> allF act f c d = allF act f' c d
 | 0,_,_,_,h,_ => by omega
 | _,0,_,_,_,h => by omega
 | f + 1,f' + 1,c,d,h,h' => by
  unfold allF;cases hr : d.ready with
  | nil => rfl
  | cons i r =>
   have hm := mem_ready.1 (show i ∈ d.ready by rw [hr];simp)
   have := (go_less act c d i hm.1 hm.2).1;exact Zid act f f' _ _ (by omega) (by omega)
theorem all_nil (act : Act) (c : Ca) (d : Bd) (h : d.ready = []) : all act c d = (d,c) := by
 unfold all allF;rw [h]
theorem all_cons (act : Act) (c : Ca) (d : Bd) {i : Nat} {r : List Nat} (h : d.ready = i :: r) : all act c d = all act (go act c d i).c (go act c d i).d := by
 have hm := mem_ready.1 (show i ∈ d.ready by rw [h];simp)
 have := (go_less act c d i hm.1 hm.2).1;conv => lhs;unfold all allF
 rw [h];exact Zid act _ _ _ _ (by omega) (by omega)
end Bf
end
section
namespace Bf
def Later (a b : Nat -> St) : Prop := ∀ k,b k = a k \/ ((a k).isWaits = true /\ b k = .left)
theorem Later.refl (a : Nat -> St) : Later a a := fun _ => .inl rfl
theorem Later.bad {a b : Nat -> St} (h : Later a b) {k : Nat} (hk : (a k).isBad = true) : (b k).isBad = true := by
 rcases h k with e | ⟨_,e⟩
 ·rw [e];exact hk
 ·rw [e];rfl
theorem Later.waits {a b : Nat -> St} (h : Later a b) {k : Nat} (hk : (b k).isWaits = true) : (a k).isWaits = true := by
 rcases h k with e | ⟨_,e⟩
 ·rw [<- e];exact hk
 ·rw [e] at hk;cases hk
def Mid (l : List Ru) (a b : Nat -> St) : Prop := ∀ k,b k = a k \/ ((a k).isWaits = true /\ Chain l a k /\ b k = .left)
theorem Mid.refl (l : List Ru) (a : Nat -> St) : Mid l a a := fun _ => .inl rfl
theorem Mid.later {l : List Ru} {a b : Nat -> St} (h : Mid l a b) : Later a b := fun k => (h k).imp_right fun x => ⟨x.1,x.2.2⟩
theorem Mid.step {l : List Ru} {a b : Nat -> St} (h : Mid l a b) {k j : Nat} (hw : (b k).isWaits = true) (hb : (b j).isBad = true) (hn : Ru.needs l k j = true) : Mid l a (setS b k .left) := by
 intro x
 by_cases e : x = k
 ·subst e;right
  rw [setS_same];refine ⟨h.later.waits hw,?_,rfl⟩;rcases h j with e1 | ⟨w1,c1,_⟩
  ·exact .one hn (e1 ▸ hb)
  ·exact .more hn w1 c1
 ·rw [setS_other e];exact h x
def Closed (l : List Ru) (b : Nat -> St) : Prop := ∀ k j,Ru.needs l k j = true -> (b j).isBad = true -> (b k).isWaits = false
theorem Mid.closed {l : List Ru} {a b : Nat -> St} (h : Mid l a b) (hc : Closed l b) : ∀ k,b k = spread l a k := by
 have key : ∀ k,Chain l a k -> (a k).isWaits = true -> b k = .left := by
  intro k hk
  induction hk with
  | @one k j hn hb =>
   intro hw
   have h1 := hc k j hn (h.later.bad hb);rcases h k with e | ⟨_,_,e⟩
   ·rw [e,hw] at h1;cases h1
   ·exact e
  | @more k j hn hwj _ ih =>
   intro hw
   have h1 := hc k j hn (by rw [ih hwj];rfl)
   rcases h k with e | ⟨_,_,e⟩
   ·rw [e,hw] at h1;cases h1
   ·exact e
 intro k
 unfold spread;split
 ·rename_i hx
  exact key k hx.2 hx.1
 ·rename_i hx
  rcases h k with e | ⟨h1,h2,_⟩
  ·exact e
  ·exact absurd ⟨h1,h2⟩ hx
structure Sweep (l : List Ru) (s0 s1 cur : Nat -> St) (a b : Nat) : Prop where
 mid : Mid l s0 cur
 later : Later s1 cur
 seen : ∀ k j,(k < a \/ (k = a /\ j < b)) -> j < l.length -> Ru.needs l k j = true -> (s1 j).isBad = true -> (cur k).isWaits = false
theorem Sweep.start {l : List Ru} {s0 cur : Nat -> St} (h : Mid l s0 cur) : Sweep l s0 cur cur 0 0 := ⟨h,Later.refl _,fun k j hk => by omega⟩
theorem Sweep.hit {l : List Ru} {s0 s1 cur : Nat -> St} {a b : Nat} (h : Sweep l s0 s1 cur a b) (hw : (cur a).isWaits = true) (hb : (cur b).isBad = true) (hn : Ru.needs l a b = true) : Sweep l s0 s1 (setS cur a .left) a (b + 1) := by
 refine ⟨h.mid.step hw hb hn,fun k => ?_,fun k j hk hj hnk hbj => ?_⟩
 ·by_cases e : k = a
  ·subst e;right
   rw [setS_same];exact ⟨h.later.waits hw,rfl⟩
  ·rw [setS_other e];exact h.later k
 ·by_cases e : k = a
  ·subst e;rw [setS_same];rfl
  ·rw [setS_other e];exact h.seen k j (by omega) hj hnk hbj
theorem Sweep.miss {l : List Ru} {s0 s1 cur : Nat -> St} {a b : Nat} (h : Sweep l s0 s1 cur a b) (hm : ((cur a).isWaits && (cur b).isBad && Ru.needs l a b) = false) : Sweep l s0 s1 cur a (b + 1) := by
 refine ⟨h.mid,h.later,fun k j hk hj hnk hbj => ?_⟩
 by_cases e : k = a /\ j = b
 ·obtain ⟨rfl,rfl⟩ := e;rw [h.later.bad hbj,hnk] at hm;simpa using hm
 ·exact h.seen k j (by omega) hj hnk hbj
theorem Sweep.row {l : List Ru} {s0 s1 cur : Nat -> St} {a : Nat} (h : Sweep l s0 s1 cur a l.length) : Sweep l s0 s1 cur (a + 1) 0 :=
 ⟨h.mid,h.later,fun k j hk hj => h.seen k j (by omega) hj⟩
structure Round (l : List Ru) (s0 cur : Nat -> St) (r : Nat) : Prop where
 mid : Mid l s0 cur
 less : Closed l cur \/ many cur St.isWaits l.length + r <= many s0 St.isWaits l.length
theorem Round.start (l : List Ru) (s0 : Nat -> St) : Round l s0 s0 0 := ⟨Mid.refl _ _,.inr (Nat.le_refl _)⟩
theorem Round.next {l : List Ru} {s0 s1 cur : Nat -> St} {r : Nat} (h : Round l s0 s1 r) (hs : Sweep l s0 s1 cur l.length 0) : Round l s0 cur (r + 1) := by
 refine ⟨hs.mid,?_⟩;by_cases hc : Closed l s1
 ·left
  have e : ∀ k,cur k = s1 k := fun k => by
   rcases hs.mid.later k with h1 | ⟨h1,h2⟩
   ·rcases hs.later k with h3 | ⟨h3,h4⟩
    ·exact h3
    ·rcases hs.mid k with h5 | ⟨h5,h6,h7⟩
     ·have hw1 : (s0 k).isWaits = true := h.mid.later.waits h3;rw [<- h5,h4] at hw1;cases hw1
     ·rw [h1] at h7;rw [h7] at h5;cases h5
   ·rcases hs.mid k with h5 | ⟨h5,h6,h7⟩
    ·rw [h2] at h5;rw [<- h5] at h1;cases h1
    ·have h8 := h.mid.closed hc k;rw [h8,h7];unfold spread;rw [if_pos ⟨h5,h6⟩]
  intro k j hn hb
  rw [e k];exact hc k j hn (e j ▸ hb)
 ·right
  have hl : many s1 St.isWaits l.length + r <= many s0 St.isWaits l.length := by
   rcases h.less with h1 | h1
   ·exact absurd h1 hc
   ·exact h1
  have : ∃ k j,Ru.needs l k j = true /\ (s1 j).isBad = true /\ (s1 k).isWaits = true := by
   refine Classical.byContradiction fun hx => hc fun k j hn hb => ?_
   cases hw : (s1 k).isWaits with
   | false => rfl
   | true => exact absurd ⟨k,j,hn,hb,hw⟩ hx
  obtain ⟨k,j,hn,hb,hw⟩ := this;have hlt := Ru.needs_lt hn;have h2 := hs.seen k j (.inl hlt.1) hlt.2 hn hb;have := Zdb (p := St.isWaits) (st := s1) (st' := cur) (i := k) (n := l.length) hlt.1 hw h2 fun x hx => hs.later.waits hx
  omega
theorem Round.end {l : List Ru} {s0 cur : Nat -> St} (h : Round l s0 cur l.length) {i : Nat} (hi : i < l.length) (hf : (s0 i).isWaits = false) : ∀ k,cur k = spread l s0 k := by
 refine h.mid.closed ?_;rcases h.less with h1 | h1
 ·exact h1
 ·exfalso
  have : ∀ n,i < n -> many s0 St.isWaits n < n := by
   intro n
   induction n with
   | zero => intro h;omega
   | succ n ih =>
    intro hn
    unfold many;by_cases e : i = n
    ·subst e;have := many_le s0 St.isWaits i;rw [if_neg (by rw [hf];simp)]
     omega
    ·have := ih (by omega)
     split <;> omega
  have := this l.length hi;omega
structure Fit (d : Bd) : Prop where
 files : ∀ f ∈ d.fs,f.2.length <= 2000
 outs : ∀ k,(d.st k).out.length <= 2000
 whys : ∀ k,(d.st k).why <= 12
def CFit : Ca -> Prop
 | none => True
 | some (m,l) => 1 <= m /\ m <= 100 /\ Cf.Ok m l /\ ∀ e ∈ l,e.2.length <= 2000
def ActFit (act : Act) : Prop := ∀ k w xs,(act k w xs).2 <= 12 /\ ((act k w xs).2 = 0 -> (act k w xs).1.length <= 2000)
theorem get_mem {fs : Tf.Fs} {p b : List UInt8} (h : Tf.get fs p = some b) : (p,b) ∈ fs := by
 unfold Tf.get at h;cases hf : fs.find? fun f => f.1 == p with
 | none => rw [hf] at h;cases h
 | some e =>
  rw [hf] at h;have h1 := List.find?_some hf;have h2 := List.mem_of_find?_eq_some hf;have e1 : e.1 = p := by simpa using h1
  have e2 : e.2 = b := by simpa using h
  rw [<- e1,<- e2];exact h2
theorem Fit.bytes {d : Bd} (h : Fit d) {x b : List UInt8} (hb : d.bytes x = some b) : b.length <= 2000 := by
 unfold Bd.bytes at hb;split at hb
 ·rename_i j _
  rw [<- Option.some.inj hb];exact h.outs j
 ·exact h.files _ (get_mem hb)
theorem Fit.ins {d : Bd} (h : Fit d) {i : Nat} {xs : List (List UInt8)} (hx : d.ins i = some xs) : xs.length = (d.rule i).ins.length /\ ∀ x ∈ xs,x.length <= 2000 :=
 ⟨inB_len hx,fun x hxm => by
  obtain ⟨y,_,hy⟩ := Zwf hx x hxm;exact h.bytes hy⟩
theorem Fit.set {d : Bd} (h : Fit d) (i : Nat) {s : St} (hs : s.out.length <= 2000) (hw : s.why <= 12) : Fit (d.set i s) :=
 ⟨h.files,fun k => by
  show (setS d.st i s k).out.length <= 2000
  unfold setS;split
  ·exact hs
  ·exact h.outs k,fun k => by
  show (setS d.st i s k).why <= 12
  unfold setS;split
  ·exact hw
  ·exact h.whys k⟩
theorem Fit.fail {d : Bd} (h : Fit d) (i : Nat) {c : Nat} (hc : c <= 12) : Fit (d.fail i c) :=
 ⟨h.files,fun k => by
  show (spread d.l (setS d.st i (.failed c)) k).out.length <= 2000
  unfold spread;split
  ·simp [St.out]
  ·unfold setS;split
   ·simp [St.out]
   ·exact h.outs k,fun k => by
  show (spread d.l (setS d.st i (.failed c)) k).why <= 12
  unfold spread;split
  ·simp [St.why]
  ·unfold setS;split
   ·simpa [St.why] using hc
   ·exact h.whys k⟩
theorem CFit.find {c : Ca} (h : CFit c) {k b : List UInt8} (hf : cfind c k = some b) : b.length <= 2000 := by
 match c,h,hf with
 | some (m,l),h,hf => exact h.2.2.2 _ (Cf.find_some hf)
theorem mem_put {m : Nat} {l : Cf.Ens} {k b : List UInt8} {e : Cf.En} (h : e ∈ Cf.put m l k b) : e ∈ l \/ e = (k,b) := by
 have h1 : e ∈ Cf.rm l k ++ [(k,b)] := by
  unfold Cf.put Cf.cut at h;split at h
  ·exact (List.drop_sublist 1 _).subset h
  ·exact h
 rcases List.mem_append.1 h1 with h2 | h2
 ·exact .inl (Cf.mem_rm.1 h2).1
 ·exact .inr (List.mem_singleton.1 h2)
theorem CFit.put {c : Ca} (h : CFit c) (k : List UInt8) {b : List UInt8} (hb : b.length <= 2000) : CFit (cput c k b) := by
 match c,h with
 | none,_ => trivial
 | some (m,l),h =>
  refine ⟨h.1,h.2.1,h.2.2.1.put k b,fun e he => ?_⟩
  rcases mem_put he with h1 | h1
  ·exact h.2.2.2 e h1
  ·rw [h1];exact hb
theorem CFit.get {c : Ca} (h : CFit c) (k : List UInt8) : CFit (cget c k) := by
 match c,h with
 | none,_ => trivial
 | some (m,l),h =>
  refine ⟨h.1,h.2.1,h.2.2.1.get k,fun e he => ?_⟩
  have he' : e ∈ Cf.get m l k := he;unfold Cf.get at he';split at he'
  ·rename_i b hb
   rcases mem_put he' with h1 | h1
   ·exact h.2.2.2 e h1
   ·rw [h1];exact h.2.2.2 _ (Cf.find_some hb)
  ·exact h.2.2.2 e he'
theorem go_fit {act : Act} (ha : ActFit act) {c : Ca} {d : Bd} (hc : CFit c) (hd : Fit d) (i : Nat) : Fit (go act c d i).d /\ CFit (go act c d i).c := by
 unfold go;split
 ·exact ⟨hd.fail _ (by omega),hc⟩
 ·split
  ·rename_i s hs
   exact ⟨hd.set _ (hc.find hs) (by simp [St.why]),hc.get _⟩
  ·split
   ·rename_i h0
    exact ⟨hd.set _ ((ha _ _ _).2 h0) (by simp [St.why]),hc.put _ ((ha _ _ _).2 h0)⟩
   ·exact ⟨hd.fail _ (ha _ _ _).1,hc⟩
theorem Zzk (act : Act) (c : Ca) (d : Bd) (i : Nat) : (go act c d i).c.isSome = c.isSome := by
 unfold go;split
 ·rfl
 ·split
  ·cases c <;> rfl
  ·split
   ·cases c <;> rfl
   ·rfl
end Bf
end
section
namespace Bf
def winB (f : List UInt8 -> List UInt8 × Nat) : List (List UInt8) -> List (List UInt8) × Nat
 | [] => ([],0)
 | x :: r => if (f x).2 = 0 then ((f x).1 :: (winB f r).1,(winB f r).2) else ([],(f x).2)
theorem Zwg (act : Act) (c : Ca) (d : Bd) (i : Nat) : (go act c d i).d.l = d.l /\ (go act c d i).d.fs = d.fs := by
 unfold go;split
 ·exact ⟨rfl,rfl⟩
 ·split
  ·exact ⟨rfl,rfl⟩
  ·split <;> exact ⟨rfl,rfl⟩
end Bf
end
section
namespace Bf
def kkey (f : List UInt8 -> List UInt8 × Nat) (r : Ru) : List UInt8 := Kp.key r.kind r.word (winB f r.ins).1
end Bf
end
section
open Go.RowKit Go.Shelf Go.Lib
def rowB (n : Nat) (f : Nat -> Bool) : List Value := (List.range n).map (fun j => Value.bool (f j))
theorem Zxo {n : Nat} (f : Nat -> Bool) {j : Nat} (h : j < n) : (rowB n f)[j]? = some (.bool (f j)) := by
 simp [rowB,h]
theorem Zjn {n : Nat} {f g : Nat -> Bool} (h : ∀ j,j < n -> f j = g j) : rowB n f = rowB n g := by
 unfold rowB;exact List.map_congr_left fun j hj => by rw [h j (List.mem_range.1 hj)]
theorem Zxn (n : Nat) (f : Nat -> Bool) (k : Nat) (b : Bool) : (rowB n f).set k (.bool b) = rowB n (fun j => if j = k then b else f j) := by
 apply List.ext_getElem?
 intro j
 unfold rowB;rw [List.getElem?_set];by_cases hj : j < n
 ·by_cases e : k = j
  ·subst e;simp [hj]
  ·have e' : ¬ j = k := fun h => e h.symm
   simp [hj,e,e']
 ·by_cases e : k = j
  ·subst e;simp [hj]
  ·simp [hj,e]
theorem Zul (n : Nat) : List.replicate n (Value.bool false) = rowB n (fun _ => false) := by
 unfold rowB;rw [List.map_const'];simp
def Own (W : World) (B g n : Nat) (f : Nat -> Bool) : Prop := W.ownsRow B 4 1 (.slice (some ⟨g,0,none⟩) n n) n (rowB n f)
theorem Own.cell {W : World} {B g n : Nat} {f : Nat -> Bool} (h : Own W B g n f) {j : Nat} (hj : j < n) : W.cell? ⟨g,j,none⟩ = some (.bool (f j)) := by
 have := World.ownsRow.cellAt h j (by omega)
 rw [this,Zxo f hj]
theorem Own.set {W : World} {B g n : Nat} {f f' : Nat -> Bool} (h : Own W B g n f) (k : Nat) (b : Bool) (hf : ∀ j,j < n -> (if j = k then b else f j) = f' j) : Own (W.setCell ⟨g,k,none⟩ (.bool b)) B g n f' := by
 have := (World.ownsRow.stored h k (.bool b)).1;rw [Zxn,Zjn hf] at this;exact this
theorem Zhz {B : Nat} {w W W' : World} (hB : Below B w W) (hn : B <= W.heap.size) (hg : W.grownBy W' none) : Below B w W' :=
 hB.grown hg hn (fun j e => by cases e)
theorem Tryz.infoBool : (Tryz.prog.info? 4).map (fun i => (i.zero,i.size,i.bytes)) = some (some (.bool false),1,1) := by kernel_rfl
theorem Zqz {W : World} {B g n : Nat} (h : W.ownsRow B 4 1 (.slice (some ⟨g,0,none⟩) n n) n (madeCells (Value.bool false).cells (n * 1)).toList) : Own W B g n (fun _ => false) := by
 have e : (madeCells (Value.bool false).cells (n * 1)).toList = rowB n (fun _ => false) := by
  rw [Nat.mul_one,<- Zul];exact toList_madeCells_one _ _
 rw [e] at h;exact h
end
section
open Go.RowKit Go.Shelf Go.Lib
theorem Tryz.infoInt : (Tryz.prog.info? 3).map (fun i => (i.zero,i.size,i.bytes)) = some (some (.int .i64 0),1,8) := by kernel_rfl
abbrev nv (x : Nat) : Value := .int .i64 (x : Int)
def slen : Value -> Nat
 | .slice _ n _ => n
 | _ => 0
def NRow (w : World) (v : Value) (l : List Nat) : Prop :=
 ∃ p cap,v = .slice p l.length cap /\ l.length <= cap /\ (l ≠ [] -> ∃ g cur,p = some ⟨g,0,none⟩ /\ w.heap[g]? = some (.cells cur 3 (0,0)) /\ ∀ j (hj : j < l.length),cur[j]? = some (nv l[j]))
theorem NRow.of_owns {w : World} {base : Nat} {v : Value} {l : List Nat} {n : Nat} (h : w.ownsRow base 3 1 v n (l.map nv)) : NRow w v l := by
 have hn : n = l.length := by have := h.1;simp at this;omega
 subst hn;rcases h.2 with ⟨rfl,hn⟩ | ⟨g,cap,cur,rfl,_,hb,h1,_,_,h4⟩
 ·obtain rfl : l = [] := by simpa using hn
  exact ⟨none,0,rfl,Nat.le_refl _,fun h => absurd rfl h⟩
 ·refine ⟨_,cap,rfl,h1,fun _ => ⟨g,cur,rfl,hb,fun j hj => ?_⟩⟩
  have := congrArg (fun x => x[j]?) h4
  simp only [Nat.mul_one,List.getElem?_take,hj,if_true,List.getElem?_map,List.getElem?_eq_getElem hj,Option.map_some,Array.getElem?_toList] at this
  exact this
theorem Zes {w : World} {base : Nat} {e : TypeId} {size : Nat} {v : Value} {n : Nat} {xs : List Value} (h : w.ownsRow base e size v n xs) : slen v = n := by
 rcases h.2 with ⟨rfl,hn⟩ | ⟨g,cap,cur,rfl,_⟩
 ·exact hn.symm
 ·rfl
theorem Zcc {w w1 : World} {base base' : Nat} {e e' : TypeId} {size size' : Nat} {v u : Value} {n n' : Nat} {xs xs' : List Value} (h : w.ownsRow base e size v n xs) (hu : w.ownsRow base' e' size' u n' xs') (he : e ≠ e') (hg : w.grownBy w1 u.ownBlock) : w1.ownsRow base e size v n xs := by
 refine h.kept hg ?_;rcases h.2 with ⟨rfl,_⟩ | ⟨g,cap,cur,rfl,_,hb,_⟩
 ·exact .inl rfl
 ·right
  rcases hu.2 with ⟨rfl,_⟩ | ⟨g',cap',cur',rfl,_,hb',_⟩
  ·simp [Value.ownBlock]
  ·simp only [Value.ownBlock,ne_eq,Option.some.injEq];rintro rfl;rw [hb] at hb';simp at hb';exact he hb'.2
theorem Zcz (W : World) (x : Value) (t : TypeId) (n : Nat) (hn : W.heap.size = n) (j : Nat) (u : Value) (h : [x][j]? = some u) : (W.alloc (.cells #[x] t)).cell? ((⟨n,0,none⟩ : Addr).add j) = some u := by
 subst hn;exact cell_one_new W x t j u h
end
section
open Go.RowKit Go.Shelf Go.Lib
theorem Zfv {w : World} (v : Value) (l : List (List UInt8)) (x : List UInt8) (hrow : IRow w v l) (hl : l.length <= 1000000) :
  Calls Tryz.prog 57 #[v,.string (ba x)] w fun e w' => ∃ r : Int,e = .returned (.int .i64 r) /\ w' = w /\ ((r = -1 /\ x ∉ l) \/ ∃ k : Nat,r = k /\ ∃ h : k < l.length,l[k] = x /\ x ∉ l.take k) := by
 obtain ⟨p,cap,rfl,hin⟩ := hrow;have HI := hid1 hin;clear hin;have zl : (l.length : Int) <= 1000000 := by omega
 go_enter Tryz.func57,Tryz.ntmps57
 go_wp2;go_loopw [5] (fun i wr => ∃ k : Nat,k <= l.length /\ i = .int .i64 k /\ x ∉ l.take k /\ w = wr) (fun i _ => l.length - (intOf i).toNat)
 case atStart => exact ⟨0,Nat.zero_le _,rfl,by simp,rfl⟩
 case round =>
  obtain ⟨k,hk,rfl,hz,rfl⟩ := hrel;have HZ := hid1 hz;clear hz;have c0 : (0 : Int) <= (k : Int) := by omega
  by_cases hlt : k < l.length
  ·have c1 : (k : Int) < (l.length : Int) := by omega
   obtain ⟨g',o,rfl,hg,hcur⟩ := HI.out (by intro e;rw [e] at hlt;simp at hlt)
   have hcell := hcur k hlt;have HT : Hid (l[k] ≠ x -> x ∉ l.take (k + 1)) := hid1 fun hne => by
    rw [List.take_succ_eq_append_getElem hlt];simp only [List.mem_append,List.mem_singleton,not_or];exact ⟨HZ.out,fun e => hne e.symm⟩
   have HP : Hid (l[k] = x -> ∃ j : Nat,(k : Int) = j /\ ∃ h : j < l.length,l[j] = x /\ x ∉ l.take j) := hid1 fun he => ⟨k,rfl,hlt,he,HZ.out⟩
   clear hcur HI HZ;generalize l[k] = y at *;by_cases he : y = x
   ·subst he;have HPP := hid1 (HP.out rfl);clear HP HT;go_wp2;go_ret;exact ⟨_,rfl,rfl,.inr HPP.out⟩
   ·have e1 : (y == x) = false := by simpa using he
    have HTT := hid1 (HT.out he);clear HP HT;go_wp2;exact ⟨⟨k + 1,by omega,by go_num,HTT.out,trivial⟩,by simp [intOf];omega⟩
  ·have c1 : (l.length : Int) <= (k : Int) := by omega
   have HN : Hid (x ∉ l) := hid1 (by
    have := HZ.out;rwa [List.take_of_length_le (by omega)] at this)
   clear HI HZ;go_wp2;go_ret;exact ⟨_,rfl,rfl,.inl ⟨rfl,HN.out⟩⟩
theorem Zyf {l : List (List UInt8)} {k : Nat} (hk : k < l.length) {r : Int} (h : (r = -1 /\ l[k] ∉ l) \/ ∃ j : Nat,r = j /\ ∃ h : j < l.length,l[j] = l[k] /\ l[k] ∉ l.take j) : decide (r < (k : Int)) = decide (l[k] ∈ l.take k) := by
 rcases h with ⟨_,h⟩ | ⟨j,rfl,hj,he,hn⟩
 ·exact absurd (List.getElem_mem hk) h
 ·rw [decide_eq_decide];constructor
  ·intro h
   rw [<- he];have : j < (l.take k).length := by simp;omega
   have h2 := List.getElem_mem this;rwa [List.getElem_take] at h2
  ·intro h
   rcases Nat.lt_or_ge j k with h' | h'
   ·omega
   ·exfalso
    apply hn
    exact (List.take_sublist_take_left h').subset h
end
section
open Go.RowKit Go.Shelf Go.Lib
theorem Zbf {w : World} (v : Value) (l : List Ru) (hrow : RRow w v l) (hl : ∀ x ∈ l,x.ins.length <= 1000000) (i k : Nat) (hi : i < l.length) (hk : k < l.length) :
  Calls Tryz.prog 56 #[v,.int .i64 i,.int .i64 k] w fun e w' => e = .returned (.bool (Ru.needs l i k)) /\ ∃ q,w' = w.drewN q := by
 obtain ⟨p,cap,rfl,hcap,hnn,hin⟩ := hrow;obtain ⟨g,o,rfl,hg,hcur⟩ := hin (by intro e;rw [e] at hi;simp at hi)
 obtain ⟨-,-,-,u,d3,ux⟩ := hcur i hi;obtain ⟨d0,-⟩ := hcur k hk;have HX := hid1 fun W (hW : Below w.heap.size w W) => Zfv u l[i].ins l[k].out (ux.below hW).irow (hl _ (List.getElem_mem hi))
 have HQ := hid1 (Ru.needs_eq hi hk);have ci : (i : Int) < (l.length : Int) := by omega
 have ck : (k : Int) < (l.length : Int) := by omega
 have c0 : (0 : Int) <= (i : Int) := by omega
 have c1 : (0 : Int) <= (k : Int) := by omega
 obtain ⟨p3,cap3,rfl,-⟩ := ux;have HL : Hid (∀ r : Int,((r = -1 /\ l[k].out ∉ l[i].ins) \/ ∃ j : Nat,r = j /\ ∃ h : j < l[i].ins.length,l[i].ins[j] = l[k].out /\ l[k].out ∉ l[i].ins.take j) -> decide (0 <= r) = Ru.needs l i k) := hid1 fun r h => by
  rw [HQ.out,decide_eq_decide];rcases h with ⟨rfl,h⟩ | ⟨j,rfl,hj,he,_⟩
  ·exact ⟨fun h => by omega,fun h' => absurd h' h⟩
  ·exact ⟨fun _ => by rw [<- he];exact List.getElem_mem hj,fun _ => by omega⟩
 clear hin hcur hl hnn HQ;generalize Ru.needs l i k = d at *;generalize l[k].out = y at *;go_enter Tryz.func56,Tryz.ntmps56
 go_wp2;go_region_held3 (fun w' => w'.cell? ⟨g,o + i * 4 + 3,none⟩ = some (.slice p3 l[i].ins.length cap3) /\ w'.cell? ⟨g,o + k * 4,none⟩ = some (.string (ba y))) (first | go_keep | fail)
  (first | (go_at_call 57;refine (HX.out _ (by exact (Below.refl _ w).drew)).mono ?_;rintro e w5 ⟨r,rfl,rfl,hix⟩;have hdd := HL.out r hix) | fail)
 all_goals
  go_wp2;go_ret;exact ⟨rfl,1,rfl⟩
end
end Go.Proofs.YtbgkfmodbofalaaGreatDoor
