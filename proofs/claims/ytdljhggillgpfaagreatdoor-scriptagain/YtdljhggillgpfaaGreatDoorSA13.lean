import Derived.Test.YtdljhggillgpfaaGreatDoorSA12
import Derived.Laws.OwnMore
import Derived.OneCell
import Derived.OwnWalk
set_option maxRecDepth 100000
set_option maxHeartbeats 4000000
namespace Go.Proofs.YtdljhggillgpfaaGreatDoor
namespace Bf
inductive St where
 | no | waits | done (s : List UInt8) (hit : Bool) | failed (why : Nat) | left
def St.isWaits : St → Bool | .waits => true | _ => false
def St.isDone : St → Bool | .done _ _ => true | _ => false
def St.isBad : St → Bool | .failed _ => true | .left => true | _ => false
def St.isNo : St → Bool | .no => true | _ => false
def St.isFailed : St → Bool | .failed _ => true | _ => false
def St.isLeft : St → Bool | .left => true | _ => false
def St.name : St → List UInt8
 | .no => []
 | .waits => [119,97,105,116,115]
 | .done _ _ => [100,111,110,101]
 | .failed _ => [102,97,105,108,101,100]
 | .left => [108,101,102,116]
def St.out : St → List UInt8 | .done s _ => s | _ => []
def St.hit : St → Bool | .done _ h => h | _ => false
def St.why : St → Nat | .failed c => c | _ => 0
theorem St.waits_eq {s : St} (h : s.isWaits = true) : s = .waits := by cases s <;> first | rfl | cases h
structure Bd where
 fs : Tf.Fs
 l : List Ru
 st : Nat → St
def setS (st : Nat → St) (i : Nat) (s : St) : Nat → St := fun j => if j = i then s else st j
theorem setS_same (st : Nat → St) (i : Nat) (s : St) : setS st i s i = s := if_pos rfl
theorem setS_other {st : Nat → St} {i j : Nat} {s : St} (h : j ≠ i) : setS st i s j = st j := if_neg h
def Bd.set (d : Bd) (i : Nat) (s : St) : Bd := { d with st := setS d.st i s }
def freeTo (l : List Ru) (st : Nat → St) (i m : Nat) : Bool := (List.range m).all fun k => !(Ru.needs l i k && !(st k).isDone)
def Bd.isReady (d : Bd) (i : Nat) : Bool := (d.st i).isWaits && freeTo d.l d.st i d.l.length
def Bd.readyTo (d : Bd) (m : Nat) : List Nat := (List.range m).filter d.isReady
def Bd.ready (d : Bd) : List Nat := d.readyTo d.l.length
theorem readyTo_len (d : Bd) (m : Nat) : (d.readyTo m).length ≤ m := by
 have := List.length_filter_le d.isReady (List.range m)
 simpa [Bd.readyTo] using this
theorem mem_ready {d : Bd} {i : Nat} : i ∈ d.ready ↔ i < d.l.length ∧ d.isReady i = true := by
 unfold Bd.ready Bd.readyTo
 rw [List.mem_filter,List.mem_range]
theorem ready_free {d : Bd} {i k : Nat} (h : d.isReady i = true) (hk : k < d.l.length) (hn : Ru.needs d.l i k = true) : (d.st k).isDone = true := by
 unfold Bd.isReady freeTo at h
 rw [Bool.and_eq_true,List.all_eq_true] at h
 have := h.2 k (List.mem_range.2 hk)
 rw [hn] at this
 simpa using this
theorem ready_waits {d : Bd} {i : Nat} (h : d.isReady i = true) : d.st i = .waits := by
 unfold Bd.isReady at h
 rw [Bool.and_eq_true] at h
 exact St.waits_eq h.1
inductive Chain (l : List Ru) (st : Nat → St) : Nat → Prop
 | one {k j : Nat} : Ru.needs l k j = true → (st j).isBad = true → Chain l st k
 | more {k j : Nat} : Ru.needs l k j = true → (st j).isWaits = true → Chain l st j → Chain l st k
open Classical in
noncomputable def spread (l : List Ru) (st : Nat → St) : Nat → St := fun k => if (st k).isWaits = true ∧ Chain l st k then .left else st k
noncomputable def Bd.fail (d : Bd) (i c : Nat) : Bd := { d with st := spread d.l (setS d.st i (.failed c)) }
def mkr (l : List Ru) (x : List UInt8) : Option Nat := l.findIdx? fun r => r.out == x
def Bd.bytes (d : Bd) (x : List UInt8) : Option (List UInt8) :=
 match mkr d.l x with
 | some j => some (d.st j).out
 | none => Tf.get d.fs x
def inB (f : List UInt8 → Option (List UInt8)) : List (List UInt8) → Option (List (List UInt8))
 | [] => some []
 | x :: r => match f x with
  | none => none
  | some b => (inB f r).map (b :: ·)
theorem inB_len {f : List UInt8 → Option (List UInt8)} : ∀ {a o : List (List UInt8)},inB f a = some o → o.length = a.length
 | [],o,h => by cases h;rfl
 | y :: r,o,h => by
  unfold inB at h
  cases hy : f y with
  | none => rw [hy] at h;cases h
  | some b =>
   rw [hy] at h
   cases hr : inB f r with
   | none => rw [hr] at h;cases h
   | some q =>
    rw [hr] at h
    obtain rfl : b :: q = o := by simpa using h
    simp [inB_len hr]
theorem inB_mem {f : List UInt8 → Option (List UInt8)} : ∀ {a o : List (List UInt8)},inB f a = some o → ∀ b ∈ o,∃ x ∈ a,f x = some b
 | [],o,h,b,hb => by cases h;cases hb
 | y :: r,o,h,b,hb => by
  unfold inB at h
  cases hy : f y with
  | none => rw [hy] at h;cases h
  | some c =>
   rw [hy] at h
   cases hr : inB f r with
   | none => rw [hr] at h;cases h
   | some q =>
    rw [hr] at h
    obtain rfl : c :: q = o := by simpa using h
    rcases List.mem_cons.1 hb with rfl | hb
    ·exact ⟨y,by simp,hy⟩
    ·obtain ⟨x,hx,e⟩ := inB_mem hr b hb
     exact ⟨x,List.mem_cons_of_mem _ hx,e⟩
abbrev Ca : Type := Option (Nat × Cf.Ens)
def cfind : Ca → List UInt8 → Option (List UInt8)
 | some (_,l),k => Cf.find l k
 | none,_ => none
def cget : Ca → List UInt8 → Ca
 | some (m,l),k => some (m,Cf.get m l k)
 | none,_ => none
def cput : Ca → List UInt8 → List UInt8 → Ca
 | some (m,l),k,b => some (m,Cf.put m l k b)
 | none,_,_ => none
structure Res where
 hit : Bool
 code : Nat
 d : Bd
 c : Ca
abbrev Act : Type := List UInt8 → List UInt8 → List (List UInt8) → List UInt8 × Nat
def Bd.rule (d : Bd) (i : Nat) : Ru := d.l.getD i ⟨[],[],[],[]⟩
def Bd.ins (d : Bd) (i : Nat) : Option (List (List UInt8)) := inB d.bytes (d.rule i).ins
noncomputable def go (act : Act) (c : Ca) (d : Bd) (i : Nat) : Res :=
 match d.ins i with
 | none => ⟨false,0,d.fail i 6,c⟩
 | some xs =>
  match cfind c (Kp.key (d.rule i).kind (d.rule i).word xs) with
  | some s => ⟨true,0,d.set i (.done s true),cget c (Kp.key (d.rule i).kind (d.rule i).word xs)⟩
  | none =>
   if (act (d.rule i).kind (d.rule i).word xs).2 = 0 then ⟨false,0,d.set i (.done (act (d.rule i).kind (d.rule i).word xs).1 false),cput c (Kp.key (d.rule i).kind (d.rule i).word xs) (act (d.rule i).kind (d.rule i).word xs).1⟩
   else ⟨false,0,d.fail i (act (d.rule i).kind (d.rule i).word xs).2,c⟩
noncomputable def runN (act : Act) (c : Ca) (d : Bd) (i : Nat) : Res :=
 if (d.st i).isNo = true then ⟨false,6,d,c⟩
 else if (d.st i).isWaits = false then ⟨false,12,d,c⟩
 else if d.isReady i = false then ⟨false,11,d,c⟩
 else go act c d i
noncomputable def run (act : Act) (c : Ca) (d : Bd) (i : Int) : Res :=
 if i < 0 ∨ (d.l.length : Int) ≤ i then ⟨false,6,d,c⟩ else runN act c d i.toNat
def many (st : Nat → St) (p : St → Bool) : Nat → Nat
 | 0 => 0
 | n + 1 => many st p n + (if p (st n) = true then 1 else 0)
theorem many_le (st : Nat → St) (p : St → Bool) : ∀ n,many st p n ≤ n
 | 0 => Nat.le_refl _
 | n + 1 => by
  have := many_le st p n
  unfold many
  split <;> omega
theorem many_less {st st' : Nat → St} {p : St → Bool} {i : Nat} : ∀ {n : Nat},i < n → p (st i) = true → p (st' i) = false → (∀ k,p (st' k) = true → p (st k) = true) → many st' p n < many st p n
 | 0,h,_,_,_ => by omega
 | n + 1,h,h1,h2,h3 => by
  have hle : ∀ m,many st' p m ≤ many st p m := by
   intro m
   induction m with
   | zero => exact Nat.le_refl _
   | succ m ih =>
    unfold many
    by_cases hp : p (st' m) = true
    ·rw [if_pos hp,if_pos (h3 m hp)];omega
    ·rw [if_neg hp];split <;> omega
  unfold many
  by_cases e : i = n
  ·subst e
   have := hle i
   rw [if_pos h1,if_neg (by rw [h2];simp)]
   omega
  ·have ih := many_less (n := n) (by omega) h1 h2 h3
   by_cases hp : p (st' n) = true
   ·rw [if_pos hp,if_pos (h3 n hp)];omega
   ·rw [if_neg hp];split <;> omega
def Bd.waits (d : Bd) : Nat := many d.st St.isWaits d.l.length
theorem spread_waits {l : List Ru} {st : Nat → St} {k : Nat} (h : (spread l st k).isWaits = true) : (st k).isWaits = true ∧ ¬ Chain l st k := by
 unfold spread at h
 split at h
 ·cases h
 ·rename_i hn
  exact ⟨h,fun hc => hn ⟨h,hc⟩⟩
theorem spread_keeps {l : List Ru} {st : Nat → St} {k : Nat} (h : (st k).isWaits = false) : spread l st k = st k := by
 unfold spread
 rw [if_neg (by rw [h];simp)]
theorem go_less (act : Act) (c : Ca) (d : Bd) (i : Nat) (hi : i < d.l.length) (hr : d.isReady i = true) : (go act c d i).d.waits < d.waits ∧ (go act c d i).d.l = d.l ∧ (go act c d i).d.fs = d.fs := by
 have hw := ready_waits hr
 have hset : ∀ s : St,s.isWaits = false → (d.set i s).waits < d.waits := fun s hs => by
  refine many_less (i := i) hi (by rw [hw];rfl) ?_ fun k hk => ?_
  ·show (setS d.st i s i).isWaits = false
   rw [setS_same];exact hs
  ·have hk' : (setS d.st i s k).isWaits = true := hk
   by_cases e : k = i
   ·rw [e,hw];rfl
   ·rwa [setS_other e] at hk'
 have hfail : ∀ e,(d.fail i e).waits < d.waits := fun e => by
  refine many_less (i := i) hi (by rw [hw];rfl) ?_ fun k hk => ?_
  ·show (spread d.l (setS d.st i (.failed e)) i).isWaits = false
   rw [spread_keeps (by rw [setS_same];rfl),setS_same];rfl
  ·have hk' := (spread_waits (show (spread d.l (setS d.st i (.failed e)) k).isWaits = true from hk)).1
   by_cases e : k = i
   ·rw [e,hw];rfl
   ·rwa [setS_other e] at hk'
 unfold go
 split
 ·exact ⟨hfail _,rfl,rfl⟩
 ·split
  ·exact ⟨hset _ rfl,rfl,rfl⟩
  ·split
   ·exact ⟨hset _ rfl,rfl,rfl⟩
   ·exact ⟨hfail _,rfl,rfl⟩
theorem run_ready (act : Act) (c : Ca) (d : Bd) (i : Nat) (hi : i < d.l.length) (hr : d.isReady i = true) : run act c d i = go act c d i := by
 have hw := ready_waits hr
 unfold run runN
 rw [if_neg (by omega),if_neg (by simp [hw,St.isNo]),if_neg (by simp [hw,St.isWaits]),if_neg (by simp [hr])]
 simp
noncomputable def allF (act : Act) : Nat → Ca → Bd → Bd × Ca
 | 0,c,d => (d,c)
 | f + 1,c,d =>
  match d.ready with
  | [] => (d,c)
  | i :: _ => allF act f (go act c d i).c (go act c d i).d
noncomputable def all (act : Act) (c : Ca) (d : Bd) : Bd × Ca := allF act (d.waits + 1) c d
theorem allF_enough (act : Act) : ∀ (f f' : Nat) (c : Ca) (d : Bd),d.waits < f → d.waits < f' → allF act f c d = allF act f' c d
 | 0,_,_,_,h,_ => by omega
 | _,0,_,_,_,h => by omega
 | f + 1,f' + 1,c,d,h,h' => by
  unfold allF
  cases hr : d.ready with
  | nil => rfl
  | cons i r =>
   have hm := mem_ready.1 (show i ∈ d.ready by rw [hr];simp)
   have := (go_less act c d i hm.1 hm.2).1
   exact allF_enough act f f' _ _ (by omega) (by omega)
theorem all_nil (act : Act) (c : Ca) (d : Bd) (h : d.ready = []) : all act c d = (d,c) := by
 unfold all allF
 rw [h]
theorem all_cons (act : Act) (c : Ca) (d : Bd) {i : Nat} {r : List Nat} (h : d.ready = i :: r) : all act c d = all act (go act c d i).c (go act c d i).d := by
 have hm := mem_ready.1 (show i ∈ d.ready by rw [h];simp)
 have := (go_less act c d i hm.1 hm.2).1
 conv => lhs;unfold all allF
 rw [h]
 exact allF_enough act _ _ _ _ (by omega) (by omega)
end Bf
end Go.Proofs.YtdljhggillgpfaaGreatDoor
namespace Go.Proofs.YtdljhggillgpfaaGreatDoor
namespace Bf
structure Fit (d : Bd) : Prop where
 files : ∀ f ∈ d.fs,f.2.length ≤ 2000
 outs : ∀ k,(d.st k).out.length ≤ 2000
 whys : ∀ k,(d.st k).why ≤ 12
def CFit : Ca → Prop
 | none => True
 | some (m,l) => 1 ≤ m ∧ m ≤ 100 ∧ Cf.Ok m l ∧ ∀ e ∈ l,e.2.length ≤ 2000
def ActFit (act : Act) : Prop := ∀ k w xs,(act k w xs).2 ≤ 12 ∧ ((act k w xs).2 = 0 → (act k w xs).1.length ≤ 2000)
theorem get_mem {fs : Tf.Fs} {p b : List UInt8} (h : Tf.get fs p = some b) : (p,b) ∈ fs := by
 unfold Tf.get at h
 cases hf : fs.find? fun f => f.1 == p with
 | none => rw [hf] at h;cases h
 | some e =>
  rw [hf] at h
  have h1 := List.find?_some hf
  have h2 := List.mem_of_find?_eq_some hf
  have e1 : e.1 = p := by simpa using h1
  have e2 : e.2 = b := by simpa using h
  rw [← e1,← e2]
  exact h2
theorem Fit.bytes {d : Bd} (h : Fit d) {x b : List UInt8} (hb : d.bytes x = some b) : b.length ≤ 2000 := by
 unfold Bd.bytes at hb
 split at hb
 ·rename_i j _
  rw [← Option.some.inj hb]
  exact h.outs j
 ·exact h.files _ (get_mem hb)
theorem Fit.ins {d : Bd} (h : Fit d) {i : Nat} {xs : List (List UInt8)} (hx : d.ins i = some xs) : xs.length = (d.rule i).ins.length ∧ ∀ x ∈ xs,x.length ≤ 2000 :=
 ⟨inB_len hx,fun x hxm => by
  obtain ⟨y,_,hy⟩ := inB_mem hx x hxm
  exact h.bytes hy⟩
theorem Fit.set {d : Bd} (h : Fit d) (i : Nat) {s : St} (hs : s.out.length ≤ 2000) (hw : s.why ≤ 12) : Fit (d.set i s) :=
 ⟨h.files,fun k => by
  show (setS d.st i s k).out.length ≤ 2000
  unfold setS
  split
  ·exact hs
  ·exact h.outs k,fun k => by
  show (setS d.st i s k).why ≤ 12
  unfold setS
  split
  ·exact hw
  ·exact h.whys k⟩
theorem Fit.fail {d : Bd} (h : Fit d) (i : Nat) {c : Nat} (hc : c ≤ 12) : Fit (d.fail i c) :=
 ⟨h.files,fun k => by
  show (spread d.l (setS d.st i (.failed c)) k).out.length ≤ 2000
  unfold spread
  split
  ·simp [St.out]
  ·unfold setS
   split
   ·simp [St.out]
   ·exact h.outs k,fun k => by
  show (spread d.l (setS d.st i (.failed c)) k).why ≤ 12
  unfold spread
  split
  ·simp [St.why]
  ·unfold setS
   split
   ·simpa [St.why] using hc
   ·exact h.whys k⟩
theorem CFit.find {c : Ca} (h : CFit c) {k b : List UInt8} (hf : cfind c k = some b) : b.length ≤ 2000 := by
 match c,h,hf with
 | some (m,l),h,hf => exact h.2.2.2 _ (Cf.find_some hf)
theorem mem_put {m : Nat} {l : Cf.Ens} {k b : List UInt8} {e : Cf.En} (h : e ∈ Cf.put m l k b) : e ∈ l ∨ e = (k,b) := by
 have h1 : e ∈ Cf.rm l k ++ [(k,b)] := by
  unfold Cf.put Cf.cut at h
  split at h
  ·exact (List.drop_sublist 1 _).subset h
  ·exact h
 rcases List.mem_append.1 h1 with h2 | h2
 ·exact .inl (Cf.mem_rm.1 h2).1
 ·exact .inr (List.mem_singleton.1 h2)
theorem CFit.put {c : Ca} (h : CFit c) (k : List UInt8) {b : List UInt8} (hb : b.length ≤ 2000) : CFit (cput c k b) := by
 match c,h with
 | none,_ => trivial
 | some (m,l),h =>
  refine ⟨h.1,h.2.1,h.2.2.1.put k b,fun e he => ?_⟩
  rcases mem_put he with h1 | h1
  ·exact h.2.2.2 e h1
  ·rw [h1];exact hb
theorem CFit.get {c : Ca} (h : CFit c) (k : List UInt8) : CFit (cget c k) := by
 match c,h with
 | none,_ => trivial
 | some (m,l),h =>
  refine ⟨h.1,h.2.1,h.2.2.1.get k,fun e he => ?_⟩
  have he' : e ∈ Cf.get m l k := he
  unfold Cf.get at he'
  split at he'
  ·rename_i b hb
   rcases mem_put he' with h1 | h1
   ·exact h.2.2.2 e h1
   ·rw [h1];exact h.2.2.2 _ (Cf.find_some hb)
  ·exact h.2.2.2 e he'
theorem go_fit {act : Act} (ha : ActFit act) {c : Ca} {d : Bd} (hc : CFit c) (hd : Fit d) (i : Nat) : Fit (go act c d i).d ∧ CFit (go act c d i).c := by
 unfold go
 split
 ·exact ⟨hd.fail _ (by omega),hc⟩
 ·split
  ·rename_i s hs
   exact ⟨hd.set _ (hc.find hs) (by simp [St.why]),hc.get _⟩
  ·split
   ·rename_i h0
    exact ⟨hd.set _ ((ha _ _ _).2 h0) (by simp [St.why]),hc.put _ ((ha _ _ _).2 h0)⟩
   ·exact ⟨hd.fail _ (ha _ _ _).1,hc⟩
end Bf
end Go.Proofs.YtdljhggillgpfaaGreatDoor
namespace Go.Proofs.YtdljhggillgpfaaGreatDoor
namespace Bf
def winB (f : List UInt8 → List UInt8 × Nat) : List (List UInt8) → List (List UInt8) × Nat
 | [] => ([],0)
 | x :: r => if (f x).2 = 0 then ((f x).1 :: (winB f r).1,(winB f r).2) else ([],(f x).2)
def wrule (act : Act) (f : List UInt8 → List UInt8 × Nat) (r : Ru) : List UInt8 × Nat :=
 if (winB f r.ins).2 = 0 then act r.kind r.word (winB f r.ins).1 else ([],(winB f r.ins).2)
structure Wanted (act : Act) (fs : Tf.Fs) (l : List Ru) (N : Nat → Prop) (f : List UInt8 → List UInt8 × Nat) : Prop where
 rule : ∀ x i,mkr l x = some i → N i → f x = wrule act f (l.getD i ⟨[],[],[],[]⟩)
 file : ∀ x b,mkr l x = none → Tf.get fs x = some b → f x = (b,0)
 lacks : ∀ x,mkr l x = none → Tf.get fs x = none → f x = ([],6)
theorem winB_congr {f g : List UInt8 → List UInt8 × Nat} : ∀ {a : List (List UInt8)},(∀ x ∈ a,f x = g x) → winB f a = winB g a
 | [],_ => rfl
 | x :: r,h => by
  unfold winB
  rw [h x (by simp),winB_congr fun y hy => h y (List.mem_cons_of_mem _ hy)]
theorem wrule_congr {act : Act} {f g : List UInt8 → List UInt8 × Nat} {r : Ru} (h : ∀ x ∈ r.ins,f x = g x) : wrule act f r = wrule act g r := by
 unfold wrule
 rw [winB_congr h]
theorem mkr_of {l : List Ru} {x : List UInt8} {k : Nat} (h : mkr l x = some k) : ∃ hk : k < l.length,l[k].out = x := by
 unfold mkr at h
 obtain ⟨hk,h1,_⟩ := List.findIdx?_eq_some_iff_getElem.1 h
 exact ⟨hk,by simpa using h1⟩
theorem getD_at {l : List Ru} {k : Nat} (hk : k < l.length) : l.getD k ⟨[],[],[],[]⟩ = l[k] := by
 rw [List.getD_eq_getElem?_getD,List.getElem?_eq_getElem hk];rfl
def wantF (act : Act) (fs : Tf.Fs) (l : List Ru) : Nat → List UInt8 → List UInt8 × Nat
 | 0,_ => ([],0)
 | n + 1,x =>
  match mkr l x with
  | some i => wrule act (wantF act fs l n) (l.getD i ⟨[],[],[],[]⟩)
  | none => match Tf.get fs x with
   | some b => (b,0)
   | none => ([],6)
theorem wantF_enough {act : Act} {fs : Tf.Fs} {l : List Ru} {N : Nat → Prop} (hcl : ∀ i k,N i → Ru.needs l i k = true → N k) {r : Nat → Nat} (hr : ∀ i k,N i → Ru.needs l i k = true → r k < r i) : ∀ (n m : Nat) (x : List UInt8),1 ≤ n → 1 ≤ m → (∀ i,mkr l x = some i → N i ∧ r i + 2 ≤ n ∧ r i + 2 ≤ m) → wantF act fs l n x = wantF act fs l m x
 | 0,_,_,h,_,_ => by omega
 | _,0,_,_,h,_ => by omega
 | n + 1,m + 1,x,_,_,h => by
  unfold wantF
  cases hm : mkr l x with
  | none => rfl
  | some i =>
   obtain ⟨hk,_⟩ := mkr_of hm
   have hb := h i hm
   simp only
   rw [getD_at hk]
   refine wrule_congr fun y hy => ?_
   refine wantF_enough hcl hr n m y (by omega) (by omega) fun j hj => ?_
   obtain ⟨hj',ej⟩ := mkr_of hj
   have hnd : Ru.needs l i j = true := by rw [Ru.needs_eq hk hj',ej];exact decide_eq_true hy
   have := hr i j hb.1 hnd
   exact ⟨hcl i j hb.1 hnd,by omega,by omega⟩
theorem wanted_is {act : Act} {fs : Tf.Fs} {l : List Ru} {N : Nat → Prop} (hcl : ∀ i k,N i → Ru.needs l i k = true → N k) {r : Nat → Nat} (hr : ∀ i k,N i → Ru.needs l i k = true → r k < r i) {n : Nat} (hn : ∀ i,i < l.length → N i → r i + 2 ≤ n) (h1 : 1 ≤ n) : Wanted act fs l N (wantF act fs l n) := by
 obtain ⟨m,rfl⟩ : ∃ m,n = m + 1 := ⟨n - 1,by omega⟩
 refine ⟨fun x i hx hN => ?_,fun x b hx hb => ?_,fun x hx hb => ?_⟩
 ·obtain ⟨hk,_⟩ := mkr_of hx
  have hb := hn i hk hN
  conv => lhs;unfold wantF
  rw [hx]
  simp only
  rw [getD_at hk]
  refine wrule_congr fun y hy => ?_
  refine wantF_enough hcl hr m (m + 1) y (by omega) (by omega) fun j hj => ?_
  obtain ⟨hj',ej⟩ := mkr_of hj
  have hnd : Ru.needs l i j = true := by rw [Ru.needs_eq hk hj',ej];exact decide_eq_true hy
  have := hr i j hN hnd
  exact ⟨hcl i j hN hnd,by omega,by omega⟩
 ·unfold wantF
  rw [hx,hb]
 ·unfold wantF
  rw [hx,hb]
end Bf
end Go.Proofs.YtdljhggillgpfaaGreatDoor
namespace Go.Proofs.YtdljhggillgpfaaGreatDoor
namespace Bf
def kkey (f : List UInt8 → List UInt8 × Nat) (r : Ru) : List UInt8 := Kp.key r.kind r.word (winB f r.ins).1
end Bf
end Go.Proofs.YtdljhggillgpfaaGreatDoor
namespace Go.Proofs.YtdljhggillgpfaaGreatDoor
open Go.RowKit Go.Shelf Go.Lib
def rowB (n : Nat) (f : Nat → Bool) : List Value := (List.range n).map (fun j => Value.bool (f j))
def Own (W : World) (B g n : Nat) (f : Nat → Bool) : Prop := W.ownsRow B 4 1 (.slice (some ⟨g,0,none⟩) n n) n (rowB n f)
end Go.Proofs.YtdljhggillgpfaaGreatDoor
namespace Go.Proofs.YtdljhggillgpfaaGreatDoor
open Go.RowKit Go.Shelf Go.Lib
theorem Tryz.infoInt : (Tryz.prog.info? 3).map (fun i => (i.zero,i.size,i.bytes)) = some (some (.int .i64 0),1,8) := by kernel_rfl
abbrev nv (x : Nat) : Value := .int .i64 (x : Int)
def slen : Value → Nat
 | .slice _ n _ => n
 | _ => 0
def NRow (w : World) (v : Value) (l : List Nat) : Prop :=
 ∃ p cap,v = .slice p l.length cap ∧ l.length ≤ cap ∧ (l ≠ [] → ∃ g cur,p = some ⟨g,0,none⟩ ∧ w.heap[g]? = some (.cells cur 3 (0,0)) ∧ ∀ j (hj : j < l.length),cur[j]? = some (nv l[j]))
theorem NRow.of_owns {w : World} {base : Nat} {v : Value} {l : List Nat} {n : Nat} (h : w.ownsRow base 3 1 v n (l.map nv)) : NRow w v l := by
 have hn : n = l.length := by have := h.1;simp at this;omega
 subst hn
 rcases h.2 with ⟨rfl,hn⟩ | ⟨g,cap,cur,rfl,_,hb,h1,_,_,h4⟩
 ·obtain rfl : l = [] := by simpa using hn
  exact ⟨none,0,rfl,Nat.le_refl _,fun h => absurd rfl h⟩
 ·refine ⟨_,cap,rfl,h1,fun _ => ⟨g,cur,rfl,hb,fun j hj => ?_⟩⟩
  have := congrArg (fun x => x[j]?) h4
  simp only [Nat.mul_one,List.getElem?_take,hj,if_true,List.getElem?_map,List.getElem?_eq_getElem hj,Option.map_some,Array.getElem?_toList] at this
  exact this
theorem owns_slen {w : World} {base : Nat} {e : TypeId} {size : Nat} {v : Value} {n : Nat} {xs : List Value} (h : w.ownsRow base e size v n xs) : slen v = n := by
 rcases h.2 with ⟨rfl,hn⟩ | ⟨g,cap,cur,rfl,_⟩
 ·exact hn.symm
 ·rfl
theorem one_new (W : World) (x : Value) (t : TypeId) (n : Nat) (hn : W.heap.size = n) (j : Nat) (u : Value) (h : [x][j]? = some u) : (W.alloc (.cells #[x] t)).cell? ((⟨n,0,none⟩ : Addr).add j) = some u := by
 subst hn
 exact cell_one_new W x t j u h
end Go.Proofs.YtdljhggillgpfaaGreatDoor
namespace Go.Proofs.YtdljhggillgpfaaGreatDoor
open Go.RowKit Go.Shelf Go.Lib
theorem owns_far {w : World} {base base' : Nat} {e e' : TypeId} {size size' : Nat} {v : Value} {g m c n n' : Nat} {xs xs' : List Value} (h : w.ownsRow base e size v n xs) (hu : w.ownsRow base' e' size' (.slice (some ⟨g,0,none⟩) m c) n' xs') (he : e ≠ e') : v.ownBlock ≠ some g := by
 rcases h.2 with ⟨rfl,_⟩ | ⟨b,cap,cur,rfl,_,hb,_⟩
 ·simp [Value.ownBlock]
 ·rcases hu.2 with ⟨h',_⟩ | ⟨g',cap',cur',h',_,hb',_⟩
  ·cases h'
  ·cases h'
   simp only [Value.ownBlock,ne_eq,Option.some.injEq]
   rintro rfl
   rw [hb] at hb'
   simp at hb'
   exact he hb'.2
theorem len_le : ∀ {n : Nat} {o : List Nat},o.Nodup → (∀ i ∈ o,i < n) → o.length ≤ n
 | 0,o,_,hb => by
  cases o with
  | nil => simp
  | cons a r => exact absurd (hb a (by simp)) (by omega)
 | n + 1,o,hd,hb => by
  have h1 := len_le (n := n) (hd.erase n) (fun i hi => by
   obtain ⟨hne,hm⟩ := (List.Nodup.mem_erase_iff hd).1 hi
   have := hb i hm
   omega)
  by_cases hm : n ∈ o
  ·rw [List.length_erase_of_mem hm] at h1
   omega
  ·rw [List.erase_of_not_mem hm] at h1
   omega
end Go.Proofs.YtdljhggillgpfaaGreatDoor
namespace Go.Proofs.YtdljhggillgpfaaGreatDoor
open Go.RowKit Go.Shelf Go.Lib
namespace Ru
inductive Walk (l : List Ru) : Nat → Nat → Nat → Prop
 | zero (i : Nat) : Walk l i i 0
 | step {i j k t : Nat} : needs l i j = true → Walk l j k t → Walk l i k (t + 1)
theorem Walk.inv {l : List Ru} {i k t : Nat} (h : Walk l i k (t + 1)) : ∃ j,needs l i j = true ∧ Walk l j k t := by
 cases h with
 | step hn hw => exact ⟨_,hn,hw⟩
theorem pigeon {n : Nat} {g : Nat → Nat} (h : ∀ t,t ≤ n → g t < n) : ∃ a b,a < b ∧ b ≤ n ∧ g a = g b := by
 refine Classical.byContradiction fun hno => ?_
 have hd : ((List.range (n + 1)).map g).Nodup := by
  rw [List.nodup_iff_pairwise_ne,List.pairwise_map]
  refine List.Pairwise.imp_of_mem ?_ List.pairwise_lt_range
  intro a b _ hb hab e
  exact hno ⟨a,b,hab,by have := List.mem_range.1 hb;omega,e⟩
 have := len_le (n := n) hd (fun i hi => by
  obtain ⟨t,ht,rfl⟩ := List.mem_map.1 hi
  exact h t (by have := List.mem_range.1 ht;omega))
 simp at this
 omega
def Topo (l : List Ru) (o : List Nat) : Prop := ∀ j (hj : j < o.length) k,needs l o[j] k = true → k ∈ o.take j
theorem orderF_some {l : List Ru} {some : Nat → Bool} : ∀ {f : Nat} {o r : List Nat},orderF l some f o = Option.some r → Topo l o → Topo l r ∧ ∀ i,i < l.length → some i = true → i ∈ r
 | 0,_,_,h,_ => by cases h
 | f + 1,o,r,h,ht => by
  unfold orderF at h
  split at h
  ·split at h
   ·cases h
   ·rename_i i hi
    refine orderF_some h ?_
    have hm := (nextTo_some hi).2
    simp only [may,Bool.and_eq_true,freeTo,List.all_eq_true,Bool.or_eq_true,Bool.not_eq_true'] at hm
    intro j hj k hn
    rw [List.length_append,List.length_singleton] at hj
    by_cases e : j < o.length
    ·rw [List.getElem_append_left e] at hn
     rw [List.take_append_of_le_length (by omega)]
     exact ht j e k hn
    ·obtain rfl : j = o.length := by omega
     rw [List.getElem_append_right (Nat.le_refl _)] at hn
     simp only [Nat.sub_self,List.getElem_cons_zero] at hn
     rw [List.take_append_of_le_length (Nat.le_refl _),List.take_length]
     rcases hm.2 k (List.mem_range.2 (needs_lt hn).2) with h1 | h1
     ·simpa [isIn] using h1
     ·rw [hn] at h1
      cases h1
  ·rename_i hl
   cases h
   refine ⟨ht,fun i hi hs => ?_⟩
   simp only [leftTo,List.any_eq_true,Bool.and_eq_true,Bool.not_eq_true'] at hl
   refine Classical.byContradiction fun hno => hl ⟨i,List.mem_range.2 hi,hs,?_⟩
   simpa [isIn] using hno
theorem order_some {l : List Ru} {some : Nat → Bool} {o : List Nat} (h : order l some = Option.some o) : Topo l o ∧ ∀ i,i < l.length → some i = true → i ∈ o :=
 orderF_some h fun j hj => by simp at hj
theorem orderF_nodup {l : List Ru} {some : Nat → Bool} : ∀ {f : Nat} {o r : List Nat},orderF l some f o = Option.some r → o.Nodup → (∀ i ∈ o,i < l.length) → r.Nodup ∧ ∀ i ∈ r,i < l.length
 | 0,_,_,h,_,_ => by cases h
 | f + 1,o,r,h,hd,hb => by
  unfold orderF at h
  split at h
  ·split at h
   ·cases h
   ·rename_i i hi
    obtain ⟨hil,hm⟩ := nextTo_some hi
    have hio : i ∉ o := by
     simp only [may,Bool.and_eq_true,Bool.not_eq_true',isIn,decide_eq_false_iff_not] at hm
     exact hm.1.2
    refine orderF_nodup h ?_ ?_
    ·rw [List.nodup_append]
     exact ⟨hd,by simp,fun a ha b hb => by
      rw [List.mem_singleton.1 hb]
      rintro rfl
      exact hio ha⟩
    ·intro j hj
     rcases List.mem_append.1 hj with h1 | h1
     ·exact hb j h1
     ·rw [List.mem_singleton.1 h1];exact hil
  ·cases h
   exact ⟨hd,hb⟩
theorem order_nodup {l : List Ru} {some : Nat → Bool} {o : List Nat} (h : order l some = Option.some o) : o.Nodup ∧ ∀ i ∈ o,i < l.length :=
 orderF_nodup h List.nodup_nil (by simp)
theorem nodup_sub {α : Type} [DecidableEq α] {a : List α} : ∀ {b : List α},a.Nodup → a ⊆ b → a.length ≤ b.length := by
 induction a with
 | nil => intro b _ _;simp
 | cons x r ih =>
  intro b hd hs
  obtain ⟨hx,hr⟩ := List.nodup_cons.1 hd
  have hxb : x ∈ b := hs (by simp)
  have := ih (b := b.erase x) hr fun y hy => by
   have hne : y ≠ x := fun e => hx (e ▸ hy)
   exact (List.mem_erase_of_ne hne).2 (hs (List.mem_cons_of_mem _ hy))
  rw [List.length_erase_of_mem hxb] at this
  have hp := List.length_pos_of_mem hxb
  simp
  omega
theorem order_len {l : List Ru} {o : List Nat} (h : order l (fun _ => true) = Option.some o) : o.length = l.length := by
 obtain ⟨h1,h2⟩ := order_nodup h
 refine Nat.le_antisymm (len_le h1 h2) ?_
 have := nodup_sub (a := List.range l.length) (b := o) List.nodup_range fun i hi => (order_some h).2 i (List.mem_range.1 hi) rfl
 simpa using this
theorem Topo.none {l : List Ru} {o : List Nat} (h : Topo l o) (i t : Nat) (hi : i ∈ o) : ¬ Walk l i i (t + 1) := by
 have key : ∀ t i j (hj : j < o.length),o[j] = i → ∀ k,Walk l i k (t + 1) → k ∈ o.take j := by
  intro t
  induction t with
  | zero =>
   rintro i j hj rfl k hw
   obtain ⟨m,hn,hw'⟩ := hw.inv
   cases hw'
   exact h j hj _ hn
  | succ t ih =>
   rintro i j hj rfl k hw
   obtain ⟨m,hn,hw'⟩ := hw.inv
   have hm := h j hj m hn
   obtain ⟨q,hq,e⟩ := List.getElem_of_mem hm
   rw [List.getElem_take] at e
   have hqj : q < j := by simp at hq;omega
   exact (List.take_sublist_take_left (Nat.le_of_lt hqj)).subset (ih m q (by omega) e k hw')
 -- the first place of i
 intro hw
 have : ∀ m j (hj : j < o.length),j ≤ m → o[j] = i → False := by
  intro m
  induction m with
  | zero =>
   intro j hj hm e
   obtain rfl : j = 0 := by omega
   have := key t i 0 hj e i hw
   simp at this
  | succ m ih =>
   intro j hj hm e
   have h1 := key t i j hj e i hw
   obtain ⟨q,hq,e'⟩ := List.getElem_of_mem h1
   rw [List.getElem_take] at e'
   exact ih q (by simp at hq;omega) (by simp at hq;omega) e'
 obtain ⟨j,hj,e⟩ := List.getElem_of_mem hi
 exact this j j hj (Nat.le_refl _) e
end Ru
end Go.Proofs.YtdljhggillgpfaaGreatDoor
namespace Go.Proofs.YtdljhggillgpfaaGreatDoor
namespace Bf
def inO (o : List Nat) : Nat → Prop := fun i => i ∈ o
theorem rank_of {l : List Ru} {o : List Nat} (h : Ru.Topo l o) {i k : Nat} (hi : i ∈ o) (hn : Ru.needs l i k = true) : k ∈ o ∧ o.idxOf k < o.idxOf i := by
 have hj : o.idxOf i < o.length := List.idxOf_lt_length_of_mem hi
 have hg : o[o.idxOf i] = i := List.getElem_idxOf hj
 have hk := h (o.idxOf i) hj k (by rw [hg];exact hn)
 refine ⟨List.mem_of_mem_take hk,?_⟩
 obtain ⟨q,hq,e⟩ := List.getElem_of_mem hk
 rw [List.length_take] at hq
 rw [List.getElem_take] at e
 have : o.idxOf k ≤ q := by
  refine Nat.le_of_not_lt fun hlt => ?_
  have := List.not_of_lt_findIdx (p := fun y => y == k) (xs := o) hlt
  rw [e] at this
  simp at this
 omega
end Bf
end Go.Proofs.YtdljhggillgpfaaGreatDoor
namespace Go.Proofs.YtdljhggillgpfaaGreatDoor
open Go.RowKit Go.Shelf Go.Lib
theorem Run_good (nm word : ByteArray) (p : Option Addr) (len cap : Nat) (a b : Int) (tv : Value) (gr : Nat) (cr : Array Value) (out : ByteArray) (el : Value) (w : World)
  (hel : w.cell? ⟨9,0,none⟩ = some el) (h6 : 20 < w.heap.size) (htv : ∃ g c,tv = tfn g c)
  (eg : ∀ args w,(callFunc gr args).run Tryz.prog w = .ok (.enter gr args) w)
  (hfind : Hid (Calls Tryz.prog 223 #[.string nm,.string word,.int .i64 len] w fun e w' => e = .returned (.tuple #[kd a b tv (tfn gr cr),.nilIface]) ∧ Below w.heap.size w w' ∧ Objs w' (w.heap.size + 1)))
  (HR : Hid (∀ W,Below w.heap.size w W → Objs W (w.heap.size + 1) → Calls Tryz.prog gr (#[.string word,.slice p len cap] ++ cr) W fun e w' => e = .returned (.string out) ∧ Below W.heap.size W w')) :
  Calls Tryz.prog 208 #[.string nm,.string word,.slice p len cap] w fun e w' => e = .returned (if 2000 < out.size then .tuple #[.string ⟨#[]⟩,el] else .tuple #[.string out,.nilIface]) ∧ Below w.heap.size w w' := by
 obtain ⟨g,c,rfl⟩ := htv
 generalize hr : (if 2000 < out.size then Value.tuple #[.string ⟨#[]⟩,el] else .tuple #[.string out,.nilIface]) = r
 have HQ : Hid ((if 2000 < out.size then Value.tuple #[.string ⟨#[]⟩,el] else .tuple #[.string out,.nilIface]) = r) := hr
 clear hr
 have hnt : ∀ (a : Addr) (m : Mode) (W : World),Sem.run Tryz.prog (store a (tfn g c) m) W = stored Tryz.prog W a (tfn g c) m := fun a m W => run_store _ W a _ m rfl
 have hnr : ∀ (a : Addr) (m : Mode) (W : World),Sem.run Tryz.prog (store a (tfn gr cr) m) W = stored Tryz.prog W a (tfn gr cr) m := fun a m W => run_store _ W a _ m rfl
 go_enter Tryz.func208,Tryz.ntmps208
 go_wp2_with fail
 refine hfind.out.mono ?_
 rintro e w2 ⟨rfl,hb2,hO2⟩
 have gC : Below w2.heap.size w2 (w2.alloc (.cells #[.int .i64 a,.int .i64 b,tfn g c,tfn gr cr] 297)) := (Below.refl _ w2).alloc (Nat.le_refl _) _
 have HC := HR.out _ (below_then hb2 gC) (hO2.stays gC)
 go_wp2_with fail
 refine HC.mono ?_
 rintro e w3 ⟨rfl,hb3⟩
 have g3 := below_then (below_then hb2 gC) hb3
 have ke : w3.cell? ⟨9,0,none⟩ = some el := (cell_below2 g3 (by omega)).trans hel
 clear HC gC hb2 hO2 hb3
 by_cases hl : 2000 < out.size
 ·have d3 : decide ((2000 : Int) < (out.size : Int)) = true := by simp;omega
  go_wp2
  go_region
  all_goals go_wp2
  go_ret2
  exact ⟨ret_eq (by rw [← HQ.out,if_pos hl];rfl),below_draws g3 1⟩
 ·have d3 : decide ((2000 : Int) < (out.size : Int)) = false := by simp;omega
  go_wp2
  go_ret2
  exact ⟨ret_eq (by rw [← HQ.out,if_neg hl];rfl),g3⟩
theorem Run_bad (nm word : ByteArray) (p : Option Addr) (len cap : Nat) (t : TypeId) (u : Value) (w : World)
  (hfind : Hid (Calls Tryz.prog 223 #[.string nm,.string word,.int .i64 len] w fun e w' => e = .returned (.tuple #[zkd,.iface t u]) ∧ Below w.heap.size w w')) :
  Calls Tryz.prog 208 #[.string nm,.string word,.slice p len cap] w fun e w' => e = .returned (.tuple #[.string ⟨#[]⟩,.iface t u]) ∧ Below w.heap.size w w' := by
 have hnf : ∀ (a : Addr) (m : Mode) (W : World),Sem.run Tryz.prog (store a .nilFunc m) W = stored Tryz.prog W a .nilFunc m := fun a m W => run_store _ W a _ m rfl
 go_enter Tryz.func208,Tryz.ntmps208
 go_wp2_with fail
 refine hfind.out.mono ?_
 rintro e w2 ⟨rfl,hb2⟩
 have g3 := hb2.alloc hb2.size (.cells #[.int .i64 0,.int .i64 0,.nilFunc,.nilFunc] 297)
 go_wp2
 go_ret2
 exact ⟨rfl,g3⟩
end Go.Proofs.YtdljhggillgpfaaGreatDoor
namespace Go.Proofs.YtdljhggillgpfaaGreatDoor
open Go.RowKit Go.Shelf Go.Lib
open Go.Sort (grow Holds putRow)
open Af (Kd)
def Af.actO (nm wd : List UInt8) (ls : List (List UInt8)) : List UInt8 × Nat :=
 if Af.actE nm wd ls.length = 0 then
  (match Af.kindOf nm with
   | some k => if 2000 < (k.out wd ls).length then ([],10) else (k.out wd ls,0)
   | none => ([],5))
 else ([],Af.actE nm wd ls.length)
theorem Run_any {w : World} {er : Nat → Value} (h : AE w er) (nm wd : List UInt8) (hl : wd.length ≤ 1000000) (v : Value) (ls : List (List UInt8)) (hrow : TRow w v ls) (hx : ∀ x ∈ ls,x.length ≤ 3000) :
  Calls Tryz.prog 208 #[.string (ba nm),.string (ba wd),v] w fun e w' => e = .returned (.tuple #[.string (ba (Af.actO nm wd ls).1),er (Af.actO nm wd ls).2]) ∧ Below w.heap.size w w' := by
 obtain ⟨pa,cap,rfl,hcap,hin⟩ := hrow
 have hrow : TRow w (.slice pa ls.length cap) ls := ⟨pa,cap,rfl,hcap,hin⟩
 rcases find_any h nm wd ls.length hl with ⟨e0,k,hk,h1,h2,h3,h4,hf⟩ | ⟨e0,hf⟩
 ·have eO : Af.actO nm wd ls = if 2000 < (k.out wd ls).length then ([],10) else (k.out wd ls,0) := by
   unfold Af.actO
   rw [if_pos e0,hk]
  have := Run_good (ba nm) (ba wd) pa ls.length cap k.least k.most _ (Af.rf k) (Af.rc (w.heap.size + 1) k) (ba (k.out wd ls)) (er 10) w h.aw.long h.aw.big ⟨_,_,rfl⟩ (rf_enters k) (hid1 hf)
   (hid1 fun W hW hO => run_calls h.aw wd h4 pa cap ls hrow hx k (by omega) (by omega) h3 W hW hO)
  refine this.mono ?_
  rintro e w' ⟨rfl,g⟩
  refine ⟨?_,g⟩
  rw [eO,ba_size]
  split
  ·rfl
  ·rw [h.zero]
 ·have eO : Af.actO nm wd ls = ([],Af.actE nm wd ls.length) := by
   unfold Af.actO
   rw [if_neg e0]
  rw [eO]
  obtain ⟨c,hc⟩ : ∃ c,Af.actE nm wd ls.length = c + 1 := ⟨Af.actE nm wd ls.length - 1,by omega⟩
  obtain ⟨t,u,hu⟩ := h.iface c
  simp only [hc,hu] at hf ⊢
  exact Run_bad (ba nm) (ba wd) pa ls.length cap t u w (hid1 hf)
end Go.Proofs.YtdljhggillgpfaaGreatDoor
