import Derived.Test.YthchjnopgagilaaGreatDoorPA21
import Derived.Laws.OwnMore
import Derived.OneCell
import Derived.OwnWalk
set_option maxRecDepth 100000
set_option maxHeartbeats 4000000
namespace Go.Proofs.YthchjnopgagilaaGreatDoor
namespace Bf
def winB (f : List UInt8 → List UInt8 × Nat) : List (List UInt8) → List (List UInt8) × Nat
 | [] => ([],0)
 | x :: r => if (f x).2 = 0 then ((f x).1 :: (winB f r).1,(winB f r).2) else ([],(f x).2)
def wrule (act : Act) (f : List UInt8 → List UInt8 × Nat) (r : Ru) : List UInt8 × Nat :=
 if (winB f r.ins).2 = 0 then act r.kind r.word (winB f r.ins).1 else ([],(winB f r.ins).2)
structure Wanted (act : Act) (fs : Tf.Fs) (l : List Ru) (N : Nat → Prop) (f : List UInt8 → List UInt8 × Nat) : Prop where
 rule : ∀ x i,mkr l x = some i → N i → f x = wrule act f (l.getD i ⟨[],[],[],[]⟩)
 file : ∀ x b,mkr l x = none → Tf.get fs x = some b → f x = (b,0)
 lacks : ∀ x,mkr l x = none → Tf.get fs x = none → f x = ([],6)
theorem winB_congr {f g : List UInt8 → List UInt8 × Nat} : ∀ {a : List (List UInt8)},(∀ x ∈ a,f x = g x) → winB f a = winB g a
 | [],_ => rfl
 | x :: r,h => by
  unfold winB
  rw [h x (by simp),winB_congr fun y hy => h y (List.mem_cons_of_mem _ hy)]
theorem wrule_congr {act : Act} {f g : List UInt8 → List UInt8 × Nat} {r : Ru} (h : ∀ x ∈ r.ins,f x = g x) : wrule act f r = wrule act g r := by
 unfold wrule
 rw [winB_congr h]
theorem winB_bad {f : List UInt8 → List UInt8 × Nat} : ∀ {a : List (List UInt8)} {x : List UInt8},x ∈ a → (f x).2 ≠ 0 → (winB f a).2 ≠ 0
 | y :: r,x,hx,h => by
  unfold winB
  by_cases hy : (f y).2 = 0
  ·rw [if_pos hy]
   rcases List.mem_cons.1 hx with rfl | hx
   ·exact absurd hy h
   ·exact winB_bad hx h
  ·rw [if_neg hy];exact hy
theorem winB_in {f : List UInt8 → List UInt8 × Nat} {g : List UInt8 → Option (List UInt8)} : ∀ {a : List (List UInt8)},(∀ x ∈ a,(∀ b,g x = some b → f x = (b,0)) ∧ (g x = none → f x = ([],6))) →
  (∀ o,inB g a = some o → winB f a = (o,0)) ∧ (inB g a = none → (winB f a).2 = 6)
 | [],_ => ⟨fun o h => by cases h;rfl,fun h => by cases h⟩
 | x :: r,h => by
  have ih := winB_in (f := f) (g := g) fun y hy => h y (List.mem_cons_of_mem _ hy)
  have hx := h x (by simp)
  unfold inB winB
  cases hg : g x with
  | none =>
   have e := hx.2 hg
   refine ⟨fun o ho => by simp at ho,fun _ => ?_⟩
   rw [e];rfl
  | some b =>
   have e := hx.1 b hg
   rw [e]
   cases hr : inB g r with
   | none =>
    refine ⟨fun o ho => by simp at ho,fun _ => ?_⟩
    exact ih.2 hr
   | some q =>
    refine ⟨fun o ho => ?_,fun hn => by simp at hn⟩
    obtain rfl : b :: q = o := by simpa using ho
    rw [ih.1 q hr];rfl
theorem mkr_of {l : List Ru} {x : List UInt8} {k : Nat} (h : mkr l x = some k) : ∃ hk : k < l.length,l[k].out = x := by
 unfold mkr at h
 obtain ⟨hk,h1,_⟩ := List.findIdx?_eq_some_iff_getElem.1 h
 exact ⟨hk,by simpa using h1⟩
theorem getD_at {l : List Ru} {k : Nat} (hk : k < l.length) : l.getD k ⟨[],[],[],[]⟩ = l[k] := by
 rw [List.getD_eq_getElem?_getD,List.getElem?_eq_getElem hk];rfl
def wantF (act : Act) (fs : Tf.Fs) (l : List Ru) : Nat → List UInt8 → List UInt8 × Nat
 | 0,_ => ([],0)
 | n + 1,x =>
  match mkr l x with
  | some i => wrule act (wantF act fs l n) (l.getD i ⟨[],[],[],[]⟩)
  | none => match Tf.get fs x with
   | some b => (b,0)
   | none => ([],6)
theorem wantF_enough {act : Act} {fs : Tf.Fs} {l : List Ru} {N : Nat → Prop} (hcl : ∀ i k,N i → Ru.needs l i k = true → N k) {r : Nat → Nat} (hr : ∀ i k,N i → Ru.needs l i k = true → r k < r i) : ∀ (n m : Nat) (x : List UInt8),1 ≤ n → 1 ≤ m → (∀ i,mkr l x = some i → N i ∧ r i + 2 ≤ n ∧ r i + 2 ≤ m) → wantF act fs l n x = wantF act fs l m x
 | 0,_,_,h,_,_ => by omega
 | _,0,_,_,h,_ => by omega
 | n + 1,m + 1,x,_,_,h => by
  unfold wantF
  cases hm : mkr l x with
  | none => rfl
  | some i =>
   obtain ⟨hk,_⟩ := mkr_of hm
   have hb := h i hm
   simp only
   rw [getD_at hk]
   refine wrule_congr fun y hy => ?_
   refine wantF_enough hcl hr n m y (by omega) (by omega) fun j hj => ?_
   obtain ⟨hj',ej⟩ := mkr_of hj
   have hnd : Ru.needs l i j = true := by rw [Ru.needs_eq hk hj',ej];exact decide_eq_true hy
   have := hr i j hb.1 hnd
   exact ⟨hcl i j hb.1 hnd,by omega,by omega⟩
theorem wanted_is {act : Act} {fs : Tf.Fs} {l : List Ru} {N : Nat → Prop} (hcl : ∀ i k,N i → Ru.needs l i k = true → N k) {r : Nat → Nat} (hr : ∀ i k,N i → Ru.needs l i k = true → r k < r i) {n : Nat} (hn : ∀ i,i < l.length → N i → r i + 2 ≤ n) (h1 : 1 ≤ n) : Wanted act fs l N (wantF act fs l n) := by
 obtain ⟨m,rfl⟩ : ∃ m,n = m + 1 := ⟨n - 1,by omega⟩
 refine ⟨fun x i hx hN => ?_,fun x b hx hb => ?_,fun x hx hb => ?_⟩
 ·obtain ⟨hk,_⟩ := mkr_of hx
  have hb := hn i hk hN
  conv => lhs;unfold wantF
  rw [hx]
  simp only
  rw [getD_at hk]
  refine wrule_congr fun y hy => ?_
  refine wantF_enough hcl hr m (m + 1) y (by omega) (by omega) fun j hj => ?_
  obtain ⟨hj',ej⟩ := mkr_of hj
  have hnd : Ru.needs l i j = true := by rw [Ru.needs_eq hk hj',ej];exact decide_eq_true hy
  have := hr i j hN hnd
  exact ⟨hcl i j hN hnd,by omega,by omega⟩
 ·unfold wantF
  rw [hx,hb]
 ·unfold wantF
  rw [hx,hb]
def CSound (act : Act) : Ca → Prop
 | some (_,l) => ∀ e ∈ l,∀ k w xs,Kp.key k w xs = e.1 → act k w xs = (e.2,0)
 | none => True
theorem CSound.find {act : Act} {c : Ca} (h : CSound act c) {k w : List UInt8} {xs : List (List UInt8)} {s : List UInt8} (hf : cfind c (Kp.key k w xs) = some s) : act k w xs = (s,0) := by
 cases c with
 | none => cases hf
 | some c => exact h _ (Cf.find_some hf) k w xs rfl
theorem CSound.put {act : Act} {c : Ca} (h : CSound act c) {k w : List UInt8} {xs : List (List UInt8)} (h0 : (act k w xs).2 = 0) : CSound act (cput c (Kp.key k w xs) (act k w xs).1) := by
 cases c with
 | none => trivial
 | some c =>
  intro e he k' w' xs' hk
  rcases mem_put he with h1 | h1
  ·exact h e h1 k' w' xs' hk
  ·subst h1
   obtain ⟨rfl,rfl,rfl⟩ := Kp.key_inj.1 hk
   exact Prod.ext rfl h0
theorem CSound.get {act : Act} {c : Ca} (h : CSound act c) (k : List UInt8) : CSound act (cget c k) := by
 cases c with
 | none => trivial
 | some c =>
  intro e he
  have he' : e ∈ Cf.get c.1 c.2 k := he
  unfold Cf.get at he'
  split at he'
  ·rename_i b hb
   rcases mem_put he' with h1 | h1
   ·exact h e h1
   ·rw [h1];exact h _ (Cf.find_some hb)
  ·exact h e he'
structure Makes (act : Act) (N : Nat → Prop) (f : List UInt8 → List UInt8 × Nat) (d : Bd) : Prop where
 inN : ∀ k,(d.st k).isNo = false → N k
 done : ∀ k s b,d.st k = .done s b → wrule act f (d.rule k) = (s,0)
 bad : ∀ k,(d.st k).isBad = true → (wrule act f (d.rule k)).2 ≠ 0
theorem Makes.init {act : Act} {N : Nat → Prop} {f : List UInt8 → List UInt8 × Nat} {d : Bd} (hN : ∀ k,(d.st k).isNo = false → N k) (h : ∀ k,(d.st k).isWaits = true ∨ (d.st k).isNo = true) : Makes act N f d := by
 refine ⟨hN,fun k s b e => ?_,fun k hb => ?_⟩
 ·rcases h k with h | h <;> rw [e] at h <;> cases h
 ·cases hs : d.st k <;> rw [hs] at hb <;> have h := h k <;> rw [hs] at h <;> first | (rcases h with h | h <;> cases h;done) | cases hb
theorem wrule_needs {act : Act} {fs : Tf.Fs} {l : List Ru} {N : Nat → Prop} {f : List UInt8 → List UInt8 × Nat} (hw : Wanted act fs l N f) (hA : ∀ k (hk : k < l.length),mkr l l[k].out = some k) {k j : Nat} (hn : Ru.needs l k j = true) (hN : N j) (hb : (wrule act f (l.getD j ⟨[],[],[],[]⟩)).2 ≠ 0) : (wrule act f (l.getD k ⟨[],[],[],[]⟩)).2 ≠ 0 := by
 obtain ⟨hk,hj⟩ := Ru.needs_lt hn
 rw [Ru.needs_eq hk hj] at hn
 have hm := of_decide_eq_true hn
 have e := hw.rule _ j (hA j hj) hN
 rw [← e] at hb
 have := winB_bad (f := f) hm hb
 rw [getD_at hk]
 unfold wrule
 rw [if_neg this]
 exact this
theorem Makes.set {act : Act} {N : Nat → Prop} {f : List UInt8 → List UInt8 × Nat} {d : Bd} (h : Makes act N f d) {i : Nat} (hi : N i) {s : List UInt8} {b : Bool} (hs : wrule act f (d.rule i) = (s,0)) : Makes act N f (d.set i (.done s b)) := by
 refine ⟨fun k hk => ?_,fun k s' b' e => ?_,fun k hb => ?_⟩
 ·have hk' : (setS d.st i (.done s b) k).isNo = false := hk
  by_cases e : k = i
  ·subst e;exact hi
  ·rw [setS_other e] at hk';exact h.inN k hk'
 ·have e' : setS d.st i (.done s b) k = .done s' b' := e
  by_cases hk : k = i
  ·subst hk
   rw [setS_same] at e'
   injection e' with e1 e2
   rw [← e1];exact hs
  ·rw [setS_other hk] at e'
   exact h.done k s' b' e'
 ·have e' : (setS d.st i (.done s b) k).isBad = true := hb
  by_cases hk : k = i
  ·subst hk
   rw [setS_same] at e'
   cases e'
  ·rw [setS_other hk] at e'
   exact h.bad k e'
theorem Makes.fail {act : Act} {fs : Tf.Fs} {N : Nat → Prop} {f : List UInt8 → List UInt8 × Nat} {d : Bd} (hw : Wanted act fs d.l N f) (hA : ∀ k (hk : k < d.l.length),mkr d.l d.l[k].out = some k) (h : Makes act N f d) {i c : Nat} (hi : N i) (hs : (wrule act f (d.rule i)).2 ≠ 0) : Makes act N f (d.fail i c) := by
 have hN0 : ∀ k,(setS d.st i (.failed c) k).isNo = false → N k := fun k hk => by
  by_cases e : k = i
  ·subst e;exact hi
  ·rw [setS_other e] at hk;exact h.inN k hk
 have no_bad : ∀ s : St,s.isBad = true → s.isNo = false := fun s hs => by cases s <;> first | rfl | cases hs
 have no_waits : ∀ s : St,s.isWaits = true → s.isNo = false := fun s hs => by cases s <;> first | rfl | cases hs
 have hbad0 : ∀ k,(setS d.st i (.failed c) k).isBad = true → (wrule act f (d.rule k)).2 ≠ 0 := fun k hb => by
  by_cases hk : k = i
  ·subst hk;exact hs
  ·rw [setS_other hk] at hb
   exact h.bad k hb
 have hch : ∀ k,Chain d.l (setS d.st i (.failed c)) k → (wrule act f (d.rule k)).2 ≠ 0 := fun k hc => by
  induction hc with
  | one hn hb => exact wrule_needs hw hA hn (hN0 _ (no_bad _ hb)) (hbad0 _ hb)
  | more hn hwt _ ih => exact wrule_needs hw hA hn (hN0 _ (no_waits _ hwt)) ih
 refine ⟨fun k hk => ?_,fun k s' b' e => ?_,fun k hb => ?_⟩
 ·have hk' : (spread d.l (setS d.st i (.failed c)) k).isNo = false := hk
  unfold spread at hk'
  split at hk'
  ·rename_i hx;exact hN0 k (no_waits _ hx.1)
  ·exact hN0 k hk'
 ·have e' : spread d.l (setS d.st i (.failed c)) k = .done s' b' := e
  unfold spread at e'
  split at e'
  ·cases e'
  ·by_cases hk : k = i
   ·subst hk
    rw [setS_same] at e'
    cases e'
   ·rw [setS_other hk] at e'
    exact h.done k s' b' e'
 ·have e' : (spread d.l (setS d.st i (.failed c)) k).isBad = true := hb
  unfold spread at e'
  split at e'
  ·rename_i hx;exact hch k hx.2
  ·exact hbad0 k e'
theorem go_makes {act : Act} {N : Nat → Prop} {f : List UInt8 → List UInt8 × Nat} {c : Ca} {d : Bd} (hw : Wanted act d.fs d.l N f) (hA : ∀ k (hk : k < d.l.length),mkr d.l d.l[k].out = some k) (hc : CSound act c) (h : Makes act N f d) {i : Nat} (hi : i < d.l.length) (hr : d.isReady i = true) :
  Makes act N f (go act c d i).d ∧ CSound act (go act c d i).c := by
 have hNi : N i := h.inN i (by rw [ready_waits hr];rfl)
 have hin : ∀ x ∈ (d.rule i).ins,(∀ b,d.bytes x = some b → f x = (b,0)) ∧ (d.bytes x = none → f x = ([],6)) := fun x hx => by
  unfold Bd.bytes
  cases hm : mkr d.l x with
  | none => exact ⟨fun b hb => hw.file x b hm hb,fun hb => hw.lacks x hm hb⟩
  | some j =>
   obtain ⟨hj,ej⟩ := mkr_of hm
   have hn : Ru.needs d.l i j = true := by
    rw [Ru.needs_eq hi hj,ej]
    unfold Bd.rule at hx
    rw [getD_at hi] at hx
    exact decide_eq_true hx
   have hd := ready_free hr hj hn
   refine ⟨fun b hb => ?_,fun hb => by cases hb⟩
   cases hs : d.st j with
   | done s b' =>
    have e1 : (d.st j).out = b := by simpa using hb
    rw [hs] at e1
    have e2 : s = b := e1
    subst e2
    rw [hw.rule x j hm (h.inN j (by rw [hs];rfl))]
    exact h.done j s b' hs
   | no => rw [hs] at hd;cases hd
   | waits => rw [hs] at hd;cases hd
   | failed _ => rw [hs] at hd;cases hd
   | left => rw [hs] at hd;cases hd
 have hI := winB_in (f := f) (g := d.bytes) hin
 unfold go
 split
 ·rename_i hn
  refine ⟨Makes.fail hw hA h hNi ?_,hc⟩
  have h6 := hI.2 hn
  unfold wrule
  rw [if_neg (by omega)]
  show (winB f (d.rule i).ins).2 ≠ 0
  omega
 ·rename_i xs hx
  have e := hI.1 xs hx
  have er : wrule act f (d.rule i) = act (d.rule i).kind (d.rule i).word xs := by
   unfold wrule
   rw [e,if_pos rfl]
  split
  ·rename_i s hs
   exact ⟨h.set hNi (er.trans (hc.find hs)),hc.get _⟩
  ·split
   ·rename_i h0
    exact ⟨h.set hNi (er.trans (Prod.ext rfl h0)),hc.put h0⟩
   ·rename_i h0
    exact ⟨Makes.fail hw hA h hNi (by rw [er];exact h0),hc⟩
theorem go_same (act : Act) (c : Ca) (d : Bd) (i : Nat) : (go act c d i).d.l = d.l ∧ (go act c d i).d.fs = d.fs := by
 unfold go
 split
 ·exact ⟨rfl,rfl⟩
 ·split
  ·exact ⟨rfl,rfl⟩
  ·split <;> exact ⟨rfl,rfl⟩
theorem allF_makes {act : Act} {N : Nat → Prop} {f : List UInt8 → List UInt8 × Nat} : ∀ (n : Nat) {c : Ca} {d : Bd},Wanted act d.fs d.l N f → (∀ k (hk : k < d.l.length),mkr d.l d.l[k].out = some k) → CSound act c → Makes act N f d → Makes act N f (allF act n c d).1 ∧ CSound act (allF act n c d).2 ∧ (allF act n c d).1.l = d.l ∧ (allF act n c d).1.fs = d.fs
 | 0,_,_,_,_,hc,h => ⟨h,hc,rfl,rfl⟩
 | n + 1,c,d,hw,hA,hc,h => by
  unfold allF
  cases hr : d.ready with
  | nil => exact ⟨h,hc,rfl,rfl⟩
  | cons i r =>
   have hm := mem_ready.1 (show i ∈ d.ready by rw [hr];simp)
   obtain ⟨g1,g2⟩ := go_makes hw hA hc h hm.1 hm.2
   obtain ⟨e1,e2⟩ := go_same act c d i
   have hw' : Wanted act (go act c d i).d.fs (go act c d i).d.l N f := by rw [e1,e2];exact hw
   have hA' : ∀ k (hk : k < (go act c d i).d.l.length),mkr (go act c d i).d.l (go act c d i).d.l[k].out = some k := by rw [e1];exact hA
   obtain ⟨a1,a2,a3,a4⟩ := allF_makes n hw' hA' g2 g1
   exact ⟨a1,a2,a3.trans e1,a4.trans e2⟩
theorem all_makes {act : Act} {N : Nat → Prop} {f : List UInt8 → List UInt8 × Nat} {c : Ca} {d : Bd} (hw : Wanted act d.fs d.l N f) (hA : ∀ k (hk : k < d.l.length),mkr d.l d.l[k].out = some k) (hc : CSound act c) (h : Makes act N f d) : Makes act N f (all act c d).1 ∧ CSound act (all act c d).2 ∧ (all act c d).1.l = d.l ∧ (all act c d).1.fs = d.fs :=
 allF_makes _ hw hA hc h
end Bf
end Go.Proofs.YthchjnopgagilaaGreatDoor
namespace Go.Proofs.YthchjnopgagilaaGreatDoor
namespace Bf
def kkey (f : List UInt8 → List UInt8 × Nat) (r : Ru) : List UInt8 := Kp.key r.kind r.word (winB f r.ins).1
end Bf
end Go.Proofs.YthchjnopgagilaaGreatDoor
namespace Go.Proofs.YthchjnopgagilaaGreatDoor
open Go.RowKit Go.Shelf Go.Lib
def rowB (n : Nat) (f : Nat → Bool) : List Value := (List.range n).map (fun j => Value.bool (f j))
def Own (W : World) (B g n : Nat) (f : Nat → Bool) : Prop := W.ownsRow B 4 1 (.slice (some ⟨g,0,none⟩) n n) n (rowB n f)
end Go.Proofs.YthchjnopgagilaaGreatDoor
namespace Go.Proofs.YthchjnopgagilaaGreatDoor
open Go.RowKit Go.Shelf Go.Lib
theorem Tryz.infoInt : (Tryz.prog.info? 3).map (fun i => (i.zero,i.size,i.bytes)) = some (some (.int .i64 0),1,8) := by kernel_rfl
abbrev nv (x : Nat) : Value := .int .i64 (x : Int)
def slen : Value → Nat
 | .slice _ n _ => n
 | _ => 0
def NRow (w : World) (v : Value) (l : List Nat) : Prop :=
 ∃ p cap,v = .slice p l.length cap ∧ l.length ≤ cap ∧ (l ≠ [] → ∃ g cur,p = some ⟨g,0,none⟩ ∧ w.heap[g]? = some (.cells cur 3 (0,0)) ∧ ∀ j (hj : j < l.length),cur[j]? = some (nv l[j]))
theorem NRow.of_owns {w : World} {base : Nat} {v : Value} {l : List Nat} {n : Nat} (h : w.ownsRow base 3 1 v n (l.map nv)) : NRow w v l := by
 have hn : n = l.length := by have := h.1;simp at this;omega
 subst hn
 rcases h.2 with ⟨rfl,hn⟩ | ⟨g,cap,cur,rfl,_,hb,h1,_,_,h4⟩
 ·obtain rfl : l = [] := by simpa using hn
  exact ⟨none,0,rfl,Nat.le_refl _,fun h => absurd rfl h⟩
 ·refine ⟨_,cap,rfl,h1,fun _ => ⟨g,cur,rfl,hb,fun j hj => ?_⟩⟩
  have := congrArg (fun x => x[j]?) h4
  simp only [Nat.mul_one,List.getElem?_take,hj,if_true,List.getElem?_map,List.getElem?_eq_getElem hj,Option.map_some,Array.getElem?_toList] at this
  exact this
theorem owns_slen {w : World} {base : Nat} {e : TypeId} {size : Nat} {v : Value} {n : Nat} {xs : List Value} (h : w.ownsRow base e size v n xs) : slen v = n := by
 rcases h.2 with ⟨rfl,hn⟩ | ⟨g,cap,cur,rfl,_⟩
 ·exact hn.symm
 ·rfl
theorem one_new (W : World) (x : Value) (t : TypeId) (n : Nat) (hn : W.heap.size = n) (j : Nat) (u : Value) (h : [x][j]? = some u) : (W.alloc (.cells #[x] t)).cell? ((⟨n,0,none⟩ : Addr).add j) = some u := by
 subst hn
 exact cell_one_new W x t j u h
end Go.Proofs.YthchjnopgagilaaGreatDoor
namespace Go.Proofs.YthchjnopgagilaaGreatDoor
open Go.RowKit Go.Shelf Go.Lib
theorem owns_far {w : World} {base base' : Nat} {e e' : TypeId} {size size' : Nat} {v : Value} {g m c n n' : Nat} {xs xs' : List Value} (h : w.ownsRow base e size v n xs) (hu : w.ownsRow base' e' size' (.slice (some ⟨g,0,none⟩) m c) n' xs') (he : e ≠ e') : v.ownBlock ≠ some g := by
 rcases h.2 with ⟨rfl,_⟩ | ⟨b,cap,cur,rfl,_,hb,_⟩
 ·simp [Value.ownBlock]
 ·rcases hu.2 with ⟨h',_⟩ | ⟨g',cap',cur',h',_,hb',_⟩
  ·cases h'
  ·cases h'
   simp only [Value.ownBlock,ne_eq,Option.some.injEq]
   rintro rfl
   rw [hb] at hb'
   simp at hb'
   exact he hb'.2
theorem len_le : ∀ {n : Nat} {o : List Nat},o.Nodup → (∀ i ∈ o,i < n) → o.length ≤ n
 | 0,o,_,hb => by
  cases o with
  | nil => simp
  | cons a r => exact absurd (hb a (by simp)) (by omega)
 | n + 1,o,hd,hb => by
  have h1 := len_le (n := n) (hd.erase n) (fun i hi => by
   obtain ⟨hne,hm⟩ := (List.Nodup.mem_erase_iff hd).1 hi
   have := hb i hm
   omega)
  by_cases hm : n ∈ o
  ·rw [List.length_erase_of_mem hm] at h1
   omega
  ·rw [List.erase_of_not_mem hm] at h1
   omega
end Go.Proofs.YthchjnopgagilaaGreatDoor
namespace Go.Proofs.YthchjnopgagilaaGreatDoor
open Go.RowKit Go.Shelf Go.Lib
namespace Ru
inductive Walk (l : List Ru) : Nat → Nat → Nat → Prop
 | zero (i : Nat) : Walk l i i 0
 | step {i j k t : Nat} : needs l i j = true → Walk l j k t → Walk l i k (t + 1)
theorem Walk.inv {l : List Ru} {i k t : Nat} (h : Walk l i k (t + 1)) : ∃ j,needs l i j = true ∧ Walk l j k t := by
 cases h with
 | step hn hw => exact ⟨_,hn,hw⟩
theorem pigeon {n : Nat} {g : Nat → Nat} (h : ∀ t,t ≤ n → g t < n) : ∃ a b,a < b ∧ b ≤ n ∧ g a = g b := by
 refine Classical.byContradiction fun hno => ?_
 have hd : ((List.range (n + 1)).map g).Nodup := by
  rw [List.nodup_iff_pairwise_ne,List.pairwise_map]
  refine List.Pairwise.imp_of_mem ?_ List.pairwise_lt_range
  intro a b _ hb hab e
  exact hno ⟨a,b,hab,by have := List.mem_range.1 hb;omega,e⟩
 have := len_le (n := n) hd (fun i hi => by
  obtain ⟨t,ht,rfl⟩ := List.mem_map.1 hi
  exact h t (by have := List.mem_range.1 ht;omega))
 simp at this
 omega
def Topo (l : List Ru) (o : List Nat) : Prop := ∀ j (hj : j < o.length) k,needs l o[j] k = true → k ∈ o.take j
theorem orderF_some {l : List Ru} {some : Nat → Bool} : ∀ {f : Nat} {o r : List Nat},orderF l some f o = Option.some r → Topo l o → Topo l r ∧ ∀ i,i < l.length → some i = true → i ∈ r
 | 0,_,_,h,_ => by cases h
 | f + 1,o,r,h,ht => by
  unfold orderF at h
  split at h
  ·split at h
   ·cases h
   ·rename_i i hi
    refine orderF_some h ?_
    have hm := (nextTo_some hi).2
    simp only [may,Bool.and_eq_true,freeTo,List.all_eq_true,Bool.or_eq_true,Bool.not_eq_true'] at hm
    intro j hj k hn
    rw [List.length_append,List.length_singleton] at hj
    by_cases e : j < o.length
    ·rw [List.getElem_append_left e] at hn
     rw [List.take_append_of_le_length (by omega)]
     exact ht j e k hn
    ·obtain rfl : j = o.length := by omega
     rw [List.getElem_append_right (Nat.le_refl _)] at hn
     simp only [Nat.sub_self,List.getElem_cons_zero] at hn
     rw [List.take_append_of_le_length (Nat.le_refl _),List.take_length]
     rcases hm.2 k (List.mem_range.2 (needs_lt hn).2) with h1 | h1
     ·simpa [isIn] using h1
     ·rw [hn] at h1
      cases h1
  ·rename_i hl
   cases h
   refine ⟨ht,fun i hi hs => ?_⟩
   simp only [leftTo,List.any_eq_true,Bool.and_eq_true,Bool.not_eq_true'] at hl
   refine Classical.byContradiction fun hno => hl ⟨i,List.mem_range.2 hi,hs,?_⟩
   simpa [isIn] using hno
theorem order_some {l : List Ru} {some : Nat → Bool} {o : List Nat} (h : order l some = Option.some o) : Topo l o ∧ ∀ i,i < l.length → some i = true → i ∈ o :=
 orderF_some h fun j hj => by simp at hj
theorem orderF_nodup {l : List Ru} {some : Nat → Bool} : ∀ {f : Nat} {o r : List Nat},orderF l some f o = Option.some r → o.Nodup → (∀ i ∈ o,i < l.length) → r.Nodup ∧ ∀ i ∈ r,i < l.length
 | 0,_,_,h,_,_ => by cases h
 | f + 1,o,r,h,hd,hb => by
  unfold orderF at h
  split at h
  ·split at h
   ·cases h
   ·rename_i i hi
    obtain ⟨hil,hm⟩ := nextTo_some hi
    have hio : i ∉ o := by
     simp only [may,Bool.and_eq_true,Bool.not_eq_true',isIn,decide_eq_false_iff_not] at hm
     exact hm.1.2
    refine orderF_nodup h ?_ ?_
    ·rw [List.nodup_append]
     exact ⟨hd,by simp,fun a ha b hb => by
      rw [List.mem_singleton.1 hb]
      rintro rfl
      exact hio ha⟩
    ·intro j hj
     rcases List.mem_append.1 hj with h1 | h1
     ·exact hb j h1
     ·rw [List.mem_singleton.1 h1];exact hil
  ·cases h
   exact ⟨hd,hb⟩
theorem order_nodup {l : List Ru} {some : Nat → Bool} {o : List Nat} (h : order l some = Option.some o) : o.Nodup ∧ ∀ i ∈ o,i < l.length :=
 orderF_nodup h List.nodup_nil (by simp)
theorem nodup_sub {α : Type} [DecidableEq α] {a : List α} : ∀ {b : List α},a.Nodup → a ⊆ b → a.length ≤ b.length := by
 induction a with
 | nil => intro b _ _;simp
 | cons x r ih =>
  intro b hd hs
  obtain ⟨hx,hr⟩ := List.nodup_cons.1 hd
  have hxb : x ∈ b := hs (by simp)
  have := ih (b := b.erase x) hr fun y hy => by
   have hne : y ≠ x := fun e => hx (e ▸ hy)
   exact (List.mem_erase_of_ne hne).2 (hs (List.mem_cons_of_mem _ hy))
  rw [List.length_erase_of_mem hxb] at this
  have hp := List.length_pos_of_mem hxb
  simp
  omega
theorem order_len {l : List Ru} {o : List Nat} (h : order l (fun _ => true) = Option.some o) : o.length = l.length := by
 obtain ⟨h1,h2⟩ := order_nodup h
 refine Nat.le_antisymm (len_le h1 h2) ?_
 have := nodup_sub (a := List.range l.length) (b := o) List.nodup_range fun i hi => (order_some h).2 i (List.mem_range.1 hi) rfl
 simpa using this
theorem Topo.none {l : List Ru} {o : List Nat} (h : Topo l o) (i t : Nat) (hi : i ∈ o) : ¬ Walk l i i (t + 1) := by
 have key : ∀ t i j (hj : j < o.length),o[j] = i → ∀ k,Walk l i k (t + 1) → k ∈ o.take j := by
  intro t
  induction t with
  | zero =>
   rintro i j hj rfl k hw
   obtain ⟨m,hn,hw'⟩ := hw.inv
   cases hw'
   exact h j hj _ hn
  | succ t ih =>
   rintro i j hj rfl k hw
   obtain ⟨m,hn,hw'⟩ := hw.inv
   have hm := h j hj m hn
   obtain ⟨q,hq,e⟩ := List.getElem_of_mem hm
   rw [List.getElem_take] at e
   have hqj : q < j := by simp at hq;omega
   exact (List.take_sublist_take_left (Nat.le_of_lt hqj)).subset (ih m q (by omega) e k hw')
 -- the first place of i
 intro hw
 have : ∀ m j (hj : j < o.length),j ≤ m → o[j] = i → False := by
  intro m
  induction m with
  | zero =>
   intro j hj hm e
   obtain rfl : j = 0 := by omega
   have := key t i 0 hj e i hw
   simp at this
  | succ m ih =>
   intro j hj hm e
   have h1 := key t i j hj e i hw
   obtain ⟨q,hq,e'⟩ := List.getElem_of_mem h1
   rw [List.getElem_take] at e'
   exact ih q (by simp at hq;omega) (by simp at hq;omega) e'
 obtain ⟨j,hj,e⟩ := List.getElem_of_mem hi
 exact this j j hj (Nat.le_refl _) e
end Ru
end Go.Proofs.YthchjnopgagilaaGreatDoor
namespace Go.Proofs.YthchjnopgagilaaGreatDoor
namespace Bf
def inO (o : List Nat) : Nat → Prop := fun i => i ∈ o
theorem rank_of {l : List Ru} {o : List Nat} (h : Ru.Topo l o) {i k : Nat} (hi : i ∈ o) (hn : Ru.needs l i k = true) : k ∈ o ∧ o.idxOf k < o.idxOf i := by
 have hj : o.idxOf i < o.length := List.idxOf_lt_length_of_mem hi
 have hg : o[o.idxOf i] = i := List.getElem_idxOf hj
 have hk := h (o.idxOf i) hj k (by rw [hg];exact hn)
 refine ⟨List.mem_of_mem_take hk,?_⟩
 obtain ⟨q,hq,e⟩ := List.getElem_of_mem hk
 rw [List.length_take] at hq
 rw [List.getElem_take] at e
 have : o.idxOf k ≤ q := by
  refine Nat.le_of_not_lt fun hlt => ?_
  have := List.not_of_lt_findIdx (p := fun y => y == k) (xs := o) hlt
  rw [e] at this
  simp at this
 omega
end Bf
end Go.Proofs.YthchjnopgagilaaGreatDoor
namespace Go.Proofs.YthchjnopgagilaaGreatDoor
open Go.RowKit Go.Shelf Go.Lib
theorem Run_good (nm word : ByteArray) (p : Option Addr) (len cap : Nat) (a b : Int) (tv : Value) (gr : Nat) (cr : Array Value) (out : ByteArray) (el : Value) (w : World)
  (hel : w.cell? ⟨3,0,none⟩ = some el) (h6 : 20 < w.heap.size) (htv : ∃ g c,tv = tfn g c)
  (eg : ∀ args w,(callFunc gr args).run Tryz.prog w = .ok (.enter gr args) w)
  (hfind : Hid (Calls Tryz.prog 116 #[.string nm,.string word,.int .i64 len] w fun e w' => e = .returned (.tuple #[kd a b tv (tfn gr cr),.nilIface]) ∧ Below w.heap.size w w' ∧ Objs w' (w.heap.size + 1)))
  (HR : Hid (∀ W,Below w.heap.size w W → Objs W (w.heap.size + 1) → Calls Tryz.prog gr (#[.string word,.slice p len cap] ++ cr) W fun e w' => e = .returned (.string out) ∧ Below W.heap.size W w')) :
  Calls Tryz.prog 35 #[.string nm,.string word,.slice p len cap] w fun e w' => e = .returned (if 2000 < out.size then .tuple #[.string ⟨#[]⟩,el] else .tuple #[.string out,.nilIface]) ∧ Below w.heap.size w w' := by
 obtain ⟨g,c,rfl⟩ := htv
 generalize hr : (if 2000 < out.size then Value.tuple #[.string ⟨#[]⟩,el] else .tuple #[.string out,.nilIface]) = r
 have HQ : Hid ((if 2000 < out.size then Value.tuple #[.string ⟨#[]⟩,el] else .tuple #[.string out,.nilIface]) = r) := hr
 clear hr
 have hnf : ∀ (a : Addr) (m : Mode) (W : World),Sem.run Tryz.prog (store a .nilFunc m) W = stored Tryz.prog W a .nilFunc m := fun a m W => run_store _ W a _ m rfl
 have hnt : ∀ (a : Addr) (m : Mode) (W : World),Sem.run Tryz.prog (store a (tfn g c) m) W = stored Tryz.prog W a (tfn g c) m := fun a m W => run_store _ W a _ m rfl
 have hnr : ∀ (a : Addr) (m : Mode) (W : World),Sem.run Tryz.prog (store a (tfn gr cr) m) W = stored Tryz.prog W a (tfn gr cr) m := fun a m W => run_store _ W a _ m rfl
 go_enter Tryz.func35,Tryz.ntmps35
 go_wp2_with fail
 refine hfind.out.mono ?_
 rintro e w2 ⟨rfl,hb2,hO2⟩
 have gC : Below w2.heap.size w2 (w2.alloc (.cells #[.int .i64 a,.int .i64 b,tfn g c,tfn gr cr] 184)) := (Below.refl _ w2).alloc (Nat.le_refl _) _
 have HC := HR.out _ (below_then hb2 gC) (hO2.stays gC)
 go_wp2_with fail
 refine HC.mono ?_
 rintro e w3 ⟨rfl,hb3⟩
 have g3 := below_then (below_then hb2 gC) hb3
 have ke : w3.cell? ⟨3,0,none⟩ = some el := (cell_below2 g3 (by omega)).trans hel
 clear HC gC hb2 hO2 hb3
 by_cases hl : 2000 < out.size
 ·have d3 : decide ((2000 : Int) < (out.size : Int)) = true := by simp;omega
  go_wp2
  go_region
  all_goals go_wp2
  go_ret2
  exact ⟨ret_eq (by rw [← HQ.out,if_pos hl];rfl),below_draws g3 1⟩
 ·have d3 : decide ((2000 : Int) < (out.size : Int)) = false := by simp;omega
  go_wp2
  go_ret2
  exact ⟨ret_eq (by rw [← HQ.out,if_neg hl];rfl),g3⟩
theorem Run_bad (nm word : ByteArray) (p : Option Addr) (len cap : Nat) (t : TypeId) (u : Value) (w : World)
  (hfind : Hid (Calls Tryz.prog 116 #[.string nm,.string word,.int .i64 len] w fun e w' => e = .returned (.tuple #[zkd,.iface t u]) ∧ Below w.heap.size w w')) :
  Calls Tryz.prog 35 #[.string nm,.string word,.slice p len cap] w fun e w' => e = .returned (.tuple #[.string ⟨#[]⟩,.iface t u]) ∧ Below w.heap.size w w' := by
 have hnf : ∀ (a : Addr) (m : Mode) (W : World),Sem.run Tryz.prog (store a .nilFunc m) W = stored Tryz.prog W a .nilFunc m := fun a m W => run_store _ W a _ m rfl
 go_enter Tryz.func35,Tryz.ntmps35
 go_wp2_with fail
 refine hfind.out.mono ?_
 rintro e w2 ⟨rfl,hb2⟩
 have g3 := hb2.alloc hb2.size (.cells #[.int .i64 0,.int .i64 0,.nilFunc,.nilFunc] 184)
 go_wp2
 go_ret2
 exact ⟨rfl,g3⟩
end Go.Proofs.YthchjnopgagilaaGreatDoor
namespace Go.Proofs.YthchjnopgagilaaGreatDoor
open Go.RowKit Go.Shelf Go.Lib
open Go.Sort (grow Holds putRow)
open Af (Kd)
def Af.actO (nm wd : List UInt8) (ls : List (List UInt8)) : List UInt8 × Nat :=
 if Af.actE nm wd ls.length = 0 then
  (match Af.kindOf nm with
   | some k => if 2000 < (k.out wd ls).length then ([],10) else (k.out wd ls,0)
   | none => ([],5))
 else ([],Af.actE nm wd ls.length)
theorem Run_any {w : World} {er : Nat → Value} (h : AE w er) (nm wd : List UInt8) (hl : wd.length ≤ 1000000) (v : Value) (ls : List (List UInt8)) (hrow : TRow w v ls) (hx : ∀ x ∈ ls,x.length ≤ 3000) :
  Calls Tryz.prog 35 #[.string (ba nm),.string (ba wd),v] w fun e w' => e = .returned (.tuple #[.string (ba (Af.actO nm wd ls).1),er (Af.actO nm wd ls).2]) ∧ Below w.heap.size w w' := by
 obtain ⟨pa,cap,rfl,hcap,hin⟩ := hrow
 have hrow : TRow w (.slice pa ls.length cap) ls := ⟨pa,cap,rfl,hcap,hin⟩
 rcases find_any h nm wd ls.length hl with ⟨e0,k,hk,h1,h2,h3,h4,hf⟩ | ⟨e0,hf⟩
 ·have eO : Af.actO nm wd ls = if 2000 < (k.out wd ls).length then ([],10) else (k.out wd ls,0) := by
   unfold Af.actO
   rw [if_pos e0,hk]
  have := Run_good (ba nm) (ba wd) pa ls.length cap k.least k.most _ (Af.rf k) (Af.rc (w.heap.size + 1) k) (ba (k.out wd ls)) (er 10) w h.aw.long h.aw.big ⟨_,_,rfl⟩ (rf_enters k) (hid1 hf)
   (hid1 fun W hW hO => run_calls h.aw wd h4 pa cap ls hrow hx k (by omega) (by omega) h3 W hW hO)
  refine this.mono ?_
  rintro e w' ⟨rfl,g⟩
  refine ⟨?_,g⟩
  rw [eO,ba_size]
  split
  ·rfl
  ·rw [h.zero]
 ·have eO : Af.actO nm wd ls = ([],Af.actE nm wd ls.length) := by
   unfold Af.actO
   rw [if_neg e0]
  rw [eO]
  obtain ⟨c,hc⟩ : ∃ c,Af.actE nm wd ls.length = c + 1 := ⟨Af.actE nm wd ls.length - 1,by omega⟩
  obtain ⟨t,u,hu⟩ := h.iface c
  simp only [hc,hu] at hf ⊢
  exact Run_bad (ba nm) (ba wd) pa ls.length cap t u w (hid1 hf)
end Go.Proofs.YthchjnopgagilaaGreatDoor
namespace Go.Proofs.YthchjnopgagilaaGreatDoor
theorem hasW_get (fs : Tf.Fs) (p : List UInt8) : Tf.hasP fs p = (Tf.get fs p).isSome := by
 unfold Tf.hasP Tf.get
 rw [Option.isSome_map,Bool.eq_iff_iff,List.find?_isSome,List.any_eq_true]
theorem row_newW (W : World) (o : Obj) : (W.alloc o).heap[W.heap.size]? = some o := by
 show (W.heap.push _)[W.heap.size]? = _
 simp
namespace Bf
def want (act : Act) (fs : Tf.Fs) (l : List Ru) : List UInt8 → List UInt8 × Nat := wantF act fs l (l.length + 2)
theorem order_len {l : List Ru} {o : List Nat} (hnd : o.Nodup) (hlt : ∀ i ∈ o,i < l.length) : o.length ≤ l.length := by
 have := Cf.nodup_len (b := List.range l.length) hnd fun i hi => List.mem_range.2 (hlt i hi)
 simpa using this
theorem want_is {act : Act} {fs : Tf.Fs} {l : List Ru} {o : List Nat} (h : Ru.Topo l o) (hnd : o.Nodup) (hlt : ∀ i ∈ o,i < l.length) : Wanted act fs l (inO o) (want act fs l) :=
 wanted_is (fun _ _ hi hn => (rank_of h hi hn).1) (r := fun i => o.idxOf i) (fun _ _ hi hn => (rank_of h hi hn).2) (fun i _ hi => by have : o.idxOf i < o.length := List.idxOf_lt_length_of_mem hi;have := order_len hnd hlt;omega) (by omega)
theorem winB_snoc (f : List UInt8 → List UInt8 × Nat) : ∀ (a : List (List UInt8)) (x : List UInt8) {o : List (List UInt8)},winB f a = (o,0) → (f x).2 = 0 → winB f (a ++ [x]) = (o ++ [(f x).1],0)
 | [],x,o,h,hx => by
  cases h
  show winB f [x] = _
  unfold winB
  rw [if_pos hx]
  rfl
 | y :: r,x,o,h,hx => by
  unfold winB at h
  rw [List.cons_append]
  unfold winB
  by_cases hy : (f y).2 = 0
  ·rw [if_pos hy] at h ⊢
   have h2 : (winB f r).2 = 0 := congrArg Prod.snd h
   have h1 : (f y).1 :: (winB f r).1 = o := congrArg Prod.fst h
   rw [winB_snoc f r x (o := (winB f r).1) (Prod.ext rfl h2) hx,← h1]
   rfl
  ·rw [if_neg hy] at h
   exact absurd (congrArg Prod.snd h) hy
theorem winB_stop (f : List UInt8 → List UInt8 × Nat) : ∀ (a : List (List UInt8)) (x : List UInt8) (r : List (List UInt8)) {o : List (List UInt8)},winB f a = (o,0) → (f x).2 ≠ 0 → (winB f (a ++ x :: r)).2 = (f x).2
 | [],x,r,o,h,hx => by
  show (winB f (x :: r)).2 = _
  unfold winB
  rw [if_neg hx]
 | y :: a,x,r,o,h,hx => by
  unfold winB at h
  rw [List.cons_append]
  unfold winB
  by_cases hy : (f y).2 = 0
  ·rw [if_pos hy] at h ⊢
   have h2 : (winB f a).2 = 0 := congrArg Prod.snd h
   exact winB_stop f a x r (o := (winB f a).1) (Prod.ext rfl h2) hx
  ·rw [if_neg hy] at h
   exact absurd (congrArg Prod.snd h) hy
theorem winB_len (f : List UInt8 → List UInt8 × Nat) : ∀ {a o : List (List UInt8)},winB f a = (o,0) → o.length = a.length
 | [],o,h => by cases h;rfl
 | y :: a,o,h => by
  unfold winB at h
  by_cases hy : (f y).2 = 0
  ·rw [if_pos hy] at h
   have h2 : (winB f a).2 = 0 := congrArg Prod.snd h
   have h1 : (f y).1 :: (winB f a).1 = o := congrArg Prod.fst h
   rw [← h1,List.length_cons,List.length_cons,winB_len f (a := a) (o := (winB f a).1) (Prod.ext rfl h2)]
  ·rw [if_neg hy] at h
   exact absurd (congrArg Prod.snd h) hy
theorem winB_all (f : List UInt8 → List UInt8 × Nat) (P : List UInt8 → Prop) (hP : ∀ x,P (f x).1) : ∀ {a o : List (List UInt8)},winB f a = (o,0) → ∀ y ∈ o,P y
 | [],o,h => by cases h;simp
 | y :: a,o,h => by
  unfold winB at h
  by_cases hy : (f y).2 = 0
  ·rw [if_pos hy] at h
   have h2 : (winB f a).2 = 0 := congrArg Prod.snd h
   have h1 : (f y).1 :: (winB f a).1 = o := congrArg Prod.fst h
   rw [← h1]
   intro z hz
   rcases List.mem_cons.1 hz with rfl | hz
   ·exact hP _
   ·exact winB_all f P hP (a := a) (o := (winB f a).1) (Prod.ext rfl h2) z hz
  ·rw [if_neg hy] at h
   exact absurd (congrArg Prod.snd h) hy
theorem actO_len (k w : List UInt8) (xs : List (List UInt8)) : (Af.actO k w xs).1.length ≤ 2000 := by
 unfold Af.actO
 split
 ·split
  ·split
   ·simp
   ·rename_i h;simp only;omega
  ·simp
 ·simp
theorem wrule_len (f : List UInt8 → List UInt8 × Nat) (r : Ru) : (wrule Af.actO f r).1.length ≤ 2000 := by
 unfold wrule
 split
 ·exact actO_len _ _ _
 ·simp
theorem want_len {fs : Tf.Fs} {l : List Ru} (hf : ∀ x b,Tf.get fs x = some b → b.length ≤ 2000) (x : List UInt8) : ∀ n,(wantF Af.actO fs l n x).1.length ≤ 2000
 | 0 => by simp [wantF]
 | n + 1 => by
  unfold wantF
  split
  ·exact wrule_len _ _
  ·split
   ·rename_i b hb;exact hf x b hb
   ·simp
end Bf
end Go.Proofs.YthchjnopgagilaaGreatDoor
namespace Go.Proofs.YthchjnopgagilaaGreatDoor
open Go.RowKit Go.Shelf Go.Lib
structure Only (S : Nat → Prop) (w w' : World) : Prop where
 os : w'.os = w.os
 tape : w'.tape = w.tape
 output : w'.output = w.output
 size : w.heap.size ≤ w'.heap.size
 block : ∀ j,j < w.heap.size → ¬ S j → w'.heap[j]? = w.heap[j]?
theorem Only.of {S : Nat → Prop} {w w' : World} (h : Below w.heap.size w w') : Only S w w' := ⟨h.os,h.tape,h.output,h.size,fun j hj _ => h.block j hj⟩
theorem Only.below {S : Nat → Prop} {w w' : World} (h : Only S w w') {B : Nat} (hS : ∀ j,S j → B ≤ j) (hB : B ≤ w.heap.size) : Below B w w' :=
 ⟨h.os,h.tape,h.output,h.size,fun j hj => h.block j (by omega) fun hs => by have := hS j hs;omega⟩
theorem Only.trans {S S' : Nat → Prop} {a b c : World} (h : Only S a b) (h' : Only S' b c) (hS : ∀ j,S' j → S j ∨ a.heap.size ≤ j) : Only S a c :=
 ⟨h'.os.trans h.os,h'.tape.trans h.tape,h'.output.trans h.output,Nat.le_trans h.size h'.size,fun j hj hs => (h'.block j (Nat.lt_of_lt_of_le hj h.size) fun h1 => by
  rcases hS j h1 with h2 | h2
  ·exact hs h2
  ·omega).trans (h.block j hj hs)⟩
theorem Only.cell {S : Nat → Prop} {w w' : World} (h : Only S w w') {a : Addr} {u : Value} (hc : w.cell? a = some u) (hs : ¬ S a.block) : w'.cell? a = some u :=
 (World.cell?_of_block (h.block a.block (lt_of_cell hc) hs)).trans hc
end Go.Proofs.YthchjnopgagilaaGreatDoor
namespace Go.Proofs.YthchjnopgagilaaGreatDoor
open Go.RowKit Go.Shelf Go.Lib
structure Caches0 (es : Nat → Addr) (At : (Nat → Prop) → World → Value → Nat → Cf.Ens → Prop) : Prop where
 same : ∀ (S : Nat → Prop) (W W' : World) v m l,At S W v m l → W.heap.size ≤ W'.heap.size → (∀ k,S k → W'.heap[k]? = W.heap[k]?) → At S W' v m l
 lt : ∀ (S : Nat → Prop) (W : World) v m l,At S W v m l → ∀ k,S k → k < W.heap.size
 make : ∀ (W : World) (m : Nat),1 ≤ m → m ≤ 100 → Calls Tryz.prog 59 #[.int .i64 m] W fun e w' => ∃ p S,e = .returned (.tuple #[.pointer (some p),.nilIface]) ∧ Below W.heap.size W w' ∧ At S w' (.pointer (some p)) m [] ∧ ∀ k,S k → W.heap.size ≤ k
 no : ∀ (W : World) (m : Int),-9223372036854775808 ≤ m → m ≤ 9223372036854775807 → (m < 1 ∨ 100 < m) → W.cell? ⟨4,0,none⟩ = some (erOf es 2) → Calls Tryz.prog 59 #[.int .i64 m] W fun e w' => e = .returned (.tuple #[.pointer none,erOf es 2]) ∧ Below W.heap.size W w'
 put : ∀ (S : Nat → Prop) (W : World) p m l (k b : List UInt8),At S W (.pointer (some p)) m l → 1 ≤ m → m ≤ 100 → Cf.Ok m l → k.length ≤ 100000 → b.length ≤ 100000 → Calls Tryz.prog 203 #[.pointer (some p),.string (ba k),.string (ba b)] W fun e w' => e = .returned (.tuple #[]) ∧ Only S W w' ∧ ∃ S',At S' w' (.pointer (some p)) m (Cf.put m l k b) ∧ ∀ j,S' j → S j ∨ W.heap.size ≤ j
 get : ∀ (S : Nat → Prop) (W : World) p m l (k : List UInt8),At S W (.pointer (some p)) m l → 1 ≤ m → m ≤ 100 → Cf.Ok m l → k.length ≤ 100000 → Calls Tryz.prog 202 #[.pointer (some p),.string (ba k)] W fun e w' => e = .returned (.tuple #[.string (ba ((Cf.find l k).getD [])),.bool (Cf.find l k).isSome]) ∧ Only S W w' ∧ ∃ S',At S' w' (.pointer (some p)) m (Cf.get m l k) ∧ ∀ j,S' j → S j ∨ W.heap.size ≤ j
def KeyTells (W0 : World) : Prop := ∀ (W : World),Below W0.heap.size W0 W → ∀ (kind word : List UInt8) v ins,XRow W v ins → kind.length ≤ 200 → word.length ≤ 200 → ins.length ≤ 12 → (∀ x ∈ ins,x.length ≤ 3000) → Calls Tryz.prog 201 #[.string (ba kind),.string (ba word),v] W fun e w' => e = .returned (.string (ba (Kp.key kind word ins))) ∧ Below W.heap.size W w'
end Go.Proofs.YthchjnopgagilaaGreatDoor
