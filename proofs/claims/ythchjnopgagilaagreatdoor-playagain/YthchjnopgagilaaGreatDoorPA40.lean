import Derived.Test.YthchjnopgagilaaGreatDoorPA39
set_option maxRecDepth 100000
set_option maxHeartbeats 8000000
namespace Go.Proofs.YthchjnopgagilaaGreatDoor
namespace Tf
theorem get_ins_same (p b : List UInt8) : ∀ fs : Fs,(∀ f ∈ fs,f.1 ≠ p) → get (ins (p,b) fs) p = some b
 | [],_ => by simp [ins,get]
 | y :: r,h => by
  have ih := get_ins_same p b r fun f hf => h f (List.mem_cons_of_mem _ hf)
  unfold ins
  split
  ·simp [get]
  ·unfold get at ih ⊢
   rw [List.find?_cons_of_neg (by simpa using h y (by simp))]
   exact ih
theorem del_ne (fs : Fs) (p : List UInt8) : ∀ f ∈ del fs p,f.1 ≠ p := fun f hf => by
 unfold del at hf
 have := (List.mem_filter.1 hf).2
 simpa using this
theorem get_put_same (fs : Fs) (p b : List UInt8) : get (put fs p b) p = some b := get_ins_same p b _ (del_ne fs p)
theorem get_del_same (fs : Fs) (p : List UInt8) : get (del fs p) p = none := by
 unfold get
 rw [List.find?_eq_none.2 fun f hf => by simpa using del_ne fs p f hf]
 rfl
end Tf
namespace Bf
def outS (l : List Ru) (d : Bd) (t : Tf.Fs) (i : Nat) : Tf.Fs :=
 match d.st i with
 | .done s _ => Tf.putF pathB t (l.getD i ⟨[],[],[],[]⟩).out s
 | .failed _ => Tf.del t (l.getD i ⟨[],[],[],[]⟩).out
 | .left => Tf.del t (l.getD i ⟨[],[],[],[]⟩).out
 | _ => t
def outW (l : List Ru) (d : Bd) (o : List Nat) (t : Tf.Fs) : Tf.Fs := o.foldl (outS l d) t
theorem outS_well {l : List Ru} {d : Bd} {t : Tf.Fs} (h : Tf.Well pathB t) (i : Nat) : Tf.Well pathB (outS l d t i) := by
 unfold outS
 split
 ·exact h.putF _ _
 ·exact h.del _
 ·exact h.del _
 ·exact h
theorem outW_well {l : List Ru} {d : Bd} : ∀ (o : List Nat) {t : Tf.Fs},Tf.Well pathB t → Tf.Well pathB (outW l d o t)
 | [],_,h => h
 | i :: r,_,h => outW_well (l := l) (d := d) r (outS_well h i)
def Outs (l : List Ru) (t : Tf.Fs) : Prop := ∀ f ∈ t,∃ i,∃ hi : i < l.length,f.1 = l[i].out
theorem outS_outs {l : List Ru} {d : Bd} {t : Tf.Fs} (h : Outs l t) {i : Nat} (hi : i < l.length) : Outs l (outS l d t i) := by
 unfold outS
 rw [getD_at hi]
 have hdel : Outs l (Tf.del t l[i].out) := fun f hf => h f ((List.mem_filter.1 hf).1)
 split
 ·intro f hf
  rcases Tf.putF_mem hf with h1 | h1
  ·exact h f h1
  ·exact ⟨i,hi,by rw [h1]⟩
 ·exact hdel
 ·exact hdel
 ·exact h
theorem outW_outs {l : List Ru} {d : Bd} : ∀ (o : List Nat),(∀ i ∈ o,i < l.length) → ∀ {t : Tf.Fs},Outs l t → Outs l (outW l d o t)
 | [],_,_,h => h
 | i :: r,ho,_,h => outW_outs (l := l) (d := d) r (fun k hk => ho k (List.mem_cons_of_mem _ hk)) (outS_outs h (ho i (by simp)))
def Flat (l : List Ru) : Prop := ∀ i k (hi : i < l.length) (hk : k < l.length),Tf.above l[i].out l[k].out = false
theorem out_takes {l : List Ru} (hf : (Ru.fault l).1 = 0) (hl : Flat l) {t : Tf.Fs} (hw : Tf.Well pathB t) (ho : Outs l t) {i : Nat} (hi : i < l.length) {s : List UInt8} (hs : s.length ≤ 2000) : Tf.putCode pathB t l[i].out s = 0 := by
 obtain ⟨h40,-⟩ := Ru.fault_ok hf
 have hp : pathB l[i].out = true := by
  have he : Ru.errAt l i = 0 := by
   unfold Ru.fault at hf
   rw [if_neg (by omega)] at hf
   cases hfi : Ru.first (Ru.errAt l) l.length with
   | none => exact Ru.first_none_zero hfi i hi
   | some k =>
    rw [hfi] at hf
    exact absurd hf (Ru.first_some_ne hfi)
  rw [Ru.errAt_eq hi] at he
  have her : l[i].err = 0 := by
   by_cases hz : l[i].err = 0
   ·exact hz
   ·rw [if_pos hz] at he;exact absurd he hz
  unfold Ru.err at her
  cases hpb : pathB l[i].out with
  | true => rfl
  | false => rw [if_pos hpb] at her;cases her
 unfold Tf.putCode
 rw [if_neg (by rw [hp];simp),if_neg (by omega)]
 by_cases hh : Tf.hasP t l[i].out = true
 ·rw [if_pos hh]
 ·rw [if_neg hh]
  have hc : Tf.clash t l[i].out = false := by
   unfold Tf.clash
   rw [List.any_eq_false]
   intro f hfm
   obtain ⟨k,hk,e⟩ := ho f hfm
   rw [e,hl k i hk hi,hl i k hi hk]
   simp
  rw [hc,if_neg (by simp)]
  have hlen : t.length ≤ l.length := by
   have hnd : (t.map (·.1)).Nodup := by
    have : t.Pairwise (fun a b => a.1 ≠ b.1) := hw.rises.imp fun h e => by
     rw [e,WideAt.bytes_irrefl] at h;cases h
    rw [List.nodup_iff_pairwise_ne,List.pairwise_map]
    exact this
   have := Cf.nodup_len (b := l.map Ru.out) hnd fun x hx => by
    obtain ⟨f,hf,e⟩ := List.mem_map.1 hx
    obtain ⟨k,hk,e2⟩ := ho f hf
    rw [← e,e2]
    exact List.mem_map.2 ⟨_,List.getElem_mem hk,rfl⟩
   simpa using this
  rw [if_neg (by omega)]
def outG (d : Bd) (i : Nat) : Option (List UInt8) := match d.st i with | .done s _ => some s | _ => none
theorem outS_get {l : List Ru} (hf : (Ru.fault l).1 = 0) (hl : Flat l) {d : Bd} (hd : Fit d) (hst : ∀ k,k < l.length → (d.st k).isDone = true ∨ (d.st k).isFailed = true ∨ (d.st k).isLeft = true) {t : Tf.Fs} (hw : Tf.Well pathB t) (ho : Outs l t) {i : Nat} (hi : i < l.length) (x : List UInt8) :
  Tf.get (outS l d t i) x = if x = l[i].out then outG d i else Tf.get t x := by
 have hs := hst i hi
 have hdel : Tf.get (Tf.del t l[i].out) x = if x = l[i].out then none else Tf.get t x := by
  by_cases e : x = l[i].out
  ·subst e;rw [if_pos rfl,Tf.get_del_same]
  ·rw [if_neg e,Tf.get_del fun h => e h.symm]
 unfold outS outG
 rw [getD_at hi]
 cases hsi : d.st i with
 | no => rw [hsi] at hs;simp [St.isDone,St.isFailed,St.isLeft] at hs
 | waits => rw [hsi] at hs;simp [St.isDone,St.isFailed,St.isLeft] at hs
 | failed c => exact hdel
 | left => exact hdel
 | done s b =>
  simp only
  have hlen : s.length ≤ 2000 := by
   have := hd.outs i
   rwa [hsi] at this
  by_cases e : x = l[i].out
  ·subst e
   rw [if_pos rfl]
   unfold Tf.putF
   rw [if_pos (out_takes hf hl hw ho hi hlen),Tf.get_put_same]
  ·rw [if_neg e,Tf.get_putF fun h => e h.symm]
theorem outW_get {l : List Ru} (hf : (Ru.fault l).1 = 0) (hl : Flat l) {d : Bd} (hd : Fit d) (hst : ∀ k,k < l.length → (d.st k).isDone = true ∨ (d.st k).isFailed = true ∨ (d.st k).isLeft = true) : ∀ (o : List Nat),(∀ i ∈ o,i < l.length) → ∀ {t : Tf.Fs},Tf.Well pathB t → Outs l t → ∀ x,(∀ i (hi : i < l.length),i ∈ o → l[i].out = x → Tf.get (outW l d o t) x = outG d i) ∧ ((∀ i (hi : i < l.length),i ∈ o → l[i].out ≠ x) → Tf.get (outW l d o t) x = Tf.get t x)
 | [],_,t,_,_,x => ⟨fun i _ h => by simp at h,fun _ => rfl⟩
 | j :: r,ho,t,hw,hout,x => by
  have hj := ho j (by simp)
  have hr := fun i hi => ho i (List.mem_cons_of_mem j hi)
  obtain ⟨h1,h2⟩ := outW_get hf hl hd hst r hr (outS_well (l := l) (d := d) hw j) (outS_outs (d := d) hout hj) x
  obtain ⟨-,hA⟩ := Ru.fault_ok hf
  have hg := outS_get hf hl hd hst hw hout hj x
  show (∀ i (hi : i < l.length),i ∈ j :: r → l[i].out = x → Tf.get (outW l d r (outS l d t j)) x = outG d i) ∧ ((∀ i (hi : i < l.length),i ∈ j :: r → l[i].out ≠ x) → Tf.get (outW l d r (outS l d t j)) x = Tf.get t x)
  refine ⟨fun i hi hm e => ?_,fun hn => ?_⟩
  ·by_cases hir : i ∈ r
   ·exact h1 i hi hir e
   ·have hij : i = j := by
     rcases List.mem_cons.1 hm with h | h
     ·exact h
     ·exact absurd h hir
    subst hij
    rw [h2 fun k hk hkr e2 => hir (by
     have := hA k i hk hi (by rw [e2,e])
     rwa [this] at hkr),hg,if_pos e.symm]
  ·rw [h2 fun k hk hkr => hn k hk (List.mem_cons_of_mem _ hkr),hg,if_neg fun e => hn j hj (by simp) e.symm]
theorem outW_fresh {fs : Tf.Fs} {l : List Ru} {o : List Nat} (hs : Sheet fs l o) (hl : Flat l) {d : Bd} {c : Ca} (h : Going fs l o d c) (hw : d.waits = 0) {p : List Nat} (hp : ∀ i ∈ p,i < l.length) (hall : ∀ i,i < l.length → i ∈ p) {t : Tf.Fs} (ht : Tf.Well pathB t) (ho : Outs l t) {i : Nat} (hi : i < l.length) : Tf.get (outW l d p t) l[i].out = if (want Af.actO fs l l[i].out).2 = 0 then some (want Af.actO fs l l[i].out).1 else none := by
 have e1 : ∀ k,k < l.length → (d.st k).isDone = true ∨ (d.st k).isFailed = true ∨ (d.st k).isLeft = true := fun k hk => (h.good.ends hw (by rw [h.hl];exact hk)).1
 obtain ⟨a1,-⟩ := outW_get hs.fine hl h.fit e1 p hp ht ho l[i].out
 rw [a1 i hi (hall i hi) rfl]
 have r1 := h.result hs hw hi
 unfold outG
 cases hk : d.st i with
 | done s b =>
  rw [hk] at r1
  have : (want Af.actO fs l l[i].out).2 = 0 := by simpa [St.isDone] using r1.2
  rw [if_pos this,← r1.1];rfl
 | no => rw [hk] at r1;rw [if_neg (by simpa [St.isDone] using r1.2)]
 | waits => rw [hk] at r1;rw [if_neg (by simpa [St.isDone] using r1.2)]
 | failed e => rw [hk] at r1;rw [if_neg (by simpa [St.isDone] using r1.2)]
 | left => rw [hk] at r1;rw [if_neg (by simpa [St.isDone] using r1.2)]
end Bf
end Go.Proofs.YthchjnopgagilaaGreatDoor
namespace Go.Proofs.YthchjnopgagilaaGreatDoor
open Go.RowKit Go.Shelf Go.Lib
namespace Bf
def off (fs os : Tf.Fs) (l : List Ru) (p : List UInt8) : Bool := Tf.get os p != (if (want Af.actO fs l p).2 = 0 then some (want Af.actO fs l p).1 else none)
def stale (fs os : Tf.Fs) (l : List Ru) : List (List UInt8) := Af.srt ((l.map Ru.out).filter (off fs os l))
end Bf
end Go.Proofs.YthchjnopgagilaaGreatDoor
namespace Go.Proofs.YthchjnopgagilaaGreatDoor
open Go.RowKit Go.Shelf Go.Lib
namespace Bf
theorem stale_none {fs : Tf.Fs} {l : List Ru} {o : List Nat} (hs : Sheet fs l o) (hl : Flat l) {d : Bd} {c : Ca} (h : Going fs l o d c) (hw : d.waits = 0) {p : List Nat} (hp : ∀ i ∈ p,i < l.length) (hall : ∀ i,i < l.length → i ∈ p) {t : Tf.Fs} (ht : Tf.Well pathB t) (ho : Outs l t) : stale fs (outW l d p t) l = [] := by
 unfold stale
 rw [List.filter_eq_nil_iff.2 fun x hx => ?_]
 ·exact srt_nil
 ·obtain ⟨r,hr,rfl⟩ := List.mem_map.1 hx
  obtain ⟨i,hi,rfl⟩ := List.getElem_of_mem hr
  unfold off
  rw [outW_fresh hs hl h hw hp hall ht ho hi]
  simp
def whole (l : List Ru) (outs : List (List UInt8)) : List (List UInt8) := if outs = [] then l.map Ru.out else outs
theorem whole_len {l : List Ru} {outs : List (List UInt8)} {n : Nat} (h : l.length ≤ n) (h' : outs.length ≤ n) : (whole l outs).length ≤ n := by
 unfold whole
 split
 ·simpa using h
 ·exact h'
structure Yd where
 fs : Tf.Fs
 os : Tf.Fs
 l : List Ru
 c : Ca
noncomputable def Yd.made (y : Yd) (outs : List (List UInt8)) : Bd × Ca := all Af.actO y.c (init y.fs y.l (whole y.l outs))
noncomputable def Yd.make (y : Yd) (outs : List (List UInt8)) : Yd :=
 { y with os := outW y.l (y.made outs).1 ((Ru.order y.l fun _ => true).getD []) y.os,c := (y.made outs).2 }
end Bf
end Go.Proofs.YthchjnopgagilaaGreatDoor
namespace Go.Proofs.YthchjnopgagilaaGreatDoor
namespace Bf
def layS (l : List Ru) (d : Bd) (t : Tf.Fs) (i : Nat) : Tf.Fs :=
 match d.st i with
 | .done s _ => Tf.putF pathB t (l.getD i ⟨[],[],[],[]⟩).out s
 | _ => t
def layW (l : List Ru) (d : Bd) (o : List Nat) (t : Tf.Fs) : Tf.Fs := o.foldl (layS l d) t
def sweepS (l : List Ru) (d : Bd) (t : Tf.Fs) (i : Nat) : Tf.Fs :=
 if (d.st i).isBad = true then Tf.del t (l.getD i ⟨[],[],[],[]⟩).out else t
def sweepW (l : List Ru) (d : Bd) (n : Nat) (t : Tf.Fs) : Tf.Fs := (List.range n).foldl (sweepS l d) t
def outP (l : List Ru) (d : Bd) (o : List Nat) (t : Tf.Fs) : Tf.Fs := sweepW l d l.length (layW l d o t)
theorem layS_well {l : List Ru} {d : Bd} {t : Tf.Fs} (h : Tf.Well pathB t) (i : Nat) : Tf.Well pathB (layS l d t i) := by
 unfold layS
 split
 ·exact h.putF _ _
 ·exact h
theorem layW_well {l : List Ru} {d : Bd} : ∀ (o : List Nat) {t : Tf.Fs},Tf.Well pathB t → Tf.Well pathB (layW l d o t)
 | [],_,h => h
 | i :: r,_,h => layW_well (l := l) (d := d) r (layS_well h i)
theorem layW_snoc (l : List Ru) (d : Bd) (o : List Nat) (t : Tf.Fs) (i : Nat) : layW l d (o ++ [i]) t = layS l d (layW l d o t) i := by simp [layW]
theorem sweepW_succ (l : List Ru) (d : Bd) (n : Nat) (t : Tf.Fs) : sweepW l d (n + 1) t = sweepS l d (sweepW l d n t) n := by
 unfold sweepW
 rw [List.range_succ,List.foldl_append]
 rfl
theorem sweepS_well {l : List Ru} {d : Bd} {t : Tf.Fs} (h : Tf.Well pathB t) (i : Nat) : Tf.Well pathB (sweepS l d t i) := by
 unfold sweepS
 split
 ·exact h.del _
 ·exact h
theorem sweepW_well {l : List Ru} {d : Bd} {t : Tf.Fs} (h : Tf.Well pathB t) : ∀ n,Tf.Well pathB (sweepW l d n t)
 | 0 => h
 | n + 1 => by rw [sweepW_succ];exact sweepS_well (sweepW_well h n) n
theorem outP_well {l : List Ru} {d : Bd} {o : List Nat} {t : Tf.Fs} (h : Tf.Well pathB t) : Tf.Well pathB (outP l d o t) := sweepW_well (layW_well o h) _
theorem layS_outs {l : List Ru} {d : Bd} {t : Tf.Fs} (h : Outs l t) {i : Nat} (hi : i < l.length) : Outs l (layS l d t i) := by
 unfold layS
 rw [getD_at hi]
 split
 ·intro f hf
  rcases Tf.putF_mem hf with h1 | h1
  ·exact h f h1
  ·exact ⟨i,hi,by rw [h1]⟩
 ·exact h
theorem layW_outs {l : List Ru} {d : Bd} : ∀ (o : List Nat),(∀ i ∈ o,i < l.length) → ∀ {t : Tf.Fs},Outs l t → Outs l (layW l d o t)
 | [],_,_,h => h
 | i :: r,ho,_,h => layW_outs (l := l) (d := d) r (fun k hk => ho k (List.mem_cons_of_mem _ hk)) (layS_outs h (ho i (by simp)))
theorem sweepW_outs {l : List Ru} {d : Bd} {t : Tf.Fs} (h : Outs l t) : ∀ n,Outs l (sweepW l d n t)
 | 0 => h
 | n + 1 => by
  rw [sweepW_succ]
  unfold sweepS
  split
  ·exact fun f hf => sweepW_outs h n f ((List.mem_filter.1 hf).1)
  ·exact sweepW_outs h n
theorem outP_outs {l : List Ru} {d : Bd} {o : List Nat} (ho : ∀ i ∈ o,i < l.length) {t : Tf.Fs} (h : Outs l t) : Outs l (outP l d o t) := sweepW_outs (layW_outs o ho h) _
theorem layS_get {l : List Ru} (hf : (Ru.fault l).1 = 0) (hl : Flat l) {d : Bd} (hd : Fit d) {t : Tf.Fs} (hw : Tf.Well pathB t) (ho : Outs l t) {i : Nat} (hi : i < l.length) (x : List UInt8) :
  Tf.get (layS l d t i) x = if x = l[i].out ∧ (d.st i).isDone = true then outG d i else Tf.get t x := by
 unfold layS outG
 rw [getD_at hi]
 cases hsi : d.st i with
 | no => simp [St.isDone]
 | waits => simp [St.isDone]
 | failed c => simp [St.isDone]
 | left => simp [St.isDone]
 | done s b =>
  simp only [St.isDone,and_true]
  have hlen : s.length ≤ 2000 := by
   have := hd.outs i
   rwa [hsi] at this
  by_cases e : x = l[i].out
  ·subst e
   rw [if_pos rfl]
   unfold Tf.putF
   rw [if_pos (out_takes hf hl hw ho hi hlen),Tf.get_put_same]
  ·rw [if_neg e,Tf.get_putF fun h => e h.symm]
theorem layW_get {l : List Ru} (hf : (Ru.fault l).1 = 0) (hl : Flat l) {d : Bd} (hd : Fit d) : ∀ (o : List Nat),(∀ i ∈ o,i < l.length) → ∀ {t : Tf.Fs},Tf.Well pathB t → Outs l t → ∀ x,(∀ i (hi : i < l.length),i ∈ o → l[i].out = x → (d.st i).isDone = true → Tf.get (layW l d o t) x = outG d i) ∧ ((∀ i (hi : i < l.length),i ∈ o → l[i].out = x → (d.st i).isDone = false) → Tf.get (layW l d o t) x = Tf.get t x)
 | [],_,t,_,_,x => ⟨fun i _ h => by simp at h,fun _ => rfl⟩
 | j :: r,ho,t,hw,hout,x => by
  have hj := ho j (by simp)
  have hr := fun i hi => ho i (List.mem_cons_of_mem j hi)
  obtain ⟨h1,h2⟩ := layW_get hf hl hd r hr (layS_well (l := l) (d := d) hw j) (layS_outs (d := d) hout hj) x
  obtain ⟨-,hA⟩ := Ru.fault_ok hf
  have hg := layS_get hf hl hd hw hout hj x
  show (∀ i (hi : i < l.length),i ∈ j :: r → l[i].out = x → (d.st i).isDone = true → Tf.get (layW l d r (layS l d t j)) x = outG d i) ∧ ((∀ i (hi : i < l.length),i ∈ j :: r → l[i].out = x → (d.st i).isDone = false) → Tf.get (layW l d r (layS l d t j)) x = Tf.get t x)
  refine ⟨fun i hi hm e hdn => ?_,fun hn => ?_⟩
  ·by_cases hir : i ∈ r
   ·exact h1 i hi hir e hdn
   ·have hij : i = j := by
     rcases List.mem_cons.1 hm with h | h
     ·exact h
     ·exact absurd h hir
    subst hij
    rw [h2 fun k hk hkr e2 => absurd (by
     have := hA k i hk hi (by rw [e2,e])
     rwa [this] at hkr) hir,hg,if_pos ⟨e.symm,hdn⟩]
  ·rw [h2 fun k hk hkr => hn k hk (List.mem_cons_of_mem _ hkr),hg,if_neg fun e => ?_]
   have := hn j hj (by simp) e.1.symm
   rw [e.2] at this
   cases this
theorem sweepW_get {l : List Ru} (hf : (Ru.fault l).1 = 0) {d : Bd} {t : Tf.Fs} (x : List UInt8) : ∀ n,n ≤ l.length → (∀ i (hi : i < l.length),i < n → l[i].out = x → (d.st i).isBad = true → Tf.get (sweepW l d n t) x = none) ∧ ((∀ i (hi : i < l.length),i < n → l[i].out = x → (d.st i).isBad = false) → Tf.get (sweepW l d n t) x = Tf.get t x)
 | 0,_ => ⟨fun i _ h => by omega,fun _ => rfl⟩
 | n + 1,hn => by
  obtain ⟨h1,h2⟩ := sweepW_get hf (d := d) (t := t) x n (by omega)
  have hg : Tf.get (sweepS l d (sweepW l d n t) n) x = if x = l[n].out ∧ (d.st n).isBad = true then none else Tf.get (sweepW l d n t) x := by
   unfold sweepS
   rw [getD_at (by omega)]
   by_cases hb : (d.st n).isBad = true
   ·rw [if_pos hb]
    by_cases e : x = l[n].out
    ·rw [if_pos ⟨e,hb⟩,e,Tf.get_del_same]
    ·rw [if_neg fun h => e h.1,Tf.get_del fun h => e h.symm]
   ·rw [if_neg hb,if_neg fun h => hb h.2]
  obtain ⟨-,hA⟩ := Ru.fault_ok hf
  rw [sweepW_succ,hg]
  refine ⟨fun i hi hm e hb => ?_,fun hq => ?_⟩
  ·split
   ·rfl
   ·rename_i hc
    refine h1 i hi ?_ e hb
    refine Nat.lt_of_le_of_ne (by omega) fun e2 => hc ?_
    subst e2
    exact ⟨e.symm,hb⟩
  ·rw [if_neg fun h => ?_,h2 fun i hi hm e => hq i hi (by omega) e]
   have := hq n (by omega) (by omega) h.1.symm
   rw [h.2] at this
   cases this
theorem outP_is {l : List Ru} (hf : (Ru.fault l).1 = 0) (hl : Flat l) {d : Bd} (hd : Fit d) (hst : ∀ k,k < l.length → (d.st k).isDone = true ∨ (d.st k).isFailed = true ∨ (d.st k).isLeft = true) {o : List Nat} (ho : ∀ i ∈ o,i < l.length) (hall : ∀ i,i < l.length → i ∈ o) {t : Tf.Fs} (hw : Tf.Well pathB t) (hout : Outs l t) : outP l d o t = outW l d o t := by
 refine Tf.rises_ext (outP_well hw).rises (outW_well o hw).rises fun x => ?_
 obtain ⟨a1,a2⟩ := outW_get hf hl hd hst o ho hw hout x
 obtain ⟨b1,b2⟩ := layW_get hf hl hd o ho hw hout x
 obtain ⟨c1,c2⟩ := sweepW_get hf (d := d) (t := layW l d o t) x l.length (Nat.le_refl _)
 obtain ⟨-,hA⟩ := Ru.fault_ok hf
 unfold outP
 by_cases hx : ∃ i,∃ hi : i < l.length,l[i].out = x
 ·obtain ⟨i,hi,e⟩ := hx
  have huni : ∀ k (hk : k < l.length),l[k].out = x → k = i := fun k hk ek => hA k i hk hi (by rw [ek,e])
  rw [a1 i hi (hall i hi) e]
  by_cases hdn : (d.st i).isDone = true
  ·rw [c2 fun k hk _ ek => ?_,b1 i hi (hall i hi) e hdn]
   obtain rfl := huni k hk ek
   cases hs : d.st k with
   | done s b => rfl
   | no => rfl
   | waits => rfl
   | failed c => rw [hs] at hdn;cases hdn
   | left => rw [hs] at hdn;cases hdn
  ·have hb : (d.st i).isBad = true := by
    have := hst i hi
    cases hs : d.st i <;> rw [hs] at this hdn <;> simp [St.isDone,St.isFailed,St.isLeft,St.isBad] at this hdn ⊢
   rw [c1 i hi hi e hb]
   unfold outG
   cases hs : d.st i with
   | done s b => rw [hs] at hdn;exact absurd rfl hdn
   | no => rfl
   | waits => rfl
   | failed c => rfl
   | left => rfl
 ·have hn : ∀ i (hi : i < l.length),l[i].out ≠ x := fun i hi e => hx ⟨i,hi,e⟩
  rw [a2 fun i hi _ => hn i hi,c2 fun i hi _ e => absurd e (hn i hi),b2 fun i hi _ e => absurd e (hn i hi)]
end Bf
end Go.Proofs.YthchjnopgagilaaGreatDoor
namespace Go.Proofs.YthchjnopgagilaaGreatDoor
open Go.RowKit Go.Shelf Go.Lib
theorem CaAt.sameG {es : Nat → Addr} {At : (Nat → Prop) → World → Value → Nat → Cf.Ens → Prop} (HC : Caches0 es At) {SC : Nat → Prop} {W W' : World} {cv : Value} {c : Bf.Ca} (h : CaAt At SC W cv c) (hz : W.heap.size ≤ W'.heap.size) (hb : ∀ k,SC k → W'.heap[k]? = W.heap[k]?) : CaAt At SC W' cv c := by
 cases c with
 | none => exact h
 | some x => exact ⟨h.1,HC.same _ _ _ _ _ _ h.2 hz hb⟩
theorem CaAt.ltG {es : Nat → Addr} {At : (Nat → Prop) → World → Value → Nat → Cf.Ens → Prop} (HC : Caches0 es At) {SC : Nat → Prop} {W : World} {cv : Value} {c : Bf.Ca} (h : CaAt At SC W cv c) : ∀ k,SC k → k < W.heap.size := by
 cases c with
 | none => exact fun k hk => absurd hk (h.2 k)
 | some x => exact HC.lt _ _ _ _ _ h.2
end Go.Proofs.YthchjnopgagilaaGreatDoor
namespace Go.Proofs.YthchjnopgagilaaGreatDoor
open Go.RowKit Go.Shelf Go.Lib
structure YL where
 tb : Nat
 ob : Nat
 lv : Value
 cv : Value
 o1 : Option Nat
 o2 : Option Nat
 SC : Nat → Prop
 R : Nat → Prop
 k : Nat → Nat
def YL.more (L : YL) (n g : Nat) : Nat → Nat := fun j => if j < n then L.k j else g
theorem YL.more_old (L : YL) {n g j : Nat} (h : j < n) : L.more n g j = L.k j := by unfold YL.more;rw [if_pos h]
theorem YL.more_new (L : YL) {n g j : Nat} (h : n ≤ j) : L.more n g j = g := by unfold YL.more;rw [if_neg (by omega)]
structure YdAt (At : (Nat → Prop) → World → Value → Nat → Cf.Ens → Prop) (B : Nat) (W : World) (yb : Nat) (L : YL) (y : Bf.Yd) : Prop where
 row : W.heap[yb]? = some (.cells #[Ptr L.tb,Ptr L.ob,L.lv,L.cv] 239 (0,0))
 low : B ≤ yb
 t : TreeAt B W L.tb y.fs L.o1
 o : TreeAt B W L.ob y.os L.o2
 ca : CaAt At L.SC W L.cv y.c
 cp : ∃ p,L.cv = .pointer (some p)
 lowC : ∀ j,L.SC j → B ≤ j
 rows : ∀ W' : World,W.heap.size ≤ W'.heap.size → (∀ j,L.R j → W'.heap[j]? = W.heap[j]?) → RRow W' L.lv y.l
 rlt : ∀ j,L.R j → j < W.heap.size
 ky : L.k yb = 0
 kt : L.k L.tb = 1
 k1 : ∀ j,L.o1 = some j → L.k j = 1
 ko : L.k L.ob = 2
 k2 : ∀ j,L.o2 = some j → L.k j = 2
 kc : ∀ j,L.SC j → L.k j = 3
 kr : ∀ j,L.R j → L.k j = 4
variable {es : Nat → Addr} {At : (Nat → Prop) → World → Value → Nat → Cf.Ens → Prop}
theorem YdAt.lt {B : Nat} {W : World} {yb : Nat} {L : YL} {y : Bf.Yd} (h : YdAt At B W yb L y) : yb < W.heap.size := (Array.getElem?_eq_some_iff.1 h.row).1
theorem YdAt.rrow {B : Nat} {W : World} {yb : Nat} {L : YL} {y : Bf.Yd} (h : YdAt At B W yb L y) : RRow W L.lv y.l := h.rows W (Nat.le_refl _) fun _ _ => rfl
theorem YdAt.c0 {B : Nat} {W : World} {yb : Nat} {L : YL} {y : Bf.Yd} (h : YdAt At B W yb L y) : W.cell? ⟨yb,0,none⟩ = some (Ptr L.tb) := cell_of_row (j := 0) h.row rfl
theorem YdAt.c1 {B : Nat} {W : World} {yb : Nat} {L : YL} {y : Bf.Yd} (h : YdAt At B W yb L y) : W.cell? ⟨yb,1,none⟩ = some (Ptr L.ob) := cell_of_row (j := 1) h.row rfl
theorem YdAt.c2 {B : Nat} {W : World} {yb : Nat} {L : YL} {y : Bf.Yd} (h : YdAt At B W yb L y) : W.cell? ⟨yb,2,none⟩ = some L.lv := cell_of_row (j := 2) h.row rfl
theorem YdAt.c3 {B : Nat} {W : World} {yb : Nat} {L : YL} {y : Bf.Yd} (h : YdAt At B W yb L y) : W.cell? ⟨yb,3,none⟩ = some L.cv := cell_of_row (j := 3) h.row rfl
theorem YdAt.mapt {B : Nat} {W : World} {yb : Nat} {L : YL} {y : Bf.Yd} (h : YdAt At B W yb L y) {j : Nat} (e : L.o1 = some j) : j < W.heap.size := by
 have := h.t.isMap
 rw [e] at this
 exact this.2.2.lt
theorem YdAt.mapo {B : Nat} {W : World} {yb : Nat} {L : YL} {y : Bf.Yd} (h : YdAt At B W yb L y) {j : Nat} (e : L.o2 = some j) : j < W.heap.size := by
 have := h.o.isMap
 rw [e] at this
 exact this.2.2.lt
theorem YdAt.krow {B : Nat} {W W' : World} {yb : Nat} {L : YL} {y : Bf.Yd} (h : YdAt At B W yb L y) {g : Nat} (hk : Kept (fun j => L.k j = g) W W') (hg : g ≠ 0) : W'.heap[yb]? = some (.cells #[Ptr L.tb,Ptr L.ob,L.lv,L.cv] 239 (0,0)) :=
 (hk.block yb h.lt fun e => hg (by rw [← e,h.ky])).trans h.row
theorem YdAt.kfiles {B : Nat} {W W' : World} {yb : Nat} {L : YL} {y : Bf.Yd} (h : YdAt At B W yb L y) {g : Nat} (hk : Kept (fun j => L.k j = g) W W') (hg : g ≠ 1) : TreeAt B W' L.tb y.fs L.o1 :=
 h.t.kept hk (fun e => hg (by rw [← e,h.kt])) fun j hj e => hg (by rw [← e,h.k1 j hj])
theorem YdAt.kout {B : Nat} {W W' : World} {yb : Nat} {L : YL} {y : Bf.Yd} (h : YdAt At B W yb L y) {g : Nat} (hk : Kept (fun j => L.k j = g) W W') (hg : g ≠ 2) : TreeAt B W' L.ob y.os L.o2 :=
 h.o.kept hk (fun e => hg (by rw [← e,h.ko])) fun j hj e => hg (by rw [← e,h.k2 j hj])
theorem YdAt.kcache (HC : Caches0 es At) {B : Nat} {W W' : World} {yb : Nat} {L : YL} {y : Bf.Yd} (h : YdAt At B W yb L y) {g : Nat} (hk : Kept (fun j => L.k j = g) W W') (hg : g ≠ 3) : CaAt At L.SC W' L.cv y.c :=
 h.ca.sameG HC hk.size fun j hj => hk.block j (h.ca.ltG HC j hj) fun e => hg (by rw [← e,h.kc j hj])
theorem YdAt.krules {B : Nat} {W W' : World} {yb : Nat} {L : YL} {y : Bf.Yd} (h : YdAt At B W yb L y) {g : Nat} (hk : Kept (fun j => L.k j = g) W W') (hg : g ≠ 4) : ∀ V : World,W'.heap.size ≤ V.heap.size → (∀ j,L.R j → V.heap[j]? = W'.heap[j]?) → RRow V L.lv y.l := fun V hz hV =>
 h.rows V (Nat.le_trans hk.size hz) fun j hj => (hV j hj).trans (hk.block j (h.rlt j hj) fun e => hg (by rw [← e,h.kr j hj]))
theorem YdAt.aside (HC : Caches0 es At) {B : Nat} {W W' : World} {yb : Nat} {L : YL} {y : Bf.Yd} (h : YdAt At B W yb L y) (hk : Kept (fun j => L.k j = 9) W W') : YdAt At B W' yb L y :=
 ⟨h.krow hk (by decide),h.low,h.kfiles hk (by decide),h.kout hk (by decide),h.kcache HC hk (by decide),h.cp,h.lowC,h.krules hk (by decide),fun j hj => Nat.lt_of_lt_of_le (h.rlt j hj) hk.size,h.ky,h.kt,h.k1,h.ko,h.k2,h.kc,h.kr⟩
theorem YdAt.below (HC : Caches0 es At) {B : Nat} {W W' : World} {yb : Nat} {L : YL} {y : Bf.Yd} (h : YdAt At B W yb L y) (hb : Below W.heap.size W W') : YdAt At B W' yb L y := h.aside HC (.of hb)
theorem YdAt.retag (HC : Caches0 es At) {B : Nat} {W : World} {yb : Nat} {L : YL} {y : Bf.Yd} (h : YdAt At B W yb L y) (g : Nat) : YdAt At B W yb { L with k := L.more W.heap.size g } y :=
 ⟨h.row,h.low,h.t,h.o,h.ca,h.cp,h.lowC,h.rows,h.rlt,(L.more_old h.lt).trans h.ky,(L.more_old h.t.lt).trans h.kt,fun j hj => (L.more_old (h.mapt hj)).trans (h.k1 j hj),(L.more_old h.o.lt).trans h.ko,fun j hj => (L.more_old (h.mapo hj)).trans (h.k2 j hj),fun j hj => (L.more_old (h.ca.ltG HC j hj)).trans (h.kc j hj),fun j hj => (L.more_old (h.rlt j hj)).trans (h.kr j hj)⟩
theorem YdAt.files (HC : Caches0 es At) {B : Nat} {W W' : World} {yb : Nat} {L : YL} {y : Bf.Yd} (h : YdAt At B W yb L y) {fs : Tf.Fs} {o' : Option Nat} (hT : TreeAt B W' L.tb fs o') (hon : OldNew W L.o1 o') (hK : Kept (tS L.tb L.o1) W W') : YdAt At B W' yb { L with o1 := o',k := L.more W.heap.size 1 } { y with fs := fs } := by
 have hk : Kept (fun j => L.k j = 1) W W' := ⟨hK.size,fun j hj hs => hK.block j hj fun e => hs (e.elim (fun e => by rw [e];exact h.kt) fun e => h.k1 j e)⟩
 have hS : ∀ j,L.SC j → L.more W.heap.size 1 j = 3 := fun j hj => by rw [L.more_old (h.ca.ltG HC j hj)];exact h.kc j hj
 refine ⟨h.krow hk (by decide),h.low,hT,h.kout hk (by decide),h.kcache HC hk (by decide),h.cp,h.lowC,h.krules hk (by decide),fun j hj => Nat.lt_of_lt_of_le (h.rlt j hj) hK.size,(L.more_old h.lt).trans h.ky,(L.more_old h.t.lt).trans h.kt,fun j hj => ?_,(L.more_old h.o.lt).trans h.ko,fun j hj => (L.more_old (h.mapo hj)).trans (h.k2 j hj),hS,fun j hj => (L.more_old (h.rlt j hj)).trans (h.kr j hj)⟩
 rcases hon with e | ⟨i,e,hi⟩
 ·have hj' : L.o1 = some j := e ▸ hj
  exact (L.more_old (h.mapt hj')).trans (h.k1 j hj')
 ·have : i = j := by have := e.symm.trans hj;exact Option.some.inj this
  subst this
  exact L.more_new hi
theorem YdAt.outs (HC : Caches0 es At) {B : Nat} {W W' : World} {yb : Nat} {L : YL} {y : Bf.Yd} (h : YdAt At B W yb L y) {os : Tf.Fs} {o' : Option Nat} (hT : TreeAt B W' L.ob os o') (hon : OldNew W L.o2 o') (hK : Kept (tS L.ob L.o2) W W') : YdAt At B W' yb { L with o2 := o',k := L.more W.heap.size 2 } { y with os := os } := by
 have hk : Kept (fun j => L.k j = 2) W W' := ⟨hK.size,fun j hj hs => hK.block j hj fun e => hs (e.elim (fun e => by rw [e];exact h.ko) fun e => h.k2 j e)⟩
 have hS : ∀ j,L.SC j → L.more W.heap.size 2 j = 3 := fun j hj => by rw [L.more_old (h.ca.ltG HC j hj)];exact h.kc j hj
 refine ⟨h.krow hk (by decide),h.low,h.kfiles hk (by decide),hT,h.kcache HC hk (by decide),h.cp,h.lowC,h.krules hk (by decide),fun j hj => Nat.lt_of_lt_of_le (h.rlt j hj) hK.size,(L.more_old h.lt).trans h.ky,(L.more_old h.t.lt).trans h.kt,fun j hj => (L.more_old (h.mapt hj)).trans (h.k1 j hj),(L.more_old h.o.lt).trans h.ko,fun j hj => ?_,hS,fun j hj => (L.more_old (h.rlt j hj)).trans (h.kr j hj)⟩
 rcases hon with e | ⟨i,e,hi⟩
 ·have hj' : L.o2 = some j := e ▸ hj
  exact (L.more_old (h.mapo hj')).trans (h.k2 j hj')
 ·have : i = j := by have := e.symm.trans hj;exact Option.some.inj this
  subst this
  exact L.more_new hi
theorem YdAt.cached {B : Nat} {W W' : World} {yb : Nat} {L : YL} {y : Bf.Yd} (h : YdAt At B W yb L y) {c : Bf.Ca} {SC : Nat → Prop} (hC : CaAt At SC W' L.cv c) (hz : W.heap.size ≤ W'.heap.size) (hb : ∀ j,j < W.heap.size → ¬ L.SC j → W'.heap[j]? = W.heap[j]?) (hS : ∀ j,SC j → L.SC j ∨ W.heap.size ≤ j) (hlt : ∀ j,L.SC j → j < W.heap.size) : YdAt At B W' yb { L with SC := SC,k := L.more W.heap.size 3 } { y with c := c } := by
 have hk : Kept (fun j => L.k j = 3) W W' := ⟨hz,fun j hj hs => hb j hj fun e => hs (h.kc j e)⟩
 have hB : B ≤ W.heap.size := by have := h.low;have := h.lt;omega
 refine ⟨h.krow hk (by decide),h.low,h.kfiles hk (by decide),h.kout hk (by decide),hC,h.cp,fun j hj => ?_,h.krules hk (by decide),fun j hj => Nat.lt_of_lt_of_le (h.rlt j hj) hz,(L.more_old h.lt).trans h.ky,(L.more_old h.t.lt).trans h.kt,fun j hj => (L.more_old (h.mapt hj)).trans (h.k1 j hj),(L.more_old h.o.lt).trans h.ko,fun j hj => (L.more_old (h.mapo hj)).trans (h.k2 j hj),fun j hj => ?_,fun j hj => (L.more_old (h.rlt j hj)).trans (h.kr j hj)⟩
 ·rcases hS j hj with e | e
  ·exact h.lowC j e
  ·omega
 ·rcases hS j hj with e | e
  ·exact (L.more_old (hlt j e)).trans (h.kc j e)
  ·exact L.more_new e
theorem YdAt.ruled (HC : Caches0 es At) {B : Nat} {W w1 : World} {yb : Nat} {L : YL} {y : Bf.Yd} (h : YdAt At B W yb L y) (hb : Below W.heap.size W w1) {lv : Value} {l : List Ru} (hl : ∀ V : World,w1.heap.size ≤ V.heap.size → (∀ j,W.heap.size ≤ j → j < w1.heap.size → V.heap[j]? = w1.heap[j]?) → RRow V lv l) (hr : (w1.setCell ⟨yb,2,none⟩ lv).heap[yb]? = some (.cells #[Ptr L.tb,Ptr L.ob,lv,L.cv] 239 (0,0))) :
  YdAt At B (w1.setCell ⟨yb,2,none⟩ lv) yb { L with lv := lv,R := fun j => W.heap.size ≤ j ∧ j < w1.heap.size,k := L.more W.heap.size 4 } { y with l := l } := by
 have e1 : (w1.setCell ⟨yb,2,none⟩ lv).heap.size = w1.heap.size := by simp
 have hk : Kept (fun j => L.k j = 0) W (w1.setCell ⟨yb,2,none⟩ lv) := ⟨by rw [e1];exact hb.size,fun j hj hs => (Below.heap_setCell _ _ _ _ fun e => hs (by have e' : j = yb := e;rw [e'];exact h.ky)).trans (hb.block j hj)⟩
 have hyl := h.lt
 have hS : ∀ j,L.SC j → L.more W.heap.size 4 j = 3 := fun j hj => by rw [L.more_old (h.ca.ltG HC j hj)];exact h.kc j hj
 refine ⟨hr,h.low,h.kfiles hk (by decide),h.kout hk (by decide),h.kcache HC hk (by decide),h.cp,h.lowC,fun V hz hV => hl V (by rw [← e1];exact hz) fun j h1 h2 => (hV j ⟨h1,h2⟩).trans (Below.heap_setCell _ _ _ _ fun e => by have e' : j = yb := e;omega),fun j hj => by rw [e1];exact hj.2,(L.more_old h.lt).trans h.ky,(L.more_old h.t.lt).trans h.kt,fun j hj => (L.more_old (h.mapt hj)).trans (h.k1 j hj),(L.more_old h.o.lt).trans h.ko,fun j hj => (L.more_old (h.mapo hj)).trans (h.k2 j hj),hS,fun j hj => L.more_new hj.1⟩
end Go.Proofs.YthchjnopgagilaaGreatDoor
namespace Go.Proofs.YthchjnopgagilaaGreatDoor
open Go.RowKit Go.Shelf Go.Lib
variable {es : Nat → Addr} {At : (Nat → Prop) → World → Value → Nat → Cf.Ens → Prop}
theorem yNew_calls (HC : Caches0 es At) (W : World) (m : Nat) (h1 : 1 ≤ m) (h2 : m ≤ 100) :
  Calls Tryz.prog 81 #[.int .i64 m] W fun e w' => ∃ yb L,e = .returned (.tuple #[Ptr yb,.nilIface]) ∧ Below W.heap.size W w' ∧ YdAt At W.heap.size w' yb L ⟨[],[],[],some (m,[])⟩ := by
 have H0 := hid1 (HC.make W m h1 h2)
 have HCs := hid1 HC
 clear HC
 go_enter Tryz.func81,Tryz.ntmps81
 go_wp2_with fail
 refine H0.out.mono ?_
 rintro e w1 ⟨p,S,rfl,g1,hA,hS⟩
 have HA := hid1 (And.intro hA hS)
 clear H0 hA hS
 have N1 := hid1 (New_calls w1)
 go_wp2_with fail
 refine N1.out.mono ?_
 rintro e w2 ⟨rfl,hT,g2⟩
 have N2 := hid1 (New_calls w2)
 have HT := hid1 hT
 clear N1 hT
 go_wp2_with fail
 refine N2.out.mono ?_
 rintro e w3 ⟨rfl,hO,g3⟩
 have HO := hid1 hO
 clear N2 hO
 go_wp2
 go_ret2
 have hO := HO.out
 have gA : Below w3.heap.size w3 (w3.alloc (.cells #[Ptr w1.heap.size,Ptr w2.heap.size,.slice none 0 0,.pointer (some p)] 239)) := (Below.refl _ w3).alloc (Nat.le_refl _) _
 have z1 := g1.size
 have zt := HT.out.lt
 have zo := hO.lt
 have hlt : ∀ j,S j → j < w1.heap.size := HCs.out.lt _ _ _ _ _ HA.out.1
 refine ⟨w3.heap.size,⟨w1.heap.size,w2.heap.size,.slice none 0 0,.pointer (some p),none,none,S,fun _ => False,fun j => if j < w1.heap.size then 3 else if j = w1.heap.size then 1 else if j = w2.heap.size then 2 else 0⟩,rfl,below_then g1 (below_then g2 (below_then g3 gA)),?_⟩
 have z2 := g2.size
 have z3 := g3.size
 have e1 : ¬ w3.heap.size < w1.heap.size := by omega
 have e2 : w3.heap.size ≠ w1.heap.size := by omega
 have e3 : w3.heap.size ≠ w2.heap.size := by omega
 have e4 : ¬ w2.heap.size < w1.heap.size := by omega
 have e5 : w2.heap.size ≠ w1.heap.size := by omega
 exact ⟨row_newW w3 _,by omega,((HT.out.below g3).below gA).mono z1,(hO.below gA).mono (by omega),⟨⟨_,rfl⟩,HCs.out.same _ _ _ _ _ _ HA.out.1 (by have := gA.size;omega) fun k hk => (gA.block k (by have := hlt k hk;omega)).trans ((g3.block k (by have := hlt k hk;omega)).trans (g2.block k (hlt k hk)))⟩,⟨_,rfl⟩,HA.out.2,fun W' _ _ => RRow.nil W',fun j h => h.elim,
  (by simp [e1,e2,e3]),(by simp),fun j h => (by cases h),(by simp [e4,e5]),fun j h => (by cases h),fun j hj => (by simp [hlt j hj]),fun j h => h.elim⟩
theorem yTree_calls {B : Nat} {W : World} {yb : Nat} {L : YL} {y : Bf.Yd} (h : YdAt At B W yb L y) : Calls Tryz.prog 83 #[Ptr yb] W fun e w' => e = .returned (Ptr L.tb) ∧ w' = W := by
 have c := h.c0
 clear h
 go_enter Tryz.func83,Tryz.ntmps83
 go_wp2
 go_ret
 exact ⟨rfl,rfl⟩
theorem yOut_calls {B : Nat} {W : World} {yb : Nat} {L : YL} {y : Bf.Yd} (h : YdAt At B W yb L y) : Calls Tryz.prog 86 #[Ptr yb] W fun e w' => e = .returned (Ptr L.ob) ∧ w' = W := by
 have c := h.c1
 clear h
 go_enter Tryz.func86,Tryz.ntmps86
 go_wp2
 go_ret
 exact ⟨rfl,rfl⟩
theorem youts_calls {B : Nat} {W : World} {yb : Nat} {L : YL} {y : Bf.Yd} (h : YdAt At B W yb L y) (hl : y.l.length ≤ 1000) :
  Calls Tryz.prog 155 #[Ptr yb] W fun e w' => ∃ u,e = .returned u ∧ w'.ownsRow W.heap.size 9 1 u y.l.length ((y.l.map Ru.out).map sv) ∧ Below W.heap.size W w' := by
 have c := h.c2
 obtain ⟨p,cap,e,hcap,-,hin⟩ := h.rrow
 rw [e] at c
 have HI := hid1 hin
 obtain ⟨i0,hi,hz0,hz1,hz2⟩ := info_parts Tryz.infoStr
 generalize y.l = l at *
 have zl : (l.length : Int) ≤ 1000 := by omega
 clear hin h e
 go_enter Tryz.func155,Tryz.ntmps155
 go_wp2
 go_loopw [3,11] (fun ov iv wr => ∃ j : Nat,j ≤ l.length ∧ iv = .int .i64 j ∧ wr.ownsRow W.heap.size 9 1 ov j (((l.take j).map Ru.out).map sv) ∧ Below W.heap.size W wr) (fun _ iv _ => l.length - (intOf iv).toNat)
 case atStart => exact ⟨0,Nat.zero_le _,rfl,World.ownsRow_nil _ _ _ _,Below.refl _ _⟩
 case round =>
  obtain ⟨j,hj,rfl,hO,B⟩ := hrel
  have HO := hid1 hO
  clear hO
  have j0 : (0 : Int) ≤ (j : Int) := by omega
  by_cases hlt : j < l.length
  ·have j1 : (j : Int) < (l.length : Int) := by omega
   obtain ⟨g,o,rfl,hg,hc⟩ := HI.out (by intro e;rw [e] at hlt;simp at hlt)
   obtain ⟨b0,b1,b2,v3,b3,bx⟩ := hc j hlt
   have d0 := cell_below' b0 B
   have d1 := cell_below' b1 B
   have d2 := cell_below' b2 B
   have d3 := cell_below' b3 B
   obtain ⟨p3,cap3,rfl,-⟩ := bx
   have hst : ∀ (a : Addr) (m : Mode) (W : World),Sem.run Tryz.prog (store a (.slice p3 l[j].ins.length cap3) m) W = stored Tryz.prog W a (.slice p3 l[j].ins.length cap3) m := fun a m W => run_store _ W a _ m rfl
   have HS : Hid (((l.take (j + 1)).map Ru.out).map sv = ((l.take j).map Ru.out).map sv ++ [sv l[j].out]) := hid1 (by
    rw [List.take_succ_eq_append_getElem hlt,List.map_append,List.map_append]
    rfl)
   have hbz := B.size
   have hml : j + 1 ≤ maxLen := by unfold maxLen;omega
   have B3 := B.alloc hbz (.cells #[.string (ba l[j].out),.string (ba l[j].kind),.string (ba l[j].word),.slice p3 l[j].ins.length cap3] 96)
   have hrow := HO.out.alloc (.cells #[.string (ba l[j].out),.string (ba l[j].kind),.string (ba l[j].word),.slice p3 l[j].ins.length cap3] 96)
   clear hc HI b0 b1 b2 b3 HO
   have hbz3 := B3.size
   go_wp2_with (at_builtin;refine wpList_append_own _ rfl _ _ 45 rfl W.heap.size 9 i0 (.string ⟨#[]⟩) 1 16 Tryz.underlying45 hi hz0 hz1 hz2 rfl (by decide) _ _ _ rfl (hrow.alloc _) ⟨wr.heap.size + 1,0,none⟩ 1 1 [.string (ba l[j].out)] rfl rfl (one_new _ _ _ _ (by simp)) (by simp [Value.oneCell']) hml (by omega) (by simp;omega) ?_;intro v' w4 hown' hgrow _)
   exact ⟨⟨j + 1,by omega,by go_num,by rw [HS.out];exact hown',below_appended B3 hbz3 hrow hgrow⟩,by simp [intOf];omega⟩
  ·have j1 : (l.length : Int) ≤ (j : Int) := by omega
   obtain rfl : j = l.length := by omega
   have hO := HO.out
   rw [List.take_length] at hO
   have HQ := hid1 hO
   clear HO HI hO
   go_wp2
   go_ret
   exact ⟨_,rfl,HQ.out,B⟩
end Go.Proofs.YthchjnopgagilaaGreatDoor
