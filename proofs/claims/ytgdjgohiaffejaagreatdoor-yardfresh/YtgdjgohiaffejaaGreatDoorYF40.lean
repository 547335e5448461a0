import Derived.Test.YtgdjgohiaffejaaGreatDoorYF39
import Derived.Test.YtgdjgohiaffejaaGreatDoorYF14
import Derived.Test.YtgdjgohiaffejaaGreatDoorYF38
import Derived.Test.YtgdjgohiaffejaaGreatDoorYF28
import Derived.Test.YtgdjgohiaffejaaGreatDoorYF34
import Derived.Test.YtgdjgohiaffejaaGreatDoorYF22
import Derived.Test.YtgdjgohiaffejaaGreatDoorYF20
import Derived.Test.YtgdjgohiaffejaaGreatDoorYF17
import Derived.Deep.RegionHeld3
import Derived.Test.YtgdjgohiaffejaaGreatDoorYF19
import Derived.Test.YtgdjgohiaffejaaGreatDoorYF35
namespace Go.Proofs.YtgdjgohiaffejaaGreatDoor
namespace Bf
structure Recent (f : List UInt8 → List UInt8 × Nat) (d : Bd) (m : Nat) (es : Cf.Ens) : Prop where
  ok : Cf.Ok m es
  room : d.l.length ≤ m
  parts : ∃ old rec : Cf.Ens, es = old ++ rec ∧ (∀ x ∈ Cf.keys rec, ∃ k, k < d.l.length ∧ (d.st k).isDone = true ∧ x = kkey f (d.rule k)) ∧ ∀ k, (d.st k).isDone = true → kkey f (d.rule k) ∈ Cf.keys rec
theorem Recent.start {f : List UInt8 → List UInt8 × Nat} {d : Bd} {m : Nat} {es : Cf.Ens} (ho : Cf.Ok m es) (hr : d.l.length ≤ m) (h : ∀ k, (d.st k).isDone = false) : Recent f d m es :=
  ⟨ho, hr, es, [], by simp, fun x hx => by simp [Cf.keys] at hx, fun k hk => by rw [h k] at hk; cases hk⟩
theorem keys_app (a b : Cf.Ens) : Cf.keys (a ++ b) = Cf.keys a ++ Cf.keys b := by simp [Cf.keys]
theorem Recent.put {f : List UInt8 → List UInt8 × Nat} {d : Bd} {m : Nat} {es : Cf.Ens} (h : Recent f d m es) {i : Nat} (hi : i < d.l.length) (s v : List UInt8) (b : Bool) (hw : (d.st i).isDone = false) : Recent f (d.set i (.done s b)) m (Cf.put m es (kkey f (d.rule i)) v) := by
  obtain ⟨old, rec, rfl, h1, h2⟩ := h.parts
  have hdone : ∀ k, ((d.set i (.done s b)).st k).isDone = true ↔ (d.st k).isDone = true ∨ k = i := fun k => by
    show (setS d.st i (.done s b) k).isDone = true ↔ _
    by_cases e : k = i
    · subst e; rw [setS_same]; simp [St.isDone]
    · rw [setS_other e]; simp [e]
  have hmem : ∀ x, x ∈ Cf.keys (Cf.rm rec (kkey f (d.rule i)) ++ [(kkey f (d.rule i), v)]) ↔ x ∈ Cf.keys rec ∨ x = kkey f (d.rule i) := fun x => by
    rw [keys_app, List.mem_append, Cf.keys_rmB]
    have : Cf.keys [(kkey f (d.rule i), v)] = [kkey f (d.rule i)] := rfl
    rw [this, List.mem_singleton]
    by_cases hx : x = kkey f (d.rule i)
    · simp [hx]
    · simp [hx]
  have hsub : ∀ x ∈ Cf.keys (Cf.rm rec (kkey f (d.rule i)) ++ [(kkey f (d.rule i), v)]), ∃ k, k < d.l.length ∧ ((d.set i (.done s b)).st k).isDone = true ∧ x = kkey f (d.rule k) := fun x hx => by
    rcases (hmem x).1 hx with hx | hx
    · obtain ⟨k, hk, hd, e⟩ := h1 x hx
      exact ⟨k, hk, (hdone k).2 (.inl hd), e⟩
    · exact ⟨i, hi, (hdone i).2 (.inr rfl), hx⟩
  have hhas : ∀ k, ((d.set i (.done s b)).st k).isDone = true → kkey f (d.rule k) ∈ Cf.keys (Cf.rm rec (kkey f (d.rule i)) ++ [(kkey f (d.rule i), v)]) := fun k hk => by
    rw [hmem]
    rcases (hdone k).1 hk with hk | hk
    · exact .inl (h2 k hk)
    · right; rw [hk]
  have honce : (Cf.keys (Cf.rm rec (kkey f (d.rule i)) ++ [(kkey f (d.rule i), v)])).Nodup := by
    have := Cf.put_once h.ok.once (kkey f (d.rule i)) v
    rw [Cf.rm_append, List.append_assoc, keys_app] at this
    exact (List.nodup_append.1 this).2.1
  have hfew : (Cf.rm rec (kkey f (d.rule i)) ++ [(kkey f (d.rule i), v)]).length ≤ d.l.length := by
    have := few_of (f := f) (d := d) honce fun x hx => by
      obtain ⟨k, hk, _, e⟩ := hsub x hx
      exact ⟨k, hk, e⟩
    simpa [Cf.keys] using this
  refine ⟨h.ok.put _ _, h.room, ?_⟩
  unfold Cf.put Cf.cut
  rw [Cf.rm_append, List.append_assoc]
  split
  · rename_i hlt
    cases hold : Cf.rm old (kkey f (d.rule i)) with
    | nil =>
      rw [hold, List.nil_append] at hlt
      have := h.room
      omega
    | cons x t =>
      exact ⟨t, Cf.rm rec (kkey f (d.rule i)) ++ [(kkey f (d.rule i), v)], by simp, hsub, hhas⟩
  · exact ⟨Cf.rm old (kkey f (d.rule i)), Cf.rm rec (kkey f (d.rule i)) ++ [(kkey f (d.rule i), v)], rfl, hsub, hhas⟩
theorem Recent.fail {f : List UInt8 → List UInt8 × Nat} {d : Bd} {m : Nat} {es : Cf.Ens} (h : Recent f d m es) {i c : Nat} (hw : d.st i = .waits) : Recent f (d.fail i c) m es := by
  obtain ⟨old, rec, e, h1, h2⟩ := h.parts
  exact ⟨h.ok, h.room, old, rec, e, fun x hx => by
    obtain ⟨k, hk, hd, e⟩ := h1 x hx
    exact ⟨k, hk, by rw [fail_done hw]; exact hd, e⟩, fun k hk => h2 k (by rw [fail_done hw] at hk; exact hk)⟩
def CRecent (f : List UInt8 → List UInt8 × Nat) (d : Bd) : Ca → Prop
  | some (m, es) => Recent f d m es
  | none => False
theorem go_recent {act : Act} {N : Nat → Prop} {f : List UInt8 → List UInt8 × Nat} {c : Ca} {d : Bd} (hw : Wanted act d.fs d.l N f) (h : Makes act N f d) (hc : CRecent f d c) {i : Nat} (hi : i < d.l.length) (hr : d.isReady i = true) : CRecent f (go act c d i).d (go act c d i).c := by
  cases c with
  | none => cases hc
  | some c =>
    obtain ⟨m, es⟩ := c
    have hh : Recent f d m es := hc
    have hwt := ready_waits hr
    have hI := ready_ins hw h hi hr
    have hnd : (d.st i).isDone = false := by rw [hwt]; rfl
    unfold go
    split
    · exact hh.fail hwt
    · rename_i xs hx
      have e := hI.1 xs hx
      have ek : Kp.key (d.rule i).kind (d.rule i).word xs = kkey f (d.rule i) := by unfold kkey; rw [e]
      rw [ek]
      split
      · rename_i s hs
        have hs' : Cf.find es (kkey f (d.rule i)) = some s := hs
        have : Cf.get m es (kkey f (d.rule i)) = Cf.put m es (kkey f (d.rule i)) s := by unfold Cf.get; rw [hs']
        show Recent f _ m (Cf.get m es (kkey f (d.rule i)))
        rw [this]
        exact hh.put hi s s true hnd
      · split
        · exact hh.put hi _ _ false hnd
        · exact hh.fail hwt
theorem allF_recent {act : Act} {N : Nat → Prop} {f : List UInt8 → List UInt8 × Nat} : ∀ (n : Nat) {c : Ca} {d : Bd}, Wanted act d.fs d.l N f → (∀ k (hk : k < d.l.length), mkr d.l d.l[k].out = some k) → CSound act c → Makes act N f d → CRecent f d c → CRecent f (allF act n c d).1 (allF act n c d).2
  | 0, _, _, _, _, _, _, hc => hc
  | n + 1, c, d, hw, hA, hs, h, hc => by
    unfold allF
    cases hr : d.ready with
    | nil => exact hc
    | cons i r =>
      have hm := mem_ready.1 (show i ∈ d.ready by rw [hr]; simp)
      obtain ⟨g1, g2⟩ := go_makes hw hA hs h hm.1 hm.2
      obtain ⟨e1, e2⟩ := go_same act c d i
      have hw' : Wanted act (go act c d i).d.fs (go act c d i).d.l N f := by rw [e1, e2]; exact hw
      have hA' : ∀ k (hk : k < (go act c d i).d.l.length), mkr (go act c d i).d.l (go act c d i).d.l[k].out = some k := by rw [e1]; exact hA
      exact allF_recent n hw' hA' g2 g1 (go_recent hw h hc hm.1 hm.2)
theorem Going.fullR {fs : Tf.Fs} {l : List Ru} {o : List Nat} (hs : Sheet fs l o) {d : Bd} {m : Nat} {es : Cf.Ens} (h : Going fs l o d (some (m, es))) (hw : d.waits = 0) (hh : CRecent (want Af.actO fs l) d (some (m, es))) : Full Af.actO (want Af.actO fs l) l (some (m, es)) := by
  have hh' : Recent (want Af.actO fs l) d m es := hh
  obtain ⟨old, rec, e, _, h2⟩ := hh'.parts
  refine ⟨hh'.ok, fun k hk h0 => ?_⟩
  have hr := hs.rule hk
  have hrule : d.rule k = l.getD k ⟨[], [], [], []⟩ := by unfold Bd.rule; rw [h.hl]
  rw [← hrule, e, keys_app, List.mem_append]
  refine .inr (h2 k ?_)
  rw [(h.result hs hw hk).2, hr]
  exact decide_eq_true h0
end Bf
namespace Tf
theorem rises_ext : ∀ {a b : Fs}, Rises a → Rises b → (∀ p, get a p = get b p) → a = b
  | [], [], _, _, _ => rfl
  | [], y :: b, _, _, h => by
    have := h y.1
    simp [get] at this
  | x :: a, [], _, _, h => by
    have := h x.1
    simp [get] at this
  | x :: a, y :: b, ha, hb, h => by
    have ha' := List.pairwise_cons.1 ha
    have hb' := List.pairwise_cons.1 hb
    have hne : ∀ {u v : List UInt8}, bytesBefore u v = true → u ≠ v := fun hu e => by
      rw [e, WideAt.bytes_irrefl] at hu; cases hu
    have hx : ∀ (z : List UInt8 × List UInt8) (t : Fs), (∀ w ∈ t, bytesBefore z.1 w.1 = true) → get (z :: t) z.1 = some z.2 ∧ ∀ p, p ≠ z.1 → get (z :: t) p = get t p := fun z t _ => by
      refine ⟨by simp [get], fun p hp => ?_⟩
      unfold get
      rw [List.find?_cons_of_neg (by simpa using fun e : z.1 = p => hp e.symm)]
    have hlow : ∀ (t : Fs) (q : List UInt8), (∀ w ∈ t, bytesBefore q w.1 = true) → get t q = none := fun t q hq => by
      unfold get
      rw [List.find?_eq_none.2 fun w hw => by
        have := hne (hq w hw)
        simpa using fun e : w.1 = q => this e.symm]
      rfl
    have hxy : x.1 = y.1 := by
      refine Classical.byContradiction fun hn => ?_
      rcases WideAt.bytes_total x.1 y.1 hn with h1 | h1
      · have e1 := h x.1
        rw [(hx x a ha'.1).1, (hx y b hb'.1).2 _ (hne h1), hlow b x.1 fun w hw => WideShapes.bytes_trans _ _ _ h1 (hb'.1 w hw)] at e1
        cases e1
      · have e1 := h y.1
        rw [(hx y b hb'.1).1, (hx x a ha'.1).2 _ (hne h1), hlow a y.1 fun w hw => WideShapes.bytes_trans _ _ _ h1 (ha'.1 w hw)] at e1
        cases e1
    have e2 := h x.1
    rw [(hx x a ha'.1).1, hxy, (hx y b hb'.1).1] at e2
    have exy : x = y := Prod.ext hxy (by simpa using e2)
    subst exy
    have := rises_ext ha'.2 hb'.2 fun p => by
      by_cases hp : p = x.1
      · subst hp
        rw [hlow a x.1 ha'.1, hlow b x.1 hb'.1]
      · have := h p
        rwa [(hx x a ha'.1).2 p hp, (hx x b hb'.1).2 p hp] at this
    rw [this]
end Tf
end Go.Proofs.YtgdjgohiaffejaaGreatDoor
namespace Go.Proofs.YtgdjgohiaffejaaGreatDoor
namespace Tf
theorem get_ins_same (p b : List UInt8) : ∀ fs : Fs, (∀ f ∈ fs, f.1 ≠ p) → get (ins (p, b) fs) p = some b
  | [], _ => by simp [ins, get]
  | y :: r, h => by
    have ih := get_ins_same p b r fun f hf => h f (List.mem_cons_of_mem _ hf)
    unfold ins
    split
    · simp [get]
    · unfold get at ih ⊢
      rw [List.find?_cons_of_neg (by simpa using h y (by simp))]
      exact ih
theorem del_ne (fs : Fs) (p : List UInt8) : ∀ f ∈ del fs p, f.1 ≠ p := fun f hf => by
  unfold del at hf
  have := (List.mem_filter.1 hf).2
  simpa using this
theorem get_put_same (fs : Fs) (p b : List UInt8) : get (put fs p b) p = some b := get_ins_same p b _ (del_ne fs p)
theorem get_del_same (fs : Fs) (p : List UInt8) : get (del fs p) p = none := by
  unfold get
  rw [List.find?_eq_none.2 fun f hf => by simpa using del_ne fs p f hf]
  rfl
end Tf
namespace Bf
def outS (l : List Ru) (d : Bd) (t : Tf.Fs) (i : Nat) : Tf.Fs :=
  match d.st i with
  | .done s _ => Tf.putF pathB t (l.getD i ⟨[], [], [], []⟩).out s
  | .failed _ => Tf.del t (l.getD i ⟨[], [], [], []⟩).out
  | .left => Tf.del t (l.getD i ⟨[], [], [], []⟩).out
  | _ => t
def outW (l : List Ru) (d : Bd) (o : List Nat) (t : Tf.Fs) : Tf.Fs := o.foldl (outS l d) t
theorem outS_well {l : List Ru} {d : Bd} {t : Tf.Fs} (h : Tf.Well pathB t) (i : Nat) : Tf.Well pathB (outS l d t i) := by
  unfold outS
  split
  · exact h.putF _ _
  · exact h.del _
  · exact h.del _
  · exact h
theorem outW_well {l : List Ru} {d : Bd} : ∀ (o : List Nat) {t : Tf.Fs}, Tf.Well pathB t → Tf.Well pathB (outW l d o t)
  | [], _, h => h
  | i :: r, _, h => outW_well (l := l) (d := d) r (outS_well h i)
def Outs (l : List Ru) (t : Tf.Fs) : Prop := ∀ f ∈ t, ∃ i, ∃ hi : i < l.length, f.1 = l[i].out
theorem outS_outs {l : List Ru} {d : Bd} {t : Tf.Fs} (h : Outs l t) {i : Nat} (hi : i < l.length) : Outs l (outS l d t i) := by
  unfold outS
  rw [getD_at hi]
  have hdel : Outs l (Tf.del t l[i].out) := fun f hf => h f ((List.mem_filter.1 hf).1)
  split
  · intro f hf
    rcases Tf.putF_mem hf with h1 | h1
    · exact h f h1
    · exact ⟨i, hi, by rw [h1]⟩
  · exact hdel
  · exact hdel
  · exact h
theorem outW_outs {l : List Ru} {d : Bd} : ∀ (o : List Nat), (∀ i ∈ o, i < l.length) → ∀ {t : Tf.Fs}, Outs l t → Outs l (outW l d o t)
  | [], _, _, h => h
  | i :: r, ho, _, h => outW_outs (l := l) (d := d) r (fun k hk => ho k (List.mem_cons_of_mem _ hk)) (outS_outs h (ho i (by simp)))
def Flat (l : List Ru) : Prop := ∀ i k (hi : i < l.length) (hk : k < l.length), Tf.above l[i].out l[k].out = false
theorem out_takes {l : List Ru} (hf : (Ru.fault l).1 = 0) (hl : Flat l) {t : Tf.Fs} (hw : Tf.Well pathB t) (ho : Outs l t) {i : Nat} (hi : i < l.length) {s : List UInt8} (hs : s.length ≤ 2000) : Tf.putCode pathB t l[i].out s = 0 := by
  obtain ⟨h40, -⟩ := Ru.fault_ok hf
  have hp : pathB l[i].out = true := by
    have he : Ru.errAt l i = 0 := by
      unfold Ru.fault at hf
      rw [if_neg (by omega)] at hf
      cases hfi : Ru.first (Ru.errAt l) l.length with
      | none => exact Ru.first_none_zero hfi i hi
      | some k =>
        rw [hfi] at hf
        exact absurd hf (Ru.first_some_ne hfi)
    rw [Ru.errAt_eq hi] at he
    have her : l[i].err = 0 := by
      by_cases hz : l[i].err = 0
      · exact hz
      · rw [if_pos hz] at he; exact absurd he hz
    unfold Ru.err at her
    cases hpb : pathB l[i].out with
    | true => rfl
    | false => rw [if_pos hpb] at her; cases her
  unfold Tf.putCode
  rw [if_neg (by rw [hp]; simp), if_neg (by omega)]
  by_cases hh : Tf.hasP t l[i].out = true
  · rw [if_pos hh]
  · rw [if_neg hh]
    have hc : Tf.clash t l[i].out = false := by
      unfold Tf.clash
      rw [List.any_eq_false]
      intro f hfm
      obtain ⟨k, hk, e⟩ := ho f hfm
      rw [e, hl k i hk hi, hl i k hi hk]
      simp
    rw [hc, if_neg (by simp)]
    have hlen : t.length ≤ l.length := by
      have hnd : (t.map (·.1)).Nodup := by
        have : t.Pairwise (fun a b => a.1 ≠ b.1) := hw.rises.imp fun h e => by
          rw [e, WideAt.bytes_irrefl] at h; cases h
        rw [List.nodup_iff_pairwise_ne, List.pairwise_map]
        exact this
      have := Cf.nodup_len (b := l.map Ru.out) hnd fun x hx => by
        obtain ⟨f, hf, e⟩ := List.mem_map.1 hx
        obtain ⟨k, hk, e2⟩ := ho f hf
        rw [← e, e2]
        exact List.mem_map.2 ⟨_, List.getElem_mem hk, rfl⟩
      simpa using this
    rw [if_neg (by omega)]
def outG (d : Bd) (i : Nat) : Option (List UInt8) := match d.st i with | .done s _ => some s | _ => none
theorem outS_get {l : List Ru} (hf : (Ru.fault l).1 = 0) (hl : Flat l) {d : Bd} (hd : Fit d) (hst : ∀ k, k < l.length → (d.st k).isDone = true ∨ (d.st k).isFailed = true ∨ (d.st k).isLeft = true) {t : Tf.Fs} (hw : Tf.Well pathB t) (ho : Outs l t) {i : Nat} (hi : i < l.length) (x : List UInt8) :
    Tf.get (outS l d t i) x = if x = l[i].out then outG d i else Tf.get t x := by
  have hs := hst i hi
  have hdel : Tf.get (Tf.del t l[i].out) x = if x = l[i].out then none else Tf.get t x := by
    by_cases e : x = l[i].out
    · subst e; rw [if_pos rfl, Tf.get_del_same]
    · rw [if_neg e, Tf.get_del fun h => e h.symm]
  unfold outS outG
  rw [getD_at hi]
  cases hsi : d.st i with
  | no => rw [hsi] at hs; simp [St.isDone, St.isFailed, St.isLeft] at hs
  | waits => rw [hsi] at hs; simp [St.isDone, St.isFailed, St.isLeft] at hs
  | failed c => exact hdel
  | left => exact hdel
  | done s b =>
    simp only
    have hlen : s.length ≤ 2000 := by
      have := hd.outs i
      rwa [hsi] at this
    by_cases e : x = l[i].out
    · subst e
      rw [if_pos rfl]
      unfold Tf.putF
      rw [if_pos (out_takes hf hl hw ho hi hlen), Tf.get_put_same]
    · rw [if_neg e, Tf.get_putF fun h => e h.symm]
theorem outW_get {l : List Ru} (hf : (Ru.fault l).1 = 0) (hl : Flat l) {d : Bd} (hd : Fit d) (hst : ∀ k, k < l.length → (d.st k).isDone = true ∨ (d.st k).isFailed = true ∨ (d.st k).isLeft = true) : ∀ (o : List Nat), (∀ i ∈ o, i < l.length) → ∀ {t : Tf.Fs}, Tf.Well pathB t → Outs l t → ∀ x, (∀ i (hi : i < l.length), i ∈ o → l[i].out = x → Tf.get (outW l d o t) x = outG d i) ∧ ((∀ i (hi : i < l.length), i ∈ o → l[i].out ≠ x) → Tf.get (outW l d o t) x = Tf.get t x)
  | [], _, t, _, _, x => ⟨fun i _ h => by simp at h, fun _ => rfl⟩
  | j :: r, ho, t, hw, hout, x => by
    have hj := ho j (by simp)
    have hr := fun i hi => ho i (List.mem_cons_of_mem j hi)
    obtain ⟨h1, h2⟩ := outW_get hf hl hd hst r hr (outS_well (l := l) (d := d) hw j) (outS_outs (d := d) hout hj) x
    obtain ⟨-, hA⟩ := Ru.fault_ok hf
    have hg := outS_get hf hl hd hst hw hout hj x
    show (∀ i (hi : i < l.length), i ∈ j :: r → l[i].out = x → Tf.get (outW l d r (outS l d t j)) x = outG d i) ∧ ((∀ i (hi : i < l.length), i ∈ j :: r → l[i].out ≠ x) → Tf.get (outW l d r (outS l d t j)) x = Tf.get t x)
    refine ⟨fun i hi hm e => ?_, fun hn => ?_⟩
    · by_cases hir : i ∈ r
      · exact h1 i hi hir e
      · have hij : i = j := by
          rcases List.mem_cons.1 hm with h | h
          · exact h
          · exact absurd h hir
        subst hij
        rw [h2 fun k hk hkr e2 => hir (by
          have := hA k i hk hi (by rw [e2, e])
          rwa [this] at hkr), hg, if_pos e.symm]
    · rw [h2 fun k hk hkr => hn k hk (List.mem_cons_of_mem _ hkr), hg, if_neg fun e => hn j hj (by simp) e.symm]
theorem outW_same {fs : Tf.Fs} {l : List Ru} {o : List Nat} (hs : Sheet fs l o) (hl : Flat l) {d d' : Bd} {c c' : Ca} (h : Going fs l o d c) (hw : d.waits = 0) (h' : Going fs l o d' c') (hw' : d'.waits = 0) {p : List Nat} (hp : ∀ i ∈ p, i < l.length) (hall : ∀ i, i < l.length → i ∈ p) {t t' : Tf.Fs} (ht : Tf.Well pathB t) (ho : Outs l t) (ht' : Tf.Well pathB t') (ho' : Outs l t') : outW l d p t = outW l d' p t' := by
  have e1 : ∀ k, k < l.length → (d.st k).isDone = true ∨ (d.st k).isFailed = true ∨ (d.st k).isLeft = true := fun k hk => (h.good.ends hw (by rw [h.hl]; exact hk)).1
  have e2 : ∀ k, k < l.length → (d'.st k).isDone = true ∨ (d'.st k).isFailed = true ∨ (d'.st k).isLeft = true := fun k hk => (h'.good.ends hw' (by rw [h'.hl]; exact hk)).1
  have hg : ∀ k, k < l.length → outG d k = outG d' k := fun k hk => by
    have r1 := h.result hs hw hk
    have r2 := h'.result hs hw' hk
    have hd : (d.st k).isDone = (d'.st k).isDone := r1.2.trans r2.2.symm
    have ho : (d.st k).out = (d'.st k).out := r1.1.trans r2.1.symm
    unfold outG
    cases hk1 : d.st k <;> cases hk2 : d'.st k <;> rw [hk1, hk2] at hd ho <;> first | rfl | (cases hd; done) | (simp [St.out] at ho; rw [ho])
  refine Tf.rises_ext (outW_well p ht).rises (outW_well p ht').rises fun x => ?_
  obtain ⟨a1, a2⟩ := outW_get hs.fine hl h.fit e1 p hp ht ho x
  obtain ⟨b1, b2⟩ := outW_get hs.fine hl h'.fit e2 p hp ht' ho' x
  by_cases hx : ∃ i, ∃ hi : i < l.length, l[i].out = x
  · obtain ⟨i, hi, e⟩ := hx
    rw [a1 i hi (hall i hi) e, b1 i hi (hall i hi) e, hg i hi]
  · have hn : ∀ i (hi : i < l.length), i ∈ p → l[i].out ≠ x := fun i hi _ e => hx ⟨i, hi, e⟩
    rw [a2 hn, b2 hn]
    have hno : ∀ {u : Tf.Fs}, Outs l u → Tf.get u x = none := fun {u} hu => by
      unfold Tf.get
      rw [List.find?_eq_none.2 fun f hf => by
        obtain ⟨i, hi, e⟩ := hu f hf
        have : f.1 ≠ x := fun e2 => hx ⟨i, hi, by rw [← e, e2]⟩
        simpa using this]
      rfl
    rw [hno ho, hno ho']
theorem outW_fresh {fs : Tf.Fs} {l : List Ru} {o : List Nat} (hs : Sheet fs l o) (hl : Flat l) {d : Bd} {c : Ca} (h : Going fs l o d c) (hw : d.waits = 0) {p : List Nat} (hp : ∀ i ∈ p, i < l.length) (hall : ∀ i, i < l.length → i ∈ p) {t : Tf.Fs} (ht : Tf.Well pathB t) (ho : Outs l t) {i : Nat} (hi : i < l.length) : Tf.get (outW l d p t) l[i].out = if (want Af.actO fs l l[i].out).2 = 0 then some (want Af.actO fs l l[i].out).1 else none := by
  have e1 : ∀ k, k < l.length → (d.st k).isDone = true ∨ (d.st k).isFailed = true ∨ (d.st k).isLeft = true := fun k hk => (h.good.ends hw (by rw [h.hl]; exact hk)).1
  obtain ⟨a1, -⟩ := outW_get hs.fine hl h.fit e1 p hp ht ho l[i].out
  rw [a1 i hi (hall i hi) rfl]
  have r1 := h.result hs hw hi
  unfold outG
  cases hk : d.st i with
  | done s b =>
    rw [hk] at r1
    have : (want Af.actO fs l l[i].out).2 = 0 := by simpa [St.isDone] using r1.2
    rw [if_pos this, ← r1.1]; rfl
  | no => rw [hk] at r1; rw [if_neg (by simpa [St.isDone] using r1.2)]
  | waits => rw [hk] at r1; rw [if_neg (by simpa [St.isDone] using r1.2)]
  | failed e => rw [hk] at r1; rw [if_neg (by simpa [St.isDone] using r1.2)]
  | left => rw [hk] at r1; rw [if_neg (by simpa [St.isDone] using r1.2)]
end Bf
end Go.Proofs.YtgdjgohiaffejaaGreatDoor
namespace Go.Proofs.YtgdjgohiaffejaaGreatDoor
open Go.RowKit Go.Shelf Go.Lib
namespace Bf
def off (fs os : Tf.Fs) (l : List Ru) (p : List UInt8) : Bool := Tf.get os p != (if (want Af.actO fs l p).2 = 0 then some (want Af.actO fs l p).1 else none)
def stale (fs os : Tf.Fs) (l : List Ru) : List (List UInt8) := Af.srt ((l.map Ru.out).filter (off fs os l))
end Bf
end Go.Proofs.YtgdjgohiaffejaaGreatDoor
namespace Go.Proofs.YtgdjgohiaffejaaGreatDoor
open Go.RowKit Go.Shelf Go.Lib
namespace Bf
theorem stale_none {fs : Tf.Fs} {l : List Ru} {o : List Nat} (hs : Sheet fs l o) (hl : Flat l) {d : Bd} {c : Ca} (h : Going fs l o d c) (hw : d.waits = 0) {p : List Nat} (hp : ∀ i ∈ p, i < l.length) (hall : ∀ i, i < l.length → i ∈ p) {t : Tf.Fs} (ht : Tf.Well pathB t) (ho : Outs l t) : stale fs (outW l d p t) l = [] := by
  unfold stale
  rw [List.filter_eq_nil_iff.2 fun x hx => ?_]
  · exact srt_nil
  · obtain ⟨r, hr, rfl⟩ := List.mem_map.1 hx
    obtain ⟨i, hi, rfl⟩ := List.getElem_of_mem hr
    unfold off
    rw [outW_fresh hs hl h hw hp hall ht ho hi]
    simp
def whole (l : List Ru) (outs : List (List UInt8)) : List (List UInt8) := if outs = [] then l.map Ru.out else outs
theorem whole_len {l : List Ru} {outs : List (List UInt8)} {n : Nat} (h : l.length ≤ n) (h' : outs.length ≤ n) : (whole l outs).length ≤ n := by
  unfold whole
  split
  · simpa using h
  · exact h'
structure Yd where
  fs : Tf.Fs
  os : Tf.Fs
  l : List Ru
  c : Ca
noncomputable def Yd.made (y : Yd) (outs : List (List UInt8)) : Bd × Ca := all Af.actO y.c (init y.fs y.l (whole y.l outs))
noncomputable def Yd.make (y : Yd) (outs : List (List UInt8)) : Yd :=
  { y with os := outW y.l (y.made outs).1 ((Ru.order y.l fun _ => true).getD []) y.os, c := (y.made outs).2 }
end Bf
end Go.Proofs.YtgdjgohiaffejaaGreatDoor
namespace Go.Proofs.YtgdjgohiaffejaaGreatDoor
namespace Bf
def layS (l : List Ru) (d : Bd) (t : Tf.Fs) (i : Nat) : Tf.Fs :=
  match d.st i with
  | .done s _ => Tf.putF pathB t (l.getD i ⟨[], [], [], []⟩).out s
  | _ => t
def layW (l : List Ru) (d : Bd) (o : List Nat) (t : Tf.Fs) : Tf.Fs := o.foldl (layS l d) t
def sweepS (l : List Ru) (d : Bd) (t : Tf.Fs) (i : Nat) : Tf.Fs :=
  if (d.st i).isBad = true then Tf.del t (l.getD i ⟨[], [], [], []⟩).out else t
def sweepW (l : List Ru) (d : Bd) (n : Nat) (t : Tf.Fs) : Tf.Fs := (List.range n).foldl (sweepS l d) t
def outP (l : List Ru) (d : Bd) (o : List Nat) (t : Tf.Fs) : Tf.Fs := sweepW l d l.length (layW l d o t)
theorem layS_well {l : List Ru} {d : Bd} {t : Tf.Fs} (h : Tf.Well pathB t) (i : Nat) : Tf.Well pathB (layS l d t i) := by
  unfold layS
  split
  · exact h.putF _ _
  · exact h
theorem layW_well {l : List Ru} {d : Bd} : ∀ (o : List Nat) {t : Tf.Fs}, Tf.Well pathB t → Tf.Well pathB (layW l d o t)
  | [], _, h => h
  | i :: r, _, h => layW_well (l := l) (d := d) r (layS_well h i)
theorem layW_snoc (l : List Ru) (d : Bd) (o : List Nat) (t : Tf.Fs) (i : Nat) : layW l d (o ++ [i]) t = layS l d (layW l d o t) i := by simp [layW]
theorem sweepW_succ (l : List Ru) (d : Bd) (n : Nat) (t : Tf.Fs) : sweepW l d (n + 1) t = sweepS l d (sweepW l d n t) n := by
  unfold sweepW
  rw [List.range_succ, List.foldl_append]
  rfl
theorem sweepS_well {l : List Ru} {d : Bd} {t : Tf.Fs} (h : Tf.Well pathB t) (i : Nat) : Tf.Well pathB (sweepS l d t i) := by
  unfold sweepS
  split
  · exact h.del _
  · exact h
theorem sweepW_well {l : List Ru} {d : Bd} {t : Tf.Fs} (h : Tf.Well pathB t) : ∀ n, Tf.Well pathB (sweepW l d n t)
  | 0 => h
  | n + 1 => by rw [sweepW_succ]; exact sweepS_well (sweepW_well h n) n
theorem outP_well {l : List Ru} {d : Bd} {o : List Nat} {t : Tf.Fs} (h : Tf.Well pathB t) : Tf.Well pathB (outP l d o t) := sweepW_well (layW_well o h) _
theorem layS_outs {l : List Ru} {d : Bd} {t : Tf.Fs} (h : Outs l t) {i : Nat} (hi : i < l.length) : Outs l (layS l d t i) := by
  unfold layS
  rw [getD_at hi]
  split
  · intro f hf
    rcases Tf.putF_mem hf with h1 | h1
    · exact h f h1
    · exact ⟨i, hi, by rw [h1]⟩
  · exact h
theorem layS_get {l : List Ru} (hf : (Ru.fault l).1 = 0) (hl : Flat l) {d : Bd} (hd : Fit d) {t : Tf.Fs} (hw : Tf.Well pathB t) (ho : Outs l t) {i : Nat} (hi : i < l.length) (x : List UInt8) :
    Tf.get (layS l d t i) x = if x = l[i].out ∧ (d.st i).isDone = true then outG d i else Tf.get t x := by
  unfold layS outG
  rw [getD_at hi]
  cases hsi : d.st i with
  | no => simp [St.isDone]
  | waits => simp [St.isDone]
  | failed c => simp [St.isDone]
  | left => simp [St.isDone]
  | done s b =>
    simp only [St.isDone, and_true]
    have hlen : s.length ≤ 2000 := by
      have := hd.outs i
      rwa [hsi] at this
    by_cases e : x = l[i].out
    · subst e
      rw [if_pos rfl]
      unfold Tf.putF
      rw [if_pos (out_takes hf hl hw ho hi hlen), Tf.get_put_same]
    · rw [if_neg e, Tf.get_putF fun h => e h.symm]
theorem layW_get {l : List Ru} (hf : (Ru.fault l).1 = 0) (hl : Flat l) {d : Bd} (hd : Fit d) : ∀ (o : List Nat), (∀ i ∈ o, i < l.length) → ∀ {t : Tf.Fs}, Tf.Well pathB t → Outs l t → ∀ x, (∀ i (hi : i < l.length), i ∈ o → l[i].out = x → (d.st i).isDone = true → Tf.get (layW l d o t) x = outG d i) ∧ ((∀ i (hi : i < l.length), i ∈ o → l[i].out = x → (d.st i).isDone = false) → Tf.get (layW l d o t) x = Tf.get t x)
  | [], _, t, _, _, x => ⟨fun i _ h => by simp at h, fun _ => rfl⟩
  | j :: r, ho, t, hw, hout, x => by
    have hj := ho j (by simp)
    have hr := fun i hi => ho i (List.mem_cons_of_mem j hi)
    obtain ⟨h1, h2⟩ := layW_get hf hl hd r hr (layS_well (l := l) (d := d) hw j) (layS_outs (d := d) hout hj) x
    obtain ⟨-, hA⟩ := Ru.fault_ok hf
    have hg := layS_get hf hl hd hw hout hj x
    show (∀ i (hi : i < l.length), i ∈ j :: r → l[i].out = x → (d.st i).isDone = true → Tf.get (layW l d r (layS l d t j)) x = outG d i) ∧ ((∀ i (hi : i < l.length), i ∈ j :: r → l[i].out = x → (d.st i).isDone = false) → Tf.get (layW l d r (layS l d t j)) x = Tf.get t x)
    refine ⟨fun i hi hm e hdn => ?_, fun hn => ?_⟩
    · by_cases hir : i ∈ r
      · exact h1 i hi hir e hdn
      · have hij : i = j := by
          rcases List.mem_cons.1 hm with h | h
          · exact h
          · exact absurd h hir
        subst hij
        rw [h2 fun k hk hkr e2 => absurd (by
          have := hA k i hk hi (by rw [e2, e])
          rwa [this] at hkr) hir, hg, if_pos ⟨e.symm, hdn⟩]
    · rw [h2 fun k hk hkr => hn k hk (List.mem_cons_of_mem _ hkr), hg, if_neg fun e => ?_]
      have := hn j hj (by simp) e.1.symm
      rw [e.2] at this
      cases this
theorem sweepW_get {l : List Ru} (hf : (Ru.fault l).1 = 0) {d : Bd} {t : Tf.Fs} (x : List UInt8) : ∀ n, n ≤ l.length → (∀ i (hi : i < l.length), i < n → l[i].out = x → (d.st i).isBad = true → Tf.get (sweepW l d n t) x = none) ∧ ((∀ i (hi : i < l.length), i < n → l[i].out = x → (d.st i).isBad = false) → Tf.get (sweepW l d n t) x = Tf.get t x)
  | 0, _ => ⟨fun i _ h => by omega, fun _ => rfl⟩
  | n + 1, hn => by
    obtain ⟨h1, h2⟩ := sweepW_get hf (d := d) (t := t) x n (by omega)
    have hg : Tf.get (sweepS l d (sweepW l d n t) n) x = if x = l[n].out ∧ (d.st n).isBad = true then none else Tf.get (sweepW l d n t) x := by
      unfold sweepS
      rw [getD_at (by omega)]
      by_cases hb : (d.st n).isBad = true
      · rw [if_pos hb]
        by_cases e : x = l[n].out
        · rw [if_pos ⟨e, hb⟩, e, Tf.get_del_same]
        · rw [if_neg fun h => e h.1, Tf.get_del fun h => e h.symm]
      · rw [if_neg hb, if_neg fun h => hb h.2]
    obtain ⟨-, hA⟩ := Ru.fault_ok hf
    rw [sweepW_succ, hg]
    refine ⟨fun i hi hm e hb => ?_, fun hq => ?_⟩
    · split
      · rfl
      · rename_i hc
        refine h1 i hi ?_ e hb
        refine Nat.lt_of_le_of_ne (by omega) fun e2 => hc ?_
        subst e2
        exact ⟨e.symm, hb⟩
    · rw [if_neg fun h => ?_, h2 fun i hi hm e => hq i hi (by omega) e]
      have := hq n (by omega) (by omega) h.1.symm
      rw [h.2] at this
      cases this
theorem outP_is {l : List Ru} (hf : (Ru.fault l).1 = 0) (hl : Flat l) {d : Bd} (hd : Fit d) (hst : ∀ k, k < l.length → (d.st k).isDone = true ∨ (d.st k).isFailed = true ∨ (d.st k).isLeft = true) {o : List Nat} (ho : ∀ i ∈ o, i < l.length) (hall : ∀ i, i < l.length → i ∈ o) {t : Tf.Fs} (hw : Tf.Well pathB t) (hout : Outs l t) : outP l d o t = outW l d o t := by
  refine Tf.rises_ext (outP_well hw).rises (outW_well o hw).rises fun x => ?_
  obtain ⟨a1, a2⟩ := outW_get hf hl hd hst o ho hw hout x
  obtain ⟨b1, b2⟩ := layW_get hf hl hd o ho hw hout x
  obtain ⟨c1, c2⟩ := sweepW_get hf (d := d) (t := layW l d o t) x l.length (Nat.le_refl _)
  obtain ⟨-, hA⟩ := Ru.fault_ok hf
  unfold outP
  by_cases hx : ∃ i, ∃ hi : i < l.length, l[i].out = x
  · obtain ⟨i, hi, e⟩ := hx
    have huni : ∀ k (hk : k < l.length), l[k].out = x → k = i := fun k hk ek => hA k i hk hi (by rw [ek, e])
    rw [a1 i hi (hall i hi) e]
    by_cases hdn : (d.st i).isDone = true
    · rw [c2 fun k hk _ ek => ?_, b1 i hi (hall i hi) e hdn]
      obtain rfl := huni k hk ek
      cases hs : d.st k with
      | done s b => rfl
      | no => rfl
      | waits => rfl
      | failed c => rw [hs] at hdn; cases hdn
      | left => rw [hs] at hdn; cases hdn
    · have hb : (d.st i).isBad = true := by
        have := hst i hi
        cases hs : d.st i <;> rw [hs] at this hdn <;> simp [St.isDone, St.isFailed, St.isLeft, St.isBad] at this hdn ⊢
      rw [c1 i hi hi e hb]
      unfold outG
      cases hs : d.st i with
      | done s b => rw [hs] at hdn; exact absurd rfl hdn
      | no => rfl
      | waits => rfl
      | failed c => rfl
      | left => rfl
  · have hn : ∀ i (hi : i < l.length), l[i].out ≠ x := fun i hi e => hx ⟨i, hi, e⟩
    rw [a2 fun i hi _ => hn i hi, c2 fun i hi _ e => absurd e (hn i hi), b2 fun i hi _ e => absurd e (hn i hi)]
end Bf
end Go.Proofs.YtgdjgohiaffejaaGreatDoor
namespace Go.Proofs.YtgdjgohiaffejaaGreatDoor
open Go.RowKit Go.Shelf Go.Lib
theorem CaAt.sameG {es : Nat → Addr} {At : (Nat → Prop) → World → Value → Nat → Cf.Ens → Prop} (HC : Caches0 es At) {SC : Nat → Prop} {W W' : World} {cv : Value} {c : Bf.Ca} (h : CaAt At SC W cv c) (hz : W.heap.size ≤ W'.heap.size) (hb : ∀ k, SC k → W'.heap[k]? = W.heap[k]?) : CaAt At SC W' cv c := by
  cases c with
  | none => exact h
  | some x => exact ⟨h.1, HC.same _ _ _ _ _ _ h.2 hz hb⟩
theorem CaAt.ltG {es : Nat → Addr} {At : (Nat → Prop) → World → Value → Nat → Cf.Ens → Prop} (HC : Caches0 es At) {SC : Nat → Prop} {W : World} {cv : Value} {c : Bf.Ca} (h : CaAt At SC W cv c) : ∀ k, SC k → k < W.heap.size := by
  cases c with
  | none => exact fun k hk => absurd hk (h.2 k)
  | some x => exact HC.lt _ _ _ _ _ h.2
structure Tri (At : (Nat → Prop) → World → Value → Nat → Cf.Ens → Prop) (BAt : (Nat → Prop) → World → Value → Value → Bf.Bd → Prop) (wB : World) (pa pb pd : Addr) (cv : Value) (da db dd : Bf.Bd) (c : Bf.Ca) (Sa Sb Sd SC : Nat → Prop) (wr : World) : Prop where
  a : BAt Sa wr (.pointer (some pa)) cv da
  b : BAt Sb wr (.pointer (some pb)) (.pointer none) db
  d : BAt Sd wr (.pointer (some pd)) cv dd
  c : CaAt At SC wr cv c
  ab : ∀ j, Sa j → ¬ Sb j
  ad : ∀ j, Sa j → ¬ Sd j
  ac : ∀ j, Sa j → ¬ SC j
  bd : ∀ j, Sb j → ¬ Sd j
  bc : ∀ j, Sb j → ¬ SC j
  dc : ∀ j, Sd j → ¬ SC j
  la : ∀ j, Sa j → wB.heap.size ≤ j
  lb : ∀ j, Sb j → wB.heap.size ≤ j
  ld : ∀ j, Sd j → wB.heap.size ≤ j
  lc : ∀ j, SC j → wB.heap.size ≤ j
  base : Below wB.heap.size wB wr
theorem Tri.below {es : Nat → Addr} {act : Bf.Act} {At : (Nat → Prop) → World → Value → Nat → Cf.Ens → Prop} {BAt : (Nat → Prop) → World → Value → Value → Bf.Bd → Prop} (HB : Builds es act At BAt) (HC : Caches0 es At) {wB : World} {pa pb pd : Addr} {cv : Value} {da db dd : Bf.Bd} {c : Bf.Ca} {Sa Sb Sd SC : Nat → Prop} {wr w' : World} (h : Tri At BAt wB pa pb pd cv da db dd c Sa Sb Sd SC wr) (hb : Below wr.heap.size wr w') : Tri At BAt wB pa pb pd cv da db dd c Sa Sb Sd SC w' :=
  ⟨HB.same _ _ _ _ _ _ h.a hb.size fun k hk => hb.block k (HB.lt _ _ _ _ _ h.a k hk), HB.same _ _ _ _ _ _ h.b hb.size fun k hk => hb.block k (HB.lt _ _ _ _ _ h.b k hk), HB.same _ _ _ _ _ _ h.d hb.size fun k hk => hb.block k (HB.lt _ _ _ _ _ h.d k hk), h.c.sameG HC hb.size fun k hk => hb.block k (h.c.ltG HC k hk), h.ab, h.ad, h.ac, h.bd, h.bc, h.dc, h.la, h.lb, h.ld, h.lc, below_then h.base hb⟩
theorem Tri.swap {At : (Nat → Prop) → World → Value → Nat → Cf.Ens → Prop} {BAt : (Nat → Prop) → World → Value → Value → Bf.Bd → Prop} {wB : World} {pa pb pd : Addr} {cv : Value} {da db dd : Bf.Bd} {c : Bf.Ca} {Sa Sb Sd SC : Nat → Prop} {wr : World} (h : Tri At BAt wB pa pb pd cv da db dd c Sa Sb Sd SC wr) : Tri At BAt wB pd pb pa cv dd db da c Sd Sb Sa SC wr :=
  ⟨h.d, h.b, h.a, h.c, fun j h1 h2 => h.bd j h2 h1, fun j h1 h2 => h.ad j h2 h1, h.dc, fun j h1 h2 => h.ab j h2 h1, h.bc, h.ac, h.ld, h.lb, h.la, h.lc, h.base⟩
theorem Tri.ran {es : Nat → Addr} {act : Bf.Act} {At : (Nat → Prop) → World → Value → Nat → Cf.Ens → Prop} {BAt : (Nat → Prop) → World → Value → Value → Bf.Bd → Prop} (HB : Builds es act At BAt) {wB : World} {pa pb pd : Addr} {cv : Value} {da da' db dd : Bf.Bd} {c c' : Bf.Ca} {Sa Sb Sd SC Sa' SC' : Nat → Prop} {wr w' : World} (h : Tri At BAt wB pa pb pd cv da db dd c Sa Sb Sd SC wr)
    (hO : Only (fun j => Sa j ∨ SC j) wr w') (ha : BAt Sa' w' (.pointer (some pa)) cv da') (hc : CaAt At SC' w' cv c') (hac : ∀ j, Sa' j → ¬ SC' j) (hS : ∀ j, Sa' j → Sa j ∨ wr.heap.size ≤ j) (hT : ∀ j, SC' j → SC j ∨ wr.heap.size ≤ j) : Tri At BAt wB pa pb pd cv da' db dd c' Sa' Sb Sd SC' w' := by
  have hbl := HB.lt _ _ _ _ _ h.b
  have hdl := HB.lt _ _ _ _ _ h.d
  have hz := h.base.size
  refine ⟨ha, HB.same _ _ _ _ _ _ h.b hO.size fun k hk => hO.block k (hbl k hk) fun e => e.elim (fun e => h.ab k e hk) (h.bc k hk), HB.same _ _ _ _ _ _ h.d hO.size fun k hk => hO.block k (hdl k hk) fun e => e.elim (fun e => h.ad k e hk) (h.dc k hk), hc, fun j h1 h2 => ?_, fun j h1 h2 => ?_, hac, h.bd, fun j h1 h2 => ?_, fun j h1 h2 => ?_, fun j hj => ?_, h.lb, h.ld, fun j hj => ?_, h.base.trans (hO.below (fun j hj => hj.elim (h.la j) (h.lc j)) hz)⟩
  · rcases hS j h1 with h3 | h3
    · exact h.ab j h3 h2
    · have := hbl j h2
      omega
  · rcases hS j h1 with h3 | h3
    · exact h.ad j h3 h2
    · have := hdl j h2
      omega
  · rcases hT j h2 with h3 | h3
    · exact h.bc j h1 h3
    · have := hbl j h1
      omega
  · rcases hT j h2 with h3 | h3
    · exact h.dc j h1 h3
    · have := hdl j h1
      omega
  · rcases hS j hj with h3 | h3
    · exact h.la j h3
    · omega
  · rcases hT j hj with h3 | h3
    · exact h.lc j h3
    · omega
theorem NewTells.err {es : Nat → Addr} {BAt : (Nat → Prop) → World → Value → Value → Bf.Bd → Prop} {n : Nat} {fs : Tf.Fs} {l : List Ru} {outs : List (List UInt8)} {cv : Value} {w : World} {bv ev : Value} (h : NewTells es BAt n fs l outs cv w bv ev) :
    (bv = .pointer none ∧ (∃ t x, ev = .iface t x) ∧ ¬ ((Ru.fault l).1 = 0 ∧ (∀ j (hj : j < outs.length), ∃ x ∈ l, x.out = outs[j]) ∧ (Ru.order l (Bf.need l outs)).isSome = true)) ∨
    ((Ru.fault l).1 = 0 ∧ (∀ j (hj : j < outs.length), ∃ x ∈ l, x.out = outs[j]) ∧ (Ru.order l (Bf.need l outs)).isSome = true ∧ ev = .nilIface ∧ ∃ p S, bv = .pointer (some p) ∧ BAt S w bv cv (Bf.init fs l outs) ∧ ∀ k, S k → n ≤ k) := by
  rcases h with ⟨h0, h1 | ⟨h1, k, hk, h2, h3, h4⟩ | ⟨h1, h2, h3, h4⟩⟩ | ⟨h1, h2, h3, h4, ⟨p, h5⟩, S, h6, h7⟩
  · exact .inl ⟨h0, h1.2.some h1.1, fun e => h1.1 e.1⟩
  · refine .inl ⟨h0, h4.some (by simp), fun e => ?_⟩
    obtain ⟨x, hx, ex⟩ := e.2.1 k hk
    exact h2 x hx ex
  · refine .inl ⟨h0, ⟨_, _, h4⟩, fun e => ?_⟩
    rw [h3] at e
    cases e.2.2
  · exact .inr ⟨h1, h2, h3, h4, p, S, h5, h6, h7⟩
end Go.Proofs.YtgdjgohiaffejaaGreatDoor
