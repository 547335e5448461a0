import Derived.Test.YtmhipgompplkdaaGreatDoorBS09
import Derived.Test.YtmhipgompplkdaaGreatDoorBS31
import Derived.Test.YtmhipgompplkdaaGreatDoorBS35
import Derived.Test.YtmhipgompplkdaaGreatDoorBS44
import Derived.Test.YtmhipgompplkdaaGreatDoorBS20
import Derived.Test.YtmhipgompplkdaaGreatDoorBS37
import Derived.Test.YtmhipgompplkdaaGreatDoorBS17
import Derived.Test.YtmhipgompplkdaaGreatDoorBS42
namespace Go.Proofs.YtmhipgompplkdaaGreatDoor
namespace Bf
structure Sheet (fs : Tf.Fs) (l : List Ru) (o : List Nat) : Prop where
  fine : (Ru.fault l).1 = 0
  order : Ru.order l (need l (l.map Ru.out)) = some o
theorem Sheet.topo {fs : Tf.Fs} {l : List Ru} {o : List Nat} (h : Sheet fs l o) : Ru.Topo l o ∧ o.Nodup ∧ (∀ i ∈ o, i < l.length) ∧ ∀ i, i < l.length → i ∈ o := by
  obtain ⟨h1, h2⟩ := Ru.order_some h.order
  obtain ⟨h3, h4⟩ := Ru.order_nodup h.order
  exact ⟨h1, h3, h4, fun i hi => h2 i hi (need_all hi)⟩
theorem Sheet.wanted {fs : Tf.Fs} {l : List Ru} {o : List Nat} (h : Sheet fs l o) : Wanted Af.actO fs l (inO o) (want Af.actO fs l) := want_is h.topo.1 h.topo.2.1 h.topo.2.2.1
theorem Sheet.at {fs : Tf.Fs} {l : List Ru} {o : List Nat} (h : Sheet fs l o) : ∀ k (hk : k < l.length), mkr l l[k].out = some k := fun k hk => by
  obtain ⟨-, hA⟩ := Ru.fault_ok h.fine
  unfold mkr
  rw [List.findIdx?_eq_some_iff_getElem]
  refine ⟨hk, by simp, fun j hj => ?_⟩
  have : l[j].out ≠ l[k].out := fun e => by
    have := hA j k (by omega) hk e
    omega
  simpa using this
theorem Sheet.some {fs : Tf.Fs} {l : List Ru} {o : List Nat} (h : Sheet fs l o) (x : List UInt8) : (Ru.order l (need l [x])).isSome = true := by
  cases ho : Ru.order l (need l [x]) with
  | some _ => rfl
  | none =>
    exfalso
    obtain ⟨i, t, hi, hw⟩ := Ru.order_none2 (Ru.need_closed l [x]) ho
    exact h.topo.1.none i t (h.topo.2.2.2 i (Ru.need_lt hi)) hw
theorem Sheet.rule {fs : Tf.Fs} {l : List Ru} {o : List Nat} (h : Sheet fs l o) {i : Nat} (hi : i < l.length) : want Af.actO fs l l[i].out = wrule Af.actO (want Af.actO fs l) (l.getD i ⟨[], [], [], []⟩) := h.wanted.rule _ i (h.at i hi) (h.topo.2.2.2 i hi)
structure Going (fs : Tf.Fs) (l : List Ru) (o : List Nat) (d : Bd) (c : Ca) : Prop where
  good : Good d
  fit : Fit d
  cfit : CFit c
  hl : d.l = l
  hfs : d.fs = fs
  makes : Makes Af.actO (inO o) (want Af.actO fs l) d
  sound : CSound Af.actO c
theorem Going.wanted {fs : Tf.Fs} {l : List Ru} {o : List Nat} (hs : Sheet fs l o) {d : Bd} {c : Ca} (h : Going fs l o d c) : Wanted Af.actO d.fs d.l (inO o) (want Af.actO fs l) := by rw [h.hfs, h.hl]; exact hs.wanted
theorem Going.at {fs : Tf.Fs} {l : List Ru} {o : List Nat} (hs : Sheet fs l o) {d : Bd} {c : Ca} (h : Going fs l o d c) : ∀ k (hk : k < d.l.length), mkr d.l d.l[k].out = some k := by rw [h.hl]; exact hs.at
theorem Going.init {fs : Tf.Fs} {l : List Ru} {o : List Nat} (hs : Sheet fs l o) (hf : ∀ f ∈ fs, f.2.length ≤ 2000) {c : Ca} (hc : CFit c) (hd : CSound Af.actO c) : Going fs l o (Bf.init fs l (l.map Ru.out)) c := by
  refine ⟨Good.init fun k => init_all k, init_fit hf, hc, rfl, rfl, Makes.init (fun k hk => ?_) (fun k => ?_), hd⟩
  · rw [init_all] at hk
    by_cases h : k < l.length
    · exact hs.topo.2.2.2 k h
    · rw [if_neg h] at hk; cases hk
  · rw [init_all]
    by_cases h : k < l.length
    · rw [if_pos h]; exact .inl rfl
    · rw [if_neg h]; exact .inr rfl
theorem Going.run {fs : Tf.Fs} {l : List Ru} {o : List Nat} (hs : Sheet fs l o) {d : Bd} {c : Ca} (h : Going fs l o d c) (i : Int) : Going fs l o (Bf.run Af.actO c d i).d (Bf.run Af.actO c d i).c := by
  have hm := run_makes (h.wanted hs) (h.at hs) h.sound h.makes i
  have hl := run_l Af.actO c d i
  have hf := run_fit actFit h.cfit h.fit i
  refine ⟨?_, hf.1, hf.2, hl.1.trans h.hl, hl.2.trans h.hfs, hm.1, hm.2⟩
  rcases run_cases Af.actO c d i with ⟨k, _, _, hr, e⟩ | ⟨e0, _, e⟩
  · rw [e]; exact h.good.go Af.actO c hr
  · rw [e]; exact h.good
theorem allF_good (act : Act) : ∀ (n : Nat) (c : Ca) (d : Bd), Good d → Good (allF act n c d).1
  | 0, _, _, h => h
  | n + 1, c, d, h => by
    unfold allF
    cases hr : d.ready with
    | nil => exact h
    | cons i r =>
      have hm := mem_ready.1 (show i ∈ d.ready by rw [hr]; simp)
      exact allF_good act n _ _ (h.go act c hm.2)
theorem allF_end (act : Act) : ∀ (n : Nat) (c : Ca) (d : Bd), d.waits < n → (allF act n c d).1.ready = []
  | 0, _, _, h => by omega
  | n + 1, c, d, h => by
    unfold allF
    cases hr : d.ready with
    | nil => exact hr
    | cons i r =>
      have hm := mem_ready.1 (show i ∈ d.ready by rw [hr]; simp)
      have := (go_less act c d i hm.1 hm.2).1
      exact allF_end act n _ _ (by omega)
theorem Going.all {fs : Tf.Fs} {l : List Ru} {o : List Nat} (hs : Sheet fs l o) {d : Bd} {c : Ca} (h : Going fs l o d c) : Going fs l o (Bf.all Af.actO c d).1 (Bf.all Af.actO c d).2 ∧ (Bf.all Af.actO c d).1.waits = 0 := by
  have hm := all_makes (h.wanted hs) (h.at hs) h.sound h.makes
  have hk := allF_keeps actFit (d.waits + 1) c d h.fit h.cfit
  have hg := allF_good Af.actO (d.waits + 1) c d h.good
  refine ⟨⟨hg, hk.2.2.1, hk.2.2.2, hm.2.2.1.trans h.hl, hm.2.2.2.trans h.hfs, hm.1, hm.2.1⟩, ?_⟩
  have he := allF_end Af.actO (d.waits + 1) c d (by omega)
  have hl : (Bf.all Af.actO c d).1.l = l := hm.2.2.1.trans h.hl
  refine many_none fun k hk => ?_
  rw [Bool.eq_false_iff]
  intro hw
  refine Good.ready hg (rank := fun i => o.idxOf i) (fun i k hn => ?_) hk hw he
  rw [show (allF Af.actO (d.waits + 1) c d).1.l = l from hl] at hn
  exact rank_order hs.order i k hn
theorem Going.result {fs : Tf.Fs} {l : List Ru} {o : List Nat} (hs : Sheet fs l o) {d : Bd} {c : Ca} (h : Going fs l o d c) (hw : d.waits = 0) {i : Nat} (hi : i < l.length) : (d.st i).out = (want Af.actO fs l l[i].out).1 ∧ (d.st i).isDone = decide ((want Af.actO fs l l[i].out).2 = 0) := by
  have he := (h.good.ends hw (k := i) (by rw [h.hl]; exact hi)).1
  have hr := hs.rule hi
  have hrule : d.rule i = l.getD i ⟨[], [], [], []⟩ := by unfold Bd.rule; rw [h.hl]
  cases hst : d.st i with
  | no => rw [hst] at he; simp [St.isDone, St.isFailed, St.isLeft] at he
  | waits => rw [hst] at he; simp [St.isDone, St.isFailed, St.isLeft] at he
  | done s b =>
    have := h.makes.done i s b hst
    rw [hrule, ← hr] at this
    rw [this]
    exact ⟨rfl, rfl⟩
  | failed e =>
    have := h.makes.bad i (by rw [hst]; rfl)
    rw [hrule, ← hr] at this
    refine ⟨(want_err this).symm, ?_⟩
    rw [decide_eq_false this]; rfl
  | left =>
    have := h.makes.bad i (by rw [hst]; rfl)
    rw [hrule, ← hr] at this
    refine ⟨(want_err this).symm, ?_⟩
    rw [decide_eq_false this]; rfl
theorem many_or {st : Nat → St} {p q r : St → Bool} : ∀ {n : Nat}, (∀ k, k < n → r (st k) = (p (st k) || q (st k)) ∧ (p (st k) && q (st k)) = false) → many st p n + many st q n = many st r n
  | 0, _ => rfl
  | n + 1, h => by
    have ih := many_or (st := st) (p := p) (q := q) (r := r) (n := n) fun k hk => h k (by omega)
    have h1 := h n (by omega)
    unfold many
    cases hp : p (st n) <;> cases hq : q (st n) <;> rw [hp, hq] at h1 <;> simp at h1 <;> simp [h1] <;> omega
theorem many_full {st : Nat → St} {p : St → Bool} : ∀ {n : Nat}, (∀ k, k < n → p (st k) = true) → many st p n = n
  | 0, _ => rfl
  | n + 1, h => by
    unfold many
    rw [many_full fun k hk => h k (by omega), h n (by omega)]
    rfl
theorem done_count (d : Bd) : d.ran + d.hits = many d.st St.isDone d.l.length := by
  unfold Bd.ran Bd.hits
  refine many_or fun k _ => ?_
  cases d.st k with
  | done s b => cases b <;> exact ⟨rfl, rfl⟩
  | no => exact ⟨rfl, rfl⟩
  | waits => exact ⟨rfl, rfl⟩
  | failed c => exact ⟨rfl, rfl⟩
  | left => exact ⟨rfl, rfl⟩
theorem Going.count {fs : Tf.Fs} {l : List Ru} {o : List Nat} {d : Bd} {c : Ca} (h : Going fs l o d c) (hw : d.waits = 0) : d.ran + d.hits + d.fails + d.lefts = l.length := by
  have h1 := done_count d
  have h2 : d.fails + d.lefts = many d.st St.isBad d.l.length := by
    unfold Bd.fails Bd.lefts
    refine many_or fun k _ => ?_
    cases d.st k <;> exact ⟨rfl, rfl⟩
  have h3 : many d.st St.isDone d.l.length + many d.st St.isBad d.l.length = many d.st (fun _ => true) d.l.length := by
    refine many_or fun k hk => ?_
    have := (h.good.ends hw hk).1
    cases hst : d.st k with
    | no => rw [hst] at this; simp [St.isDone, St.isFailed, St.isLeft] at this
    | waits => rw [hst] at this; simp [St.isDone, St.isFailed, St.isLeft] at this
    | done s b => exact ⟨rfl, rfl⟩
    | failed c => exact ⟨rfl, rfl⟩
    | left => exact ⟨rfl, rfl⟩
  have h4 : many d.st (fun _ => true) d.l.length = d.l.length := many_full fun _ _ => rfl
  rw [← h.hl]
  omega
theorem Going.dones {fs : Tf.Fs} {l : List Ru} {o : List Nat} (hs : Sheet fs l o) {d d' : Bd} {c c' : Ca} (h : Going fs l o d c) (hw : d.waits = 0) (h' : Going fs l o d' c') (hw' : d'.waits = 0) : d.ran + d.hits = d'.ran + d'.hits := by
  rw [done_count, done_count, h.hl, h'.hl]
  refine many_congr fun k hk => ?_
  rw [(h.result hs hw hk).2, (h'.result hs hw' hk).2]
theorem fresh_hits {d : Bd} (h : Fresh d) : d.hits = 0 := by
  unfold Bd.hits
  refine many_none fun k _ => ?_
  cases hst : d.st k with
  | done s b => rw [h k s b hst]; rfl
  | no => rfl
  | waits => rfl
  | failed c => rfl
  | left => rfl
theorem found_ran {d : Bd} (h : Found d) : d.ran = 0 := by
  unfold Bd.ran
  refine many_none fun k _ => ?_
  cases hst : d.st k with
  | done s b => rw [h k s b hst]; rfl
  | no => rfl
  | waits => rfl
  | failed c => rfl
  | left => rfl
theorem init_waits {fs : Tf.Fs} {l : List Ru} (k : Nat) : (∀ s b, (Bf.init fs l (l.map Ru.out)).st k ≠ .done s b) := fun s b e => by
  rw [init_all] at e
  split at e <;> cases e
theorem go_room (act : Act) (m : Nat) (es : Cf.Ens) (d : Bd) (i : Nat) : ∃ es', (go act (some (m, es)) d i).c = some (m, es') := by
  unfold go
  split
  · exact ⟨_, rfl⟩
  · split
    · exact ⟨_, rfl⟩
    · split
      · exact ⟨_, rfl⟩
      · exact ⟨_, rfl⟩
theorem run_room (act : Act) (m : Nat) (es : Cf.Ens) (d : Bd) (i : Int) : ∃ es', (Bf.run act (some (m, es)) d i).c = some (m, es') := by
  rcases run_cases act (some (m, es)) d i with ⟨k, _, _, _, e⟩ | ⟨_, _, e⟩
  · rw [e]; exact go_room act m es d k
  · rw [e]; exact ⟨_, rfl⟩
theorem allF_room (act : Act) : ∀ (n m : Nat) (es : Cf.Ens) (d : Bd), ∃ es', (allF act n (some (m, es)) d).2 = some (m, es')
  | 0, m, es, d => ⟨es, rfl⟩
  | n + 1, m, es, d => by
    unfold allF
    cases hr : d.ready with
    | nil => exact ⟨es, rfl⟩
    | cons i r =>
      obtain ⟨es', e⟩ := go_room act m es d i
      simp only
      rw [e]
      exact allF_room act n m es' _
theorem Going.full {fs : Tf.Fs} {l : List Ru} {o : List Nat} (hs : Sheet fs l o) {d : Bd} {m : Nat} {es : Cf.Ens} (h : Going fs l o d (some (m, es))) (hw : d.waits = 0) (hh : CHeld (want Af.actO fs l) d (some (m, es))) : Full Af.actO (want Af.actO fs l) l (some (m, es)) := by
  refine ⟨h.cfit.2.2.1, fun k hk h0 => ?_⟩
  have hr := hs.rule hk
  have hrule : d.rule k = l.getD k ⟨[], [], [], []⟩ := by unfold Bd.rule; rw [h.hl]
  rw [← hrule]
  refine hh.2.has k ?_
  rw [(h.result hs hw hk).2, hr]
  exact decide_eq_true h0
end Bf
end Go.Proofs.YtmhipgompplkdaaGreatDoor
namespace Go.Proofs.YtmhipgompplkdaaGreatDoor
open Go.RowKit Go.Shelf Go.Lib
theorem CaAt.sameG {es : Nat → Addr} {At : (Nat → Prop) → World → Value → Nat → Cf.Ens → Prop} (HC : Caches0 es At) {SC : Nat → Prop} {W W' : World} {cv : Value} {c : Bf.Ca} (h : CaAt At SC W cv c) (hz : W.heap.size ≤ W'.heap.size) (hb : ∀ k, SC k → W'.heap[k]? = W.heap[k]?) : CaAt At SC W' cv c := by
  cases c with
  | none => exact h
  | some x => exact ⟨h.1, HC.same _ _ _ _ _ _ h.2 hz hb⟩
theorem CaAt.ltG {es : Nat → Addr} {At : (Nat → Prop) → World → Value → Nat → Cf.Ens → Prop} (HC : Caches0 es At) {SC : Nat → Prop} {W : World} {cv : Value} {c : Bf.Ca} (h : CaAt At SC W cv c) : ∀ k, SC k → k < W.heap.size := by
  cases c with
  | none => exact fun k hk => absurd hk (h.2 k)
  | some x => exact HC.lt _ _ _ _ _ h.2
structure Tri (At : (Nat → Prop) → World → Value → Nat → Cf.Ens → Prop) (BAt : (Nat → Prop) → World → Value → Value → Bf.Bd → Prop) (wB : World) (pa pb pd : Addr) (cv : Value) (da db dd : Bf.Bd) (c : Bf.Ca) (Sa Sb Sd SC : Nat → Prop) (wr : World) : Prop where
  a : BAt Sa wr (.pointer (some pa)) cv da
  b : BAt Sb wr (.pointer (some pb)) (.pointer none) db
  d : BAt Sd wr (.pointer (some pd)) cv dd
  c : CaAt At SC wr cv c
  ab : ∀ j, Sa j → ¬ Sb j
  ad : ∀ j, Sa j → ¬ Sd j
  ac : ∀ j, Sa j → ¬ SC j
  bd : ∀ j, Sb j → ¬ Sd j
  bc : ∀ j, Sb j → ¬ SC j
  dc : ∀ j, Sd j → ¬ SC j
  la : ∀ j, Sa j → wB.heap.size ≤ j
  lb : ∀ j, Sb j → wB.heap.size ≤ j
  ld : ∀ j, Sd j → wB.heap.size ≤ j
  lc : ∀ j, SC j → wB.heap.size ≤ j
  base : Below wB.heap.size wB wr
theorem Tri.below {es : Nat → Addr} {act : Bf.Act} {At : (Nat → Prop) → World → Value → Nat → Cf.Ens → Prop} {BAt : (Nat → Prop) → World → Value → Value → Bf.Bd → Prop} (HB : Builds es act At BAt) (HC : Caches0 es At) {wB : World} {pa pb pd : Addr} {cv : Value} {da db dd : Bf.Bd} {c : Bf.Ca} {Sa Sb Sd SC : Nat → Prop} {wr w' : World} (h : Tri At BAt wB pa pb pd cv da db dd c Sa Sb Sd SC wr) (hb : Below wr.heap.size wr w') : Tri At BAt wB pa pb pd cv da db dd c Sa Sb Sd SC w' :=
  ⟨HB.same _ _ _ _ _ _ h.a hb.size fun k hk => hb.block k (HB.lt _ _ _ _ _ h.a k hk), HB.same _ _ _ _ _ _ h.b hb.size fun k hk => hb.block k (HB.lt _ _ _ _ _ h.b k hk), HB.same _ _ _ _ _ _ h.d hb.size fun k hk => hb.block k (HB.lt _ _ _ _ _ h.d k hk), h.c.sameG HC hb.size fun k hk => hb.block k (h.c.ltG HC k hk), h.ab, h.ad, h.ac, h.bd, h.bc, h.dc, h.la, h.lb, h.ld, h.lc, below_then h.base hb⟩
theorem Tri.swap {At : (Nat → Prop) → World → Value → Nat → Cf.Ens → Prop} {BAt : (Nat → Prop) → World → Value → Value → Bf.Bd → Prop} {wB : World} {pa pb pd : Addr} {cv : Value} {da db dd : Bf.Bd} {c : Bf.Ca} {Sa Sb Sd SC : Nat → Prop} {wr : World} (h : Tri At BAt wB pa pb pd cv da db dd c Sa Sb Sd SC wr) : Tri At BAt wB pd pb pa cv dd db da c Sd Sb Sa SC wr :=
  ⟨h.d, h.b, h.a, h.c, fun j h1 h2 => h.bd j h2 h1, fun j h1 h2 => h.ad j h2 h1, h.dc, fun j h1 h2 => h.ab j h2 h1, h.bc, h.ac, h.ld, h.lb, h.la, h.lc, h.base⟩
theorem Tri.ran {es : Nat → Addr} {act : Bf.Act} {At : (Nat → Prop) → World → Value → Nat → Cf.Ens → Prop} {BAt : (Nat → Prop) → World → Value → Value → Bf.Bd → Prop} (HB : Builds es act At BAt) {wB : World} {pa pb pd : Addr} {cv : Value} {da da' db dd : Bf.Bd} {c c' : Bf.Ca} {Sa Sb Sd SC Sa' SC' : Nat → Prop} {wr w' : World} (h : Tri At BAt wB pa pb pd cv da db dd c Sa Sb Sd SC wr)
    (hO : Only (fun j => Sa j ∨ SC j) wr w') (ha : BAt Sa' w' (.pointer (some pa)) cv da') (hc : CaAt At SC' w' cv c') (hac : ∀ j, Sa' j → ¬ SC' j) (hS : ∀ j, Sa' j → Sa j ∨ wr.heap.size ≤ j) (hT : ∀ j, SC' j → SC j ∨ wr.heap.size ≤ j) : Tri At BAt wB pa pb pd cv da' db dd c' Sa' Sb Sd SC' w' := by
  have hbl := HB.lt _ _ _ _ _ h.b
  have hdl := HB.lt _ _ _ _ _ h.d
  have hz := h.base.size
  refine ⟨ha, HB.same _ _ _ _ _ _ h.b hO.size fun k hk => hO.block k (hbl k hk) fun e => e.elim (fun e => h.ab k e hk) (h.bc k hk), HB.same _ _ _ _ _ _ h.d hO.size fun k hk => hO.block k (hdl k hk) fun e => e.elim (fun e => h.ad k e hk) (h.dc k hk), hc, fun j h1 h2 => ?_, fun j h1 h2 => ?_, hac, h.bd, fun j h1 h2 => ?_, fun j h1 h2 => ?_, fun j hj => ?_, h.lb, h.ld, fun j hj => ?_, h.base.trans (hO.below (fun j hj => hj.elim (h.la j) (h.lc j)) hz)⟩
  · rcases hS j h1 with h3 | h3
    · exact h.ab j h3 h2
    · have := hbl j h2
      omega
  · rcases hS j h1 with h3 | h3
    · exact h.ad j h3 h2
    · have := hdl j h2
      omega
  · rcases hT j h2 with h3 | h3
    · exact h.bc j h1 h3
    · have := hbl j h1
      omega
  · rcases hT j h2 with h3 | h3
    · exact h.dc j h1 h3
    · have := hdl j h1
      omega
  · rcases hS j hj with h3 | h3
    · exact h.la j h3
    · omega
  · rcases hT j hj with h3 | h3
    · exact h.lc j h3
    · omega
theorem Tri.ranB {es : Nat → Addr} {act : Bf.Act} {At : (Nat → Prop) → World → Value → Nat → Cf.Ens → Prop} {BAt : (Nat → Prop) → World → Value → Value → Bf.Bd → Prop} (HB : Builds es act At BAt) (HC : Caches0 es At) {wB : World} {pa pb pd : Addr} {cv : Value} {da db db' dd : Bf.Bd} {c : Bf.Ca} {Sa Sb Sd SC Sb' : Nat → Prop} {wr w' : World} (h : Tri At BAt wB pa pb pd cv da db dd c Sa Sb Sd SC wr)
    (hO : Only (fun j => Sb j ∨ False) wr w') (hb : BAt Sb' w' (.pointer (some pb)) (.pointer none) db') (hS : ∀ j, Sb' j → Sb j ∨ wr.heap.size ≤ j) : Tri At BAt wB pa pb pd cv da db' dd c Sa Sb' Sd SC w' := by
  have hal := HB.lt _ _ _ _ _ h.a
  have hdl := HB.lt _ _ _ _ _ h.d
  have hcl := h.c.ltG HC
  have hz := h.base.size
  refine ⟨HB.same _ _ _ _ _ _ h.a hO.size fun k hk => hO.block k (hal k hk) fun e => e.elim (h.ab k hk) id, hb, HB.same _ _ _ _ _ _ h.d hO.size fun k hk => hO.block k (hdl k hk) fun e => e.elim (fun e => h.bd k e hk) id, h.c.sameG HC hO.size fun k hk => hO.block k (hcl k hk) fun e => e.elim (fun e => h.bc k e hk) id, fun j h1 h2 => ?_, h.ad, h.ac, fun j h1 h2 => ?_, fun j h1 h2 => ?_, h.dc, h.la, fun j hj => ?_, h.ld, h.lc, h.base.trans (hO.below (fun j hj => hj.elim (h.lb j) False.elim) hz)⟩
  · rcases hS j h2 with h3 | h3
    · exact h.ab j h1 h3
    · have := hal j h1
      omega
  · rcases hS j h1 with h3 | h3
    · exact h.bd j h3 h2
    · have := hdl j h2
      omega
  · rcases hS j h1 with h3 | h3
    · exact h.bc j h3 h2
    · have := hcl j h2
      omega
  · rcases hS j hj with h3 | h3
    · exact h.lb j h3
    · omega
theorem NewTells.err {es : Nat → Addr} {BAt : (Nat → Prop) → World → Value → Value → Bf.Bd → Prop} {n : Nat} {fs : Tf.Fs} {l : List Ru} {outs : List (List UInt8)} {cv : Value} {w : World} {bv ev : Value} (h : NewTells es BAt n fs l outs cv w bv ev) :
    (bv = .pointer none ∧ (∃ t x, ev = .iface t x) ∧ ¬ ((Ru.fault l).1 = 0 ∧ (∀ j (hj : j < outs.length), ∃ x ∈ l, x.out = outs[j]) ∧ (Ru.order l (Bf.need l outs)).isSome = true)) ∨
    ((Ru.fault l).1 = 0 ∧ (∀ j (hj : j < outs.length), ∃ x ∈ l, x.out = outs[j]) ∧ (Ru.order l (Bf.need l outs)).isSome = true ∧ ev = .nilIface ∧ ∃ p S, bv = .pointer (some p) ∧ BAt S w bv cv (Bf.init fs l outs) ∧ ∀ k, S k → n ≤ k) := by
  rcases h with ⟨h0, h1 | ⟨h1, k, hk, h2, h3, h4⟩ | ⟨h1, h2, h3, h4⟩⟩ | ⟨h1, h2, h3, h4, ⟨p, h5⟩, S, h6, h7⟩
  · exact .inl ⟨h0, h1.2.some h1.1, fun e => h1.1 e.1⟩
  · refine .inl ⟨h0, h4.some (by simp), fun e => ?_⟩
    obtain ⟨x, hx, ex⟩ := e.2.1 k hk
    exact h2 x hx ex
  · refine .inl ⟨h0, ⟨_, _, h4⟩, fun e => ?_⟩
    rw [h3] at e
    cases e.2.2
  · exact .inr ⟨h1, h2, h3, h4, p, S, h5, h6, h7⟩
end Go.Proofs.YtmhipgompplkdaaGreatDoor
namespace Go.Proofs.YtmhipgompplkdaaGreatDoor
namespace Lb
abbrev fs : Tf.Fs := [([97], [120])]
abbrev r : Ru := ⟨[98], [117, 112, 112, 101, 114], [], [[97]]⟩
abbrev l : List Ru := [r]
abbrev outs : List (List UInt8) := [[98]]
abbrev key : List UInt8 := Kp.key [117, 112, 112, 101, 114] [] [[120]]
abbrev d : Bf.Bd := ⟨fs, l, fun k => if k = 0 then .waits else .no⟩
theorem fault0 : (Ru.fault l).1 = 0 := by kernel_rfl
theorem needs0 (i k : Nat) : Ru.needs l i k = false := by
  cases hn : Ru.needs l i k with
  | false => rfl
  | true =>
    obtain ⟨h1, h2⟩ := Ru.needs_lt hn
    obtain rfl : i = 0 := by simp at h1; omega
    obtain rfl : k = 0 := by simp at h2; omega
    have : Ru.needs l 0 0 = false := by decide
    rw [this] at hn
    cases hn
theorem needed : Ru.Needed l outs (fun k => decide (k = 0)) := by
  have hb : Ru.base l outs 0 = true := by decide
  refine ⟨fun k hk => ?_, fun i k _ h => ?_, fun P h1 _ k hk h => ?_⟩
  · cases k with
    | zero => rfl
    | succ k =>
      simp [Ru.base] at hk
  · rw [needs0] at h
    cases h
  · obtain rfl : k = 0 := by simp at hk; omega
    exact h1 0 hb
theorem need0 : Bf.need l outs 0 = true := by
  rw [Bf.need_eq needed (by decide)]
  rfl
theorem init0 : Bf.init fs l outs = d := by
  unfold Bf.init
  congr 1
  funext k
  by_cases h : k = 0
  · subst h
    rw [need0]
    rfl
  · rw [Bf.need_out (by simp; omega)]
    simp [h]
theorem order0 : (Ru.order l (Bf.need l outs)).isSome = true := by
  rw [Ru.order_congr2 (g := fun k => decide (k = 0)) fun k hk => Bf.need_eq needed hk]
  decide
theorem ready0 : d.isReady 0 = true := Bf.ready_of rfl fun k _ hn => by
  rw [show Ru.needs d.l 0 k = false from needs0 0 k] at hn
  cases hn
theorem act0 : Af.actO [117, 112, 112, 101, 114] [] [[120]] = ([88], 0) := by decide
theorem find1 (k b : List UInt8) : Cf.find [(k, b)] k = some b := by simp [Cf.find]
theorem get1 (k b : List UInt8) : Cf.get 3 [(k, b)] k = [(k, b)] := by
  unfold Cf.get
  rw [find1]
  simp [Cf.put, Cf.rm, Cf.cut]
theorem run1 : Bf.run Af.actO (some (3, [])) d 0 = ⟨false, 0, d.set 0 (.done [88] false), some (3, [(key, [88])])⟩ := by
  rw [show (0 : Int) = ((0 : Nat) : Int) from rfl, Bf.run_ready _ _ _ _ (by decide) ready0]
  unfold Bf.go
  have e1 : d.ins 0 = some [[120]] := by decide
  have e2 : d.rule 0 = r := rfl
  rw [e1]
  simp only [e2]
  have e3 : Bf.cfind (some (3, [])) (Kp.key r.kind r.word [[120]]) = none := rfl
  rw [e3]
  simp only
  rw [act0, if_pos rfl]
  rfl
theorem run2 : Bf.run Af.actO (some (3, [(key, [88])])) d 0 = ⟨true, 0, d.set 0 (.done [88] true), some (3, [(key, [88])])⟩ := by
  rw [show (0 : Int) = ((0 : Nat) : Int) from rfl, Bf.run_ready _ _ _ _ (by decide) ready0]
  unfold Bf.go
  have e1 : d.ins 0 = some [[120]] := by decide
  have e2 : d.rule 0 = r := rfl
  rw [e1]
  simp only [e2]
  have e3 : Bf.cfind (some (3, [(key, [88])])) (Kp.key r.kind r.word [[120]]) = some [88] := find1 _ _
  have e4 : Bf.cget (some (3, [(key, [88])])) (Kp.key r.kind r.word [[120]]) = some (3, [(key, [88])]) := congrArg (fun x => some (3, x)) (get1 _ _)
  rw [e3]
  simp only [e4]
theorem fit0 : Bf.Fit d := by
  refine ⟨fun f hf => ?_, fun k => ?_, fun k => ?_⟩
  · obtain rfl := List.mem_singleton.1 hf
    decide
  · show (if k = 0 then Bf.St.waits else .no).out.length ≤ 2000
    split <;> decide
  · show (if k = 0 then Bf.St.waits else .no).why ≤ 12
    split <;> decide
end Lb
end Go.Proofs.YtmhipgompplkdaaGreatDoor
namespace Go.Proofs.YtmhipgompplkdaaGreatDoor
open Go.RowKit Go.Shelf Go.Lib Go.Maps
theorem NewTells.get {es : Nat → Addr} {BAt : (Nat → Prop) → World → Value → Value → Bf.Bd → Prop} {n : Nat} {cv : Value} {w : World} {bv ev : Value} (h : NewTells es BAt n Lb.fs Lb.l Lb.outs cv w bv ev) : ev = .nilIface ∧ ∃ p S, bv = .pointer (some p) ∧ BAt S w bv cv Lb.d ∧ ∀ k, S k → n ≤ k := by
  rcases h with ⟨_, ⟨h1, _⟩ | ⟨_, k, hk, h2, _⟩ | ⟨_, _, h3, _⟩⟩ | ⟨_, _, _, h4, ⟨p, h5⟩, S, h6, h7⟩
  · exact absurd Lb.fault0 h1
  · obtain rfl : k = 0 := by simp at hk; omega
    exact absurd rfl (h2 Lb.r (by simp))
  · have := Lb.order0
    rw [h3] at this
    cases this
  · rw [Lb.init0] at h6
    exact ⟨h4, p, S, h5, h6, h7⟩
theorem lb_rises : Tf.Rises Lb.fs := by
  unfold Tf.Rises
  simp
theorem lb_small : ∀ x ∈ Lb.l, x.Small := fun x hx => by
  obtain rfl := List.mem_singleton.1 hx
  exact ⟨by decide, by decide, by decide, by decide, fun y hy => by obtain rfl := List.mem_singleton.1 hy; decide⟩
theorem lb_x (w : World) : XRow (w.alloc (.cells #[.string ⟨#[98]⟩] 9)) (.slice (some ⟨w.heap.size, 0, none⟩) 1 1) Lb.outs :=
  ⟨_, _, rfl, Nat.le_refl _, (fun e => by cases e), fun _ => ⟨_, _, rfl, by simp, fun j hj => by
    obtain rfl : j = 0 := by simp at hj; omega
    exact cell_of_row (j := 0) (row_new w (.cells #[.string ⟨#[98]⟩] 9)) rfl⟩⟩
theorem lb_rows (w : World) :
    RRow (((w.alloc (.cells #[.string ⟨#[97]⟩] 9)).alloc (.cells #[.string ⟨#[98]⟩, .string ⟨#[117, 112, 112, 101, 114]⟩, .string ⟨#[]⟩, .slice (some ⟨w.heap.size, 0, none⟩) 1 1] 90)).alloc (.cells #[.string ⟨#[98]⟩] 9)) (.slice (some ⟨w.heap.size + 1, 0, none⟩) 1 1) Lb.l ∧
    XRow (((w.alloc (.cells #[.string ⟨#[97]⟩] 9)).alloc (.cells #[.string ⟨#[98]⟩, .string ⟨#[117, 112, 112, 101, 114]⟩, .string ⟨#[]⟩, .slice (some ⟨w.heap.size, 0, none⟩) 1 1] 90)).alloc (.cells #[.string ⟨#[98]⟩] 9)) (.slice (some ⟨w.heap.size + 2, 0, none⟩) 1 1) Lb.outs ∧
    Below w.heap.size w (((w.alloc (.cells #[.string ⟨#[97]⟩] 9)).alloc (.cells #[.string ⟨#[98]⟩, .string ⟨#[117, 112, 112, 101, 114]⟩, .string ⟨#[]⟩, .slice (some ⟨w.heap.size, 0, none⟩) 1 1] 90)).alloc (.cells #[.string ⟨#[98]⟩] 9)) := by
  obtain ⟨w1, h1⟩ : ∃ w1, w1 = w.alloc (.cells #[.string ⟨#[97]⟩] 9) := ⟨_, rfl⟩
  obtain ⟨w2, h2⟩ : ∃ w2, w2 = w1.alloc (.cells #[.string ⟨#[98]⟩, .string ⟨#[117, 112, 112, 101, 114]⟩, .string ⟨#[]⟩, .slice (some ⟨w.heap.size, 0, none⟩) 1 1] 90) := ⟨_, rfl⟩
  obtain ⟨w3, h3⟩ : ∃ w3, w3 = w2.alloc (.cells #[.string ⟨#[98]⟩] 9) := ⟨_, rfl⟩
  have z1 : w1.heap.size = w.heap.size + 1 := by rw [h1]; simp
  have z2 : w2.heap.size = w.heap.size + 2 := by rw [h2]; simp; omega
  have z3 : w3.heap.size = w.heap.size + 3 := by rw [h3]; simp; omega
  have b1 : Below w.heap.size w w1 := by rw [h1]; exact (Below.refl _ w).alloc (Nat.le_refl _) _
  have b2 : Below w1.heap.size w1 w2 := by rw [h2]; exact (Below.refl _ w1).alloc (Nat.le_refl _) _
  have b3 : Below w2.heap.size w2 w3 := by rw [h3]; exact (Below.refl _ w2).alloc (Nat.le_refl _) _
  have r1 : w1.heap[w.heap.size]? = some (.cells #[.string ⟨#[97]⟩] 9) := by rw [h1]; exact row_new _ _
  have r2 : w2.heap[w.heap.size + 1]? = some (.cells #[.string ⟨#[98]⟩, .string ⟨#[117, 112, 112, 101, 114]⟩, .string ⟨#[]⟩, .slice (some ⟨w.heap.size, 0, none⟩) 1 1] 90) := by rw [h2, ← z1]; exact row_new _ _
  have r3 : w3.heap[w.heap.size + 2]? = some (.cells #[.string ⟨#[98]⟩] 9) := by rw [h3, ← z2]; exact row_new _ _
  have s1 := row_below (row_below r1 b2) b3
  have s2 := row_below r2 b3
  rw [← h1, ← h2, ← h3]
  refine ⟨⟨_, _, rfl, Nat.le_refl _, (fun e => by cases e), fun _ => ⟨_, _, rfl, by omega, fun j hj => ?_⟩⟩, ⟨_, _, rfl, Nat.le_refl _, (fun e => by cases e), fun _ => ⟨_, _, rfl, by omega, fun j hj => ?_⟩⟩, below_then (below_then b1 b2) b3⟩
  · obtain rfl : j = 0 := by simp at hj; omega
    exact ⟨cell_of_row (j := 0) s2 rfl, cell_of_row (j := 1) s2 rfl, cell_of_row (j := 2) s2 rfl, _, cell_of_row (j := 3) s2 rfl, ⟨_, _, rfl, Nat.le_refl _, (fun e => by cases e), fun _ => ⟨_, _, rfl, by omega, fun j hj => by
      obtain rfl : j = 0 := by simp at hj; omega
      exact cell_of_row (j := 0) s1 rfl⟩⟩⟩
  · obtain rfl : j = 0 := by simp at hj; omega
    exact cell_of_row (j := 0) r3 rfl
set_option maxRecDepth 100000 in
set_option maxHeartbeats 16000000 in
theorem built_calls {es : Nat → Addr} {At : (Nat → Prop) → World → Value → Nat → Cf.Ens → Prop} {BAt : (Nat → Prop) → World → Value → Value → Bf.Bd → Prop} (HB : Builds es Af.actO At BAt) (HC : Caches0 es At) {W : World} (hW : BuildW W es) (hE : TErr W (erOf es)) :
    Calls Tryz.prog 56 #[] W fun e w' => e = .returned (.bool true) ∧ Below W.heap.size W w' := by
  have HBu := hid1 HB
  have HCa := hid1 HC
  have HW := hid1 (BuildB.of hW)
  have HE := hid1 hE
  have HT := hid1 (New_calls W)
  clear HB HC hW hE
  go_enter Tryz.func56, Tryz.ntmps56
  go_wp2_with fail
  refine HT.out.mono ?_
  rintro e w1 ⟨rfl, hT1, g1⟩
  have HMk := hid1 (HCa.out.make w1 3 (by omega) (by omega))
  have HT1 := hid1 hT1
  have hz1 := hT1.lt
  clear HT hT1
  go_wp2_with fail
  refine HMk.out.mono ?_
  rintro e w2 ⟨p, SC, rfl, g2, hA2, hS2⟩
  have hT2 := HT1.out.below g2
  have hp1 : pathB [97] = true := by rw [pathB_R]; decide
  have hcode : Tf.putCode pathB [] [97] [120] = 0 := by simp [Tf.putCode, hp1]; decide
  have hput : Tf.putF pathB [] [97] [120] = Lb.fs := by
    unfold Tf.putF
    rw [if_pos hcode]
    rfl
  have HP := PutK_calls hT2 (HE.out.below (below_then g1 g2)) (by simp) (by simp) [97] [120] (by simp)
  rw [hcode, hput, show erOf es 0 = Value.nilIface from rfl] at HP
  have HPt := hid1 HP
  have HA2 := hid1 (And.intro hA2 hS2)
  have hz2 := g2.size
  have G2 := below_then g1 g2
  clear HMk HT1 hT2 HP hA2 hS2 hp1 hcode hput
  go_wp2_with fail
  refine HPt.out.mono ?_
  rintro e w3 ⟨rfl, ⟨o3, -, hT3⟩, g3, k3⟩
  have hA3 : At SC w3 (.pointer (some p)) 3 [] := HCa.out.same _ _ _ _ _ _ HA2.out.1 k3.size fun k hk => k3.block k (HCa.out.lt _ _ _ _ _ HA2.out.1 k hk) fun hx => by
    have := HA2.out.2 k hk
    rcases hx with h1 | h1
    · omega
    · cases h1
  have HSCw : Hid (∀ k, SC k → W.heap.size < k ∧ k < w2.heap.size) := hid1 fun k hk => ⟨by have := HA2.out.2 k hk; omega, HCa.out.lt _ _ _ _ _ HA2.out.1 k hk⟩
  have hz3 := k3.size
  have G3 : Below W.heap.size W w3 := G2.trans g3
  obtain ⟨hR5, hX5, g5⟩ := lb_rows w3
  have HA3 := hid1 hA3
  have HT3 := hid1 hT3
  have HG3 := hid1 G3
  clear HPt HA2 hA3 hT3 g3 k3 G2 g1 g2 G3
  generalize hw5 : ((w3.alloc (.cells #[.string ⟨#[97]⟩] 9)).alloc (.cells #[.string ⟨#[98]⟩, .string ⟨#[117, 112, 112, 101, 114]⟩, .string ⟨#[]⟩, .slice (some ⟨w3.heap.size, 0, none⟩) 1 1] 90)).alloc (.cells #[.string ⟨#[98]⟩] 9) = w5 at *
  have HNw := hid1 (HBu.out.new w5 W.heap.size W.heap.size Lb.fs o3 _ Lb.l _ Lb.outs (.pointer (some p)) ((HW.out.trans HG3.out).below g5).w (HT3.out.below g5) lb_rises (by simp) (by simp) hR5 (by simp) lb_small hX5 (by simp) (by simp) ⟨_, rfl⟩)
  have HR5 := hid1 hR5
  have HG5 := hid1 g5
  clear hR5 hX5 g5
  go_wp2_with fail
  refine HNw.out.mono ?_
  rintro e w6 ⟨bv, ev, rfl, g6, hN6⟩
  obtain ⟨rfl, p1, S1, rfl, hB6, hS1⟩ := hN6.get
  have hz5 := HG5.out.size
  have hz6 := g6.size
  have HB6 := hid1 (And.intro hB6 hS1)
  have g7 : Below w6.heap.size w6 (w6.alloc (.cells #[.string ⟨#[98]⟩] 9)) := (Below.refl _ w6).alloc (Nat.le_refl _) _
  have hz7 : (w6.alloc (.cells #[.string ⟨#[98]⟩] 9)).heap.size = w6.heap.size + 1 := by simp
  have G56 := below_then HG5.out g6
  have G57 := below_then G56 g7
  have HNx := hid1 (HBu.out.new (w6.alloc (.cells #[.string ⟨#[98]⟩] 9)) W.heap.size W.heap.size Lb.fs o3 _ Lb.l _ Lb.outs (.pointer (some p)) ((HW.out.trans HG3.out).below G57).w (HT3.out.below G57) lb_rises (by simp) (by simp) (HR5.out.below (below_then g6 g7)) (by simp) lb_small (lb_x w6) (by simp) (by simp) ⟨_, rfl⟩)
  have HG7 := hid1 (And.intro G57 hz7)
  clear HNw hN6 hB6 hS1 g6 g7 G56 G57 hz7 HR5 hw5
  go_wp2_with fail
  refine HNx.out.mono ?_
  rintro e w8 ⟨bv2, ev2, rfl, g8, hN8⟩
  obtain ⟨rfl, p2, S2, rfl, hB8, hS2⟩ := hN8.get
  rw [HG7.out.2] at hS2
  have hz8 := g8.size
  rw [HG7.out.2] at hz8
  have G8 := below_then HG7.out.1 g8
  have hS1w : ∀ k, S1 k → w5.heap.size ≤ k ∧ k < w6.heap.size := fun k hk => ⟨HB6.out.2 k hk, HBu.out.lt _ _ _ _ _ HB6.out.1 k hk⟩
  have b68 : Below w6.heap.size w6 w8 := below_then ((Below.refl _ w6).alloc (Nat.le_refl _) (.cells #[.string ⟨#[98]⟩] 9)) g8
  have hX8 : BAt S1 w8 (.pointer (some p1)) (.pointer (some p)) Lb.d := HBu.out.same _ _ _ _ _ _ HB6.out.1 b68.size fun k hk => b68.block k (hS1w k hk).2
  have hC8 : CaAt At SC w8 (.pointer (some p)) (some (3, [])) := ⟨⟨p, rfl⟩, HCa.out.same _ _ _ _ _ _ HA3.out G8.size fun k hk => G8.block k (by have := (HSCw.out k hk).2; omega)⟩
  have hWB : BuildB W.heap.size w8 es := (HW.out.trans HG3.out).below G8
  have HRx := HBu.out.run W.heap.size S1 SC w8 p1 (.pointer (some p)) Lb.d (some (3, [])) 0 hX8 hC8 (fun j h1 h2 => by have := (hS1w j h1).1; have := (HSCw.out j h2).2; omega) hWB (fun j hj => by have := (hS1w j hj).1; have := HG3.out.size; omega) (fun j hj => Nat.le_of_lt (HSCw.out j hj).1) Lb.fault0 lb_small Lb.fit0 ⟨by omega, by omega, Cf.Ok.nil 3, by simp⟩ (by omega) (by omega)
  rw [Lb.run1] at HRx
  have HRx := hid1 HRx
  have HS1 := hid1 hS1w
  have HB8 := hid1 (And.intro hB8 hS2)
  have HWB := hid1 hWB
  have HGB := hid1 (below_then HG3.out G8)
  clear HNx HB6 HG7 hN8 hB8 hS2 hX8 hC8 b68 hS1w hWB g8 HA3
  go_wp2_with fail
  refine HRx.out.mono ?_
  rintro e w9 ⟨rfl, hO9, S1', SC', hX9, hC9, hd9, hS9, hSC9⟩
  have hz9 := hO9.size
  have hfar : ∀ j, S2 j → ¬ (S1 j ∨ SC j) := fun j hj hx => by
    have h1 := HB8.out.2 j hj
    rcases hx with h2 | h2
    · have := (HS1.out j h2).2
      omega
    · have := (HSCw.out j h2).2
      omega
  have hY9 : BAt S2 w9 (.pointer (some p2)) (.pointer (some p)) Lb.d := HBu.out.same _ _ _ _ _ _ HB8.out.1 hz9 fun k hk => hO9.block k (HBu.out.lt _ _ _ _ _ HB8.out.1 k hk) (hfar k hk)
  have hlow : ∀ j, (S1 j ∨ SC j) → W.heap.size ≤ j := fun j hx => by
    rcases hx with h2 | h2
    · have := (HS1.out j h2).1
      have := HG3.out.size
      omega
    · exact Nat.le_of_lt (HSCw.out j h2).1
  have hfit := Bf.run_fit actFit (c := some (3, [])) (d := Lb.d) ⟨by omega, by omega, Cf.Ok.nil 3, by simp⟩ Lb.fit0 0
  rw [Lb.run1] at hfit
  have HRy := HBu.out.run W.heap.size S2 SC' w9 p2 (.pointer (some p)) Lb.d (some (3, [(Lb.key, [88])])) 0 hY9 hC9 (fun j h1 h2 => by
    have h3 := HB8.out.2 j h1
    rcases hSC9 j h2 with h4 | h4
    · have := (HSCw.out j h4).2
      omega
    · have := HBu.out.lt _ _ _ _ _ HB8.out.1 j h1
      omega) (HWB.out.only hO9 hlow) (fun j hj => by have := HB8.out.2 j hj; have := HG3.out.size; omega) (fun j hj => by
    rcases hSC9 j hj with h4 | h4
    · exact Nat.le_of_lt (HSCw.out j h4).1
    · have := HGB.out.size
      omega) Lb.fault0 lb_small Lb.fit0 hfit.2 (by omega) (by omega)
  rw [Lb.run2] at HRy
  have HRy := hid1 HRy
  have HG9 := hid1 (HGB.out.trans (hO9.below hlow HGB.out.size))
  have HL2 : Hid (∀ j, S2 j ∨ SC' j → W.heap.size ≤ j) := hid1 fun j hx => by
    rcases hx with h2 | h2
    · have := HB8.out.2 j h2
      have := HG3.out.size
      omega
    · rcases hSC9 j h2 with h4 | h4
      · exact Nat.le_of_lt (HSCw.out j h4).1
      · have := HGB.out.size
        omega
  clear HRx hX9 hC9 hd9 hS9 hSC9 hY9 hfit hfar hlow
  go_wp2_with fail
  refine HRy.out.mono ?_
  rintro e w10 ⟨rfl, hO10, S2', SC'', hY10, -, -, -, -⟩
  have G10 := HG9.out.trans (hO10.below HL2.out HG9.out.size)
  have HRs := HBu.out.result S2' w10 p2 _ _ 0 hY10 (by decide) (by omega) (by omega)
  have HOv := hid1 fun V (g : Below w10.heap.size w10 V) => HBu.out.over S2' V p2 _ _ (HBu.out.same _ _ _ _ _ _ hY10 g.size fun k hk => g.block k (HBu.out.lt _ _ _ _ _ hY10 k hk)) (by decide)
  have e1 : ((Lb.d.set 0 (.done [88] true)).at 0) = .done [88] true := rfl
  have e2 : ((Lb.d.set 0 (.done [88] true)).waits == 0) = true := by decide
  rw [e1] at HRs
  rw [e2] at HOv
  have HRs := hid1 HRs
  have HG10 := hid1 G10
  clear HRy hO10 hY10 e1 e2 G10 HBu HCa HW HE
  go_wp2_with fail
  refine HRs.out.mono ?_
  rintro e w11 ⟨rfl, g11⟩
  have HO11 := hid1 (HOv.out w11 g11)
  have G11 := below_then HG10.out g11
  clear HRs HOv
  have hz0 : erOf es 0 = Value.nilIface := rfl
  have hq0 : (Bf.St.done [88] true).isDone = true := rfl
  have hq1 : (Bf.St.done [88] true).out = [88] := rfl
  rw [hz0, hq0, hq1]
  clear hz0 hq0 hq1
  go_wp2_with fail
  refine HO11.out.mono ?_
  rintro e w12 ⟨rfl, g12⟩
  have G12 := below_then G11 g12
  clear HO11
  go_wp2
  go_ret
  exact ⟨rfl, G12⟩
end Go.Proofs.YtmhipgompplkdaaGreatDoor
