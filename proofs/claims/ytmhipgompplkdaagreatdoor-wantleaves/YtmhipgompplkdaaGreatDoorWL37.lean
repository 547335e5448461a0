import Derived.Test.YtmhipgompplkdaaGreatDoorWL09
import Derived.Test.YtmhipgompplkdaaGreatDoorWL20
import Derived.Test.YtmhipgompplkdaaGreatDoorWL21
import Derived.Test.YtmhipgompplkdaaGreatDoorWL36
import Derived.Test.YtmhipgompplkdaaGreatDoorWL17
import Derived.Test.YtmhipgompplkdaaGreatDoorWL07
namespace Go.Proofs.YtmhipgompplkdaaGreatDoor
namespace Bf
def winB (f : List UInt8 → List UInt8 × Nat) : List (List UInt8) → List (List UInt8) × Nat
  | [] => ([], 0)
  | x :: r => if (f x).2 = 0 then ((f x).1 :: (winB f r).1, (winB f r).2) else ([], (f x).2)
def wrule (act : Act) (f : List UInt8 → List UInt8 × Nat) (r : Ru) : List UInt8 × Nat :=
  if (winB f r.ins).2 = 0 then act r.kind r.word (winB f r.ins).1 else ([], (winB f r.ins).2)
structure Wanted (act : Act) (fs : Tf.Fs) (l : List Ru) (N : Nat → Prop) (f : List UInt8 → List UInt8 × Nat) : Prop where
  rule : ∀ x i, mkr l x = some i → N i → f x = wrule act f (l.getD i ⟨[], [], [], []⟩)
  file : ∀ x b, mkr l x = none → Tf.get fs x = some b → f x = (b, 0)
  lacks : ∀ x, mkr l x = none → Tf.get fs x = none → f x = ([], 6)
theorem winB_congr {f g : List UInt8 → List UInt8 × Nat} : ∀ {a : List (List UInt8)}, (∀ x ∈ a, f x = g x) → winB f a = winB g a
  | [], _ => rfl
  | x :: r, h => by
    unfold winB
    rw [h x (by simp), winB_congr fun y hy => h y (List.mem_cons_of_mem _ hy)]
theorem wrule_congr {act : Act} {f g : List UInt8 → List UInt8 × Nat} {r : Ru} (h : ∀ x ∈ r.ins, f x = g x) : wrule act f r = wrule act g r := by
  unfold wrule
  rw [winB_congr h]
theorem winB_bad {f : List UInt8 → List UInt8 × Nat} : ∀ {a : List (List UInt8)} {x : List UInt8}, x ∈ a → (f x).2 ≠ 0 → (winB f a).2 ≠ 0
  | y :: r, x, hx, h => by
    unfold winB
    by_cases hy : (f y).2 = 0
    · rw [if_pos hy]
      rcases List.mem_cons.1 hx with rfl | hx
      · exact absurd hy h
      · exact winB_bad hx h
    · rw [if_neg hy]; exact hy
theorem mkr_of {l : List Ru} {x : List UInt8} {k : Nat} (h : mkr l x = some k) : ∃ hk : k < l.length, l[k].out = x := by
  unfold mkr at h
  obtain ⟨hk, h1, _⟩ := List.findIdx?_eq_some_iff_getElem.1 h
  exact ⟨hk, by simpa using h1⟩
theorem getD_at {l : List Ru} {k : Nat} (hk : k < l.length) : l.getD k ⟨[], [], [], []⟩ = l[k] := by
  rw [List.getD_eq_getElem?_getD, List.getElem?_eq_getElem hk]; rfl
theorem Wanted.one {act : Act} {fs : Tf.Fs} {l : List Ru} {N : Nat → Prop} {f g : List UInt8 → List UInt8 × Nat} (hf : Wanted act fs l N f) (hg : Wanted act fs l N g) (hcl : ∀ i k, N i → Ru.needs l i k = true → N k) {r : Nat → Nat} (hr : ∀ i k, N i → Ru.needs l i k = true → r k < r i) : ∀ x, (∀ i, mkr l x = some i → N i) → f x = g x := by
  have leaf : ∀ x, mkr l x = none → f x = g x := fun x hx => by
    cases hb : Tf.get fs x with
    | none => rw [hf.lacks x hx hb, hg.lacks x hx hb]
    | some b => rw [hf.file x b hx hb, hg.file x b hx hb]
  have main : ∀ n i, r i < n → N i → ∀ x, mkr l x = some i → f x = g x := by
    intro n
    induction n with
    | zero => intro i h; omega
    | succ n ih =>
      intro i hi hN x hx
      rw [hf.rule x i hx hN, hg.rule x i hx hN]
      obtain ⟨hk, _⟩ := mkr_of hx
      rw [getD_at hk]
      refine wrule_congr fun y hy => ?_
      cases hm : mkr l y with
      | none => exact leaf y hm
      | some j =>
        obtain ⟨hj, ej⟩ := mkr_of hm
        have hn : Ru.needs l i j = true := by
          rw [Ru.needs_eq hk hj, ej]
          exact decide_eq_true hy
        exact ih j (by have := hr i j hN hn; omega) (hcl i j hN hn) y hm
  intro x hN
  cases hm : mkr l x with
  | none => exact leaf x hm
  | some i => exact main _ i (Nat.lt_succ_self _) (hN i hm) x hm
def wantF (act : Act) (fs : Tf.Fs) (l : List Ru) : Nat → List UInt8 → List UInt8 × Nat
  | 0, _ => ([], 0)
  | n + 1, x =>
    match mkr l x with
    | some i => wrule act (wantF act fs l n) (l.getD i ⟨[], [], [], []⟩)
    | none => match Tf.get fs x with
      | some b => (b, 0)
      | none => ([], 6)
theorem wantF_enough {act : Act} {fs : Tf.Fs} {l : List Ru} {N : Nat → Prop} (hcl : ∀ i k, N i → Ru.needs l i k = true → N k) {r : Nat → Nat} (hr : ∀ i k, N i → Ru.needs l i k = true → r k < r i) : ∀ (n m : Nat) (x : List UInt8), 1 ≤ n → 1 ≤ m → (∀ i, mkr l x = some i → N i ∧ r i + 2 ≤ n ∧ r i + 2 ≤ m) → wantF act fs l n x = wantF act fs l m x
  | 0, _, _, h, _, _ => by omega
  | _, 0, _, _, h, _ => by omega
  | n + 1, m + 1, x, _, _, h => by
    unfold wantF
    cases hm : mkr l x with
    | none => rfl
    | some i =>
      obtain ⟨hk, _⟩ := mkr_of hm
      have hb := h i hm
      simp only
      rw [getD_at hk]
      refine wrule_congr fun y hy => ?_
      refine wantF_enough hcl hr n m y (by omega) (by omega) fun j hj => ?_
      obtain ⟨hj', ej⟩ := mkr_of hj
      have hnd : Ru.needs l i j = true := by rw [Ru.needs_eq hk hj', ej]; exact decide_eq_true hy
      have := hr i j hb.1 hnd
      exact ⟨hcl i j hb.1 hnd, by omega, by omega⟩
theorem wanted_is {act : Act} {fs : Tf.Fs} {l : List Ru} {N : Nat → Prop} (hcl : ∀ i k, N i → Ru.needs l i k = true → N k) {r : Nat → Nat} (hr : ∀ i k, N i → Ru.needs l i k = true → r k < r i) {n : Nat} (hn : ∀ i, i < l.length → N i → r i + 2 ≤ n) (h1 : 1 ≤ n) : Wanted act fs l N (wantF act fs l n) := by
  obtain ⟨m, rfl⟩ : ∃ m, n = m + 1 := ⟨n - 1, by omega⟩
  refine ⟨fun x i hx hN => ?_, fun x b hx hb => ?_, fun x hx hb => ?_⟩
  · obtain ⟨hk, _⟩ := mkr_of hx
    have hb := hn i hk hN
    conv => lhs; unfold wantF
    rw [hx]
    simp only
    rw [getD_at hk]
    refine wrule_congr fun y hy => ?_
    refine wantF_enough hcl hr m (m + 1) y (by omega) (by omega) fun j hj => ?_
    obtain ⟨hj', ej⟩ := mkr_of hj
    have hnd : Ru.needs l i j = true := by rw [Ru.needs_eq hk hj', ej]; exact decide_eq_true hy
    have := hr i j hN hnd
    exact ⟨hcl i j hN hnd, by omega, by omega⟩
  · unfold wantF
    rw [hx, hb]
  · unfold wantF
    rw [hx, hb]
def CSound (act : Act) : Ca → Prop
  | some (_, l) => ∀ e ∈ l, ∀ k w xs, Kp.key k w xs = e.1 → act k w xs = (e.2, 0)
  | none => True
theorem CSound.find {act : Act} {c : Ca} (h : CSound act c) {k w : List UInt8} {xs : List (List UInt8)} {s : List UInt8} (hf : cfind c (Kp.key k w xs) = some s) : act k w xs = (s, 0) := by
  cases c with
  | none => cases hf
  | some c => exact h _ (Cf.find_some hf) k w xs rfl
theorem CSound.put {act : Act} {c : Ca} (h : CSound act c) {k w : List UInt8} {xs : List (List UInt8)} (h0 : (act k w xs).2 = 0) : CSound act (cput c (Kp.key k w xs) (act k w xs).1) := by
  cases c with
  | none => trivial
  | some c =>
    intro e he k' w' xs' hk
    rcases mem_put he with h1 | h1
    · exact h e h1 k' w' xs' hk
    · subst h1
      obtain ⟨rfl, rfl, rfl⟩ := Kp.key_inj.1 hk
      exact Prod.ext rfl h0
theorem CSound.get {act : Act} {c : Ca} (h : CSound act c) (k : List UInt8) : CSound act (cget c k) := by
  cases c with
  | none => trivial
  | some c =>
    intro e he
    have he' : e ∈ Cf.get c.1 c.2 k := he
    unfold Cf.get at he'
    split at he'
    · rename_i b hb
      rcases mem_put he' with h1 | h1
      · exact h e h1
      · rw [h1]; exact h _ (Cf.find_some hb)
    · exact h e he'
structure Makes (act : Act) (N : Nat → Prop) (f : List UInt8 → List UInt8 × Nat) (d : Bd) : Prop where
  inN : ∀ k, (d.st k).isNo = false → N k
  done : ∀ k s b, d.st k = .done s b → wrule act f (d.rule k) = (s, 0)
  bad : ∀ k, (d.st k).isBad = true → (wrule act f (d.rule k)).2 ≠ 0
theorem Makes.init {act : Act} {N : Nat → Prop} {f : List UInt8 → List UInt8 × Nat} {d : Bd} (hN : ∀ k, (d.st k).isNo = false → N k) (h : ∀ k, (d.st k).isWaits = true ∨ (d.st k).isNo = true) : Makes act N f d := by
  refine ⟨hN, fun k s b e => ?_, fun k hb => ?_⟩
  · rcases h k with h | h <;> rw [e] at h <;> cases h
  · cases hs : d.st k <;> rw [hs] at hb <;> have h := h k <;> rw [hs] at h <;> first | (rcases h with h | h <;> cases h; done) | cases hb
theorem wrule_needs {act : Act} {fs : Tf.Fs} {l : List Ru} {N : Nat → Prop} {f : List UInt8 → List UInt8 × Nat} (hw : Wanted act fs l N f) (hA : ∀ k (hk : k < l.length), mkr l l[k].out = some k) {k j : Nat} (hn : Ru.needs l k j = true) (hN : N j) (hb : (wrule act f (l.getD j ⟨[], [], [], []⟩)).2 ≠ 0) : (wrule act f (l.getD k ⟨[], [], [], []⟩)).2 ≠ 0 := by
  obtain ⟨hk, hj⟩ := Ru.needs_lt hn
  rw [Ru.needs_eq hk hj] at hn
  have hm := of_decide_eq_true hn
  have e := hw.rule _ j (hA j hj) hN
  rw [← e] at hb
  have := winB_bad (f := f) hm hb
  rw [getD_at hk]
  unfold wrule
  rw [if_neg this]
  exact this
theorem Makes.set {act : Act} {N : Nat → Prop} {f : List UInt8 → List UInt8 × Nat} {d : Bd} (h : Makes act N f d) {i : Nat} (hi : N i) {s : List UInt8} {b : Bool} (hs : wrule act f (d.rule i) = (s, 0)) : Makes act N f (d.set i (.done s b)) := by
  refine ⟨fun k hk => ?_, fun k s' b' e => ?_, fun k hb => ?_⟩
  · have hk' : (setS d.st i (.done s b) k).isNo = false := hk
    by_cases e : k = i
    · subst e; exact hi
    · rw [setS_other e] at hk'; exact h.inN k hk'
  · have e' : setS d.st i (.done s b) k = .done s' b' := e
    by_cases hk : k = i
    · subst hk
      rw [setS_same] at e'
      injection e' with e1 e2
      rw [← e1]; exact hs
    · rw [setS_other hk] at e'
      exact h.done k s' b' e'
  · have e' : (setS d.st i (.done s b) k).isBad = true := hb
    by_cases hk : k = i
    · subst hk
      rw [setS_same] at e'
      cases e'
    · rw [setS_other hk] at e'
      exact h.bad k e'
theorem Makes.fail {act : Act} {fs : Tf.Fs} {N : Nat → Prop} {f : List UInt8 → List UInt8 × Nat} {d : Bd} (hw : Wanted act fs d.l N f) (hA : ∀ k (hk : k < d.l.length), mkr d.l d.l[k].out = some k) (h : Makes act N f d) {i c : Nat} (hi : N i) (hs : (wrule act f (d.rule i)).2 ≠ 0) : Makes act N f (d.fail i c) := by
  have hN0 : ∀ k, (setS d.st i (.failed c) k).isNo = false → N k := fun k hk => by
    by_cases e : k = i
    · subst e; exact hi
    · rw [setS_other e] at hk; exact h.inN k hk
  have no_bad : ∀ s : St, s.isBad = true → s.isNo = false := fun s hs => by cases s <;> first | rfl | cases hs
  have no_waits : ∀ s : St, s.isWaits = true → s.isNo = false := fun s hs => by cases s <;> first | rfl | cases hs
  have hbad0 : ∀ k, (setS d.st i (.failed c) k).isBad = true → (wrule act f (d.rule k)).2 ≠ 0 := fun k hb => by
    by_cases hk : k = i
    · subst hk; exact hs
    · rw [setS_other hk] at hb
      exact h.bad k hb
  have hch : ∀ k, Chain d.l (setS d.st i (.failed c)) k → (wrule act f (d.rule k)).2 ≠ 0 := fun k hc => by
    induction hc with
    | one hn hb => exact wrule_needs hw hA hn (hN0 _ (no_bad _ hb)) (hbad0 _ hb)
    | more hn hwt _ ih => exact wrule_needs hw hA hn (hN0 _ (no_waits _ hwt)) ih
  refine ⟨fun k hk => ?_, fun k s' b' e => ?_, fun k hb => ?_⟩
  · have hk' : (spread d.l (setS d.st i (.failed c)) k).isNo = false := hk
    unfold spread at hk'
    split at hk'
    · rename_i hx; exact hN0 k (no_waits _ hx.1)
    · exact hN0 k hk'
  · have e' : spread d.l (setS d.st i (.failed c)) k = .done s' b' := e
    unfold spread at e'
    split at e'
    · cases e'
    · by_cases hk : k = i
      · subst hk
        rw [setS_same] at e'
        cases e'
      · rw [setS_other hk] at e'
        exact h.done k s' b' e'
  · have e' : (spread d.l (setS d.st i (.failed c)) k).isBad = true := hb
    unfold spread at e'
    split at e'
    · rename_i hx; exact hch k hx.2
    · exact hbad0 k e'
end Bf
end Go.Proofs.YtmhipgompplkdaaGreatDoor
namespace Go.Proofs.YtmhipgompplkdaaGreatDoor
namespace Bf
def inO (o : List Nat) : Nat → Prop := fun i => i ∈ o
theorem rank_of {l : List Ru} {o : List Nat} (h : Ru.Topo l o) {i k : Nat} (hi : i ∈ o) (hn : Ru.needs l i k = true) : k ∈ o ∧ o.idxOf k < o.idxOf i := by
  have hj : o.idxOf i < o.length := List.idxOf_lt_length_of_mem hi
  have hg : o[o.idxOf i] = i := List.getElem_idxOf hj
  have hk := h (o.idxOf i) hj k (by rw [hg]; exact hn)
  refine ⟨List.mem_of_mem_take hk, ?_⟩
  obtain ⟨q, hq, e⟩ := List.getElem_of_mem hk
  rw [List.length_take] at hq
  rw [List.getElem_take] at e
  have : o.idxOf k ≤ q := by
    refine Nat.le_of_not_lt fun hlt => ?_
    have := List.not_of_lt_findIdx (p := fun y => y == k) (xs := o) hlt
    rw [e] at this
    simp at this
  omega
end Bf
end Go.Proofs.YtmhipgompplkdaaGreatDoor
namespace Go.Proofs.YtmhipgompplkdaaGreatDoor
theorem hasW_get (fs : Tf.Fs) (p : List UInt8) : Tf.hasP fs p = (Tf.get fs p).isSome := by
  unfold Tf.hasP Tf.get
  rw [Option.isSome_map, Bool.eq_iff_iff, List.find?_isSome, List.any_eq_true]
theorem row_newW (W : World) (o : Obj) : (W.alloc o).heap[W.heap.size]? = some o := by
  show (W.heap.push _)[W.heap.size]? = _
  simp
namespace Bf
def want (act : Act) (fs : Tf.Fs) (l : List Ru) : List UInt8 → List UInt8 × Nat := wantF act fs l (l.length + 2)
theorem order_len {l : List Ru} {o : List Nat} (hnd : o.Nodup) (hlt : ∀ i ∈ o, i < l.length) : o.length ≤ l.length := by
  have := Cf.nodup_len (b := List.range l.length) hnd fun i hi => List.mem_range.2 (hlt i hi)
  simpa using this
theorem want_is {act : Act} {fs : Tf.Fs} {l : List Ru} {o : List Nat} (h : Ru.Topo l o) (hnd : o.Nodup) (hlt : ∀ i ∈ o, i < l.length) : Wanted act fs l (inO o) (want act fs l) :=
  wanted_is (fun _ _ hi hn => (rank_of h hi hn).1) (r := fun i => o.idxOf i) (fun _ _ hi hn => (rank_of h hi hn).2) (fun i _ hi => by have : o.idxOf i < o.length := List.idxOf_lt_length_of_mem hi; have := order_len hnd hlt; omega) (by omega)
theorem winB_snoc (f : List UInt8 → List UInt8 × Nat) : ∀ (a : List (List UInt8)) (x : List UInt8) {o : List (List UInt8)}, winB f a = (o, 0) → (f x).2 = 0 → winB f (a ++ [x]) = (o ++ [(f x).1], 0)
  | [], x, o, h, hx => by
    cases h
    show winB f [x] = _
    unfold winB
    rw [if_pos hx]
    rfl
  | y :: r, x, o, h, hx => by
    unfold winB at h
    rw [List.cons_append]
    unfold winB
    by_cases hy : (f y).2 = 0
    · rw [if_pos hy] at h ⊢
      have h2 : (winB f r).2 = 0 := congrArg Prod.snd h
      have h1 : (f y).1 :: (winB f r).1 = o := congrArg Prod.fst h
      rw [winB_snoc f r x (o := (winB f r).1) (Prod.ext rfl h2) hx, ← h1]
      rfl
    · rw [if_neg hy] at h
      exact absurd (congrArg Prod.snd h) hy
theorem winB_stop (f : List UInt8 → List UInt8 × Nat) : ∀ (a : List (List UInt8)) (x : List UInt8) (r : List (List UInt8)) {o : List (List UInt8)}, winB f a = (o, 0) → (f x).2 ≠ 0 → (winB f (a ++ x :: r)).2 = (f x).2
  | [], x, r, o, h, hx => by
    show (winB f (x :: r)).2 = _
    unfold winB
    rw [if_neg hx]
  | y :: a, x, r, o, h, hx => by
    unfold winB at h
    rw [List.cons_append]
    unfold winB
    by_cases hy : (f y).2 = 0
    · rw [if_pos hy] at h ⊢
      have h2 : (winB f a).2 = 0 := congrArg Prod.snd h
      exact winB_stop f a x r (o := (winB f a).1) (Prod.ext rfl h2) hx
    · rw [if_neg hy] at h
      exact absurd (congrArg Prod.snd h) hy
theorem winB_len (f : List UInt8 → List UInt8 × Nat) : ∀ {a o : List (List UInt8)}, winB f a = (o, 0) → o.length = a.length
  | [], o, h => by cases h; rfl
  | y :: a, o, h => by
    unfold winB at h
    by_cases hy : (f y).2 = 0
    · rw [if_pos hy] at h
      have h2 : (winB f a).2 = 0 := congrArg Prod.snd h
      have h1 : (f y).1 :: (winB f a).1 = o := congrArg Prod.fst h
      rw [← h1, List.length_cons, List.length_cons, winB_len f (a := a) (o := (winB f a).1) (Prod.ext rfl h2)]
    · rw [if_neg hy] at h
      exact absurd (congrArg Prod.snd h) hy
theorem winB_all (f : List UInt8 → List UInt8 × Nat) (P : List UInt8 → Prop) (hP : ∀ x, P (f x).1) : ∀ {a o : List (List UInt8)}, winB f a = (o, 0) → ∀ y ∈ o, P y
  | [], o, h => by cases h; simp
  | y :: a, o, h => by
    unfold winB at h
    by_cases hy : (f y).2 = 0
    · rw [if_pos hy] at h
      have h2 : (winB f a).2 = 0 := congrArg Prod.snd h
      have h1 : (f y).1 :: (winB f a).1 = o := congrArg Prod.fst h
      rw [← h1]
      intro z hz
      rcases List.mem_cons.1 hz with rfl | hz
      · exact hP _
      · exact winB_all f P hP (a := a) (o := (winB f a).1) (Prod.ext rfl h2) z hz
    · rw [if_neg hy] at h
      exact absurd (congrArg Prod.snd h) hy
theorem actO_len (k w : List UInt8) (xs : List (List UInt8)) : (Af.actO k w xs).1.length ≤ 2000 := by
  unfold Af.actO
  split
  · split
    · split
      · simp
      · rename_i h; simp only; omega
    · simp
  · simp
theorem wrule_len (f : List UInt8 → List UInt8 × Nat) (r : Ru) : (wrule Af.actO f r).1.length ≤ 2000 := by
  unfold wrule
  split
  · exact actO_len _ _ _
  · simp
theorem want_len {fs : Tf.Fs} {l : List Ru} (hf : ∀ x b, Tf.get fs x = some b → b.length ≤ 2000) (x : List UInt8) : ∀ n, (wantF Af.actO fs l n x).1.length ≤ 2000
  | 0 => by simp [wantF]
  | n + 1 => by
    unfold wantF
    split
    · exact wrule_len _ _
    · split
      · rename_i b hb; exact hf x b hb
      · simp
end Bf
end Go.Proofs.YtmhipgompplkdaaGreatDoor
namespace Go.Proofs.YtmhipgompplkdaaGreatDoor
open Go.RowKit Go.Shelf Go.Lib Go.Maps
abbrev ansV (es : Nat → Addr) (x : List UInt8 × Nat) : Value := .agg #[.string (ba x.1), erOf es x.2]
def ruF (l : List Ru) (uv : Nat → Value) (x : List UInt8) : Option Value := (Bf.mkr l x).map fun i => ruV (l.getD i ⟨[], [], [], []⟩) (uv i)
structure AskE (w : World) (es : Nat → Addr) : Prop where
  a : AE w (erOf es)
  none : w.cell? ⟨2, 0, Option.none⟩ = some (erOf es 6)
theorem AskE.below {w w' : World} {es : Nat → Addr} (h : AskE w es) (hb : Below w.heap.size w w') : AskE w' es := ⟨h.a.stays hb, cell_below' h.none hb⟩
structure AskB (es : Nat → Addr) (tb : Nat) (fs : Tf.Fs) (l : List Ru) (uv : Nat → Value) (W0 : World) : Prop where
  e : AskE W0 es
  tree : ∃ B o, TreeAt B W0 tb fs o
  bytes : ∀ x b, Tf.get fs x = some b → b.length ≤ 2000
  ins : ∀ i (hi : i < l.length), XRow W0 (uv i) l[i].ins
  small : ∀ x ∈ l, x.Small
  len : l.length ≤ 40
structure AskL where
  (rc tc dc kc rm dm : Nat)
abbrev AskL.caps (L : AskL) : Array Value := #[Ptr L.rc, Ptr L.tc, Ptr L.dc, Ptr L.kc]
abbrev AskL.fn (L : AskL) : Value := .func (.func 180) #[] L.caps
structure Asks (es : Nat → Addr) (tb : Nat) (fs : Tf.Fs) (l : List Ru) (uv : Nat → Value) (W0 : World) (L : AskL) (W : World) : Prop where
  base : Below W0.heap.size W0 W
  cr : W.cell? ⟨L.rc, 0, none⟩ = some (.map (some L.rm))
  ct : W.cell? ⟨L.tc, 0, none⟩ = some (Ptr tb)
  cd : W.cell? ⟨L.dc, 0, none⟩ = some (.map (some L.dm))
  ck : W.cell? ⟨L.kc, 0, none⟩ = some L.fn
  rules : VMap W L.rm (ruF l uv)
  told : ∃ fd, VMap W L.dm fd ∧ ∀ x v, fd x = some v → (Bf.mkr l x).isSome = true ∧ v = ansV es (Bf.want Af.actO fs l x)
  nr : L.rc ≠ L.dm
  nt : L.tc ≠ L.dm
  nd : L.dc ≠ L.dm
  nk : L.kc ≠ L.dm
  nm : L.rm ≠ L.dm
  new : W0.heap.size ≤ L.dm
theorem Asks.below {es : Nat → Addr} {tb : Nat} {fs : Tf.Fs} {l : List Ru} {uv : Nat → Value} {W0 W W' : World} {L : AskL} (h : Asks es tb fs l uv W0 L W) (hb : Below W.heap.size W W') : Asks es tb fs l uv W0 L W' := by
  obtain ⟨fd, h1, h2⟩ := h.told
  exact ⟨below_then h.base hb, cell_below' h.cr hb, cell_below' h.ct hb, cell_below' h.cd hb, cell_below' h.ck hb, h.rules.below hb, ⟨fd, h1.below hb, h2⟩, h.nr, h.nt, h.nd, h.nk, h.nm, h.new⟩
theorem Asks.turn {es : Nat → Addr} {tb : Nat} {fs : Tf.Fs} {l : List Ru} {uv : Nat → Value} {W0 W W' : World} {L : AskL} (h : Asks es tb fs l uv W0 L W) (hb : Only (fun j => j = L.dm) W W') {fd : List UInt8 → Option Value} (h1 : VMap W' L.dm fd) (h2 : ∀ x v, fd x = some v → (Bf.mkr l x).isSome = true ∧ v = ansV es (Bf.want Af.actO fs l x)) : Asks es tb fs l uv W0 L W' :=
  ⟨h.base.trans (hb.below (fun j hj => by rw [hj]; exact h.new) h.base.size), hb.cell h.cr h.nr, hb.cell h.ct h.nt, hb.cell h.cd h.nd, hb.cell h.ck h.nk, h.rules.same (hb.block _ h.rules.lt h.nm), ⟨fd, h1, h2⟩, h.nr, h.nt, h.nd, h.nk, h.nm, h.new⟩
theorem Asks.lt {es : Nat → Addr} {tb : Nat} {fs : Tf.Fs} {l : List Ru} {uv : Nat → Value} {W0 W : World} {L : AskL} (h : Asks es tb fs l uv W0 L W) : L.dm < W.heap.size := by
  obtain ⟨fd, h1, _⟩ := h.told
  exact h1.lt
theorem Only.then {S : Nat → Prop} {a b c : World} (h : Only S a b) (hb : Below a.heap.size b c) : Only S a c :=
  ⟨hb.os.trans h.os, hb.tape.trans h.tape, hb.output.trans h.output, Nat.le_trans h.size hb.size, fun j hj hs => (hb.block j hj).trans (h.block j hj hs)⟩
theorem Asks.after {es : Nat → Addr} {tb : Nat} {fs : Tf.Fs} {l : List Ru} {uv : Nat → Value} {W0 W1 W W' : World} {L : AskL} (h1 : Asks es tb fs l uv W0 L W1) (h : Asks es tb fs l uv W0 L W) (hb : Below W1.heap.size W W') : Asks es tb fs l uv W0 L W' := by
  obtain ⟨fd, h2, h3⟩ := h.told
  have hc : ∀ {a : Addr} {u u' : Value}, W1.cell? a = some u' → W.cell? a = some u → W'.cell? a = some u := fun h1 h2 => (hb.cell (lt_of_cell h1)).trans h2
  exact ⟨h.base.trans (hb.mono h1.base.size), hc h1.cr h.cr, hc h1.ct h.ct, hc h1.cd h.cd, hc h1.ck h.ck, h.rules.same (hb.block _ h1.rules.lt), ⟨fd, h2.same (hb.block _ h1.lt), h3⟩, h.nr, h.nt, h.nd, h.nk, h.nm, h.new⟩
theorem Asks.keep {es : Nat → Addr} {tb : Nat} {fs : Tf.Fs} {l : List Ru} {uv : Nat → Value} {W0 W : World} {L : AskL} (h : Asks es tb fs l uv W0 L W) (hl : l.length ≤ 40) (x : List UInt8) (hx : x.length ≤ 1000) (hm : (Bf.mkr l x).isSome = true) :
    ∃ w1, (Instr.mapUpdate 257 (.map (some L.dm)) (.string (ba x)) (ansV es (Bf.want Af.actO fs l x))).run Tryz.prog W = .ok () w1 ∧ Asks es tb fs l uv W0 L w1 ∧ Only (fun j => j = L.dm) W w1 := by
  obtain ⟨fd, h1, h2⟩ := h.told
  have hout : ∀ y, (Bf.mkr l y).isSome = true → y ∈ l.map Ru.out := fun y hy => by
    obtain ⟨i, hi⟩ := Option.isSome_iff_exists.1 hy
    obtain ⟨hk, e⟩ := Bf.mkr_of hi
    exact List.mem_map.2 ⟨_, List.getElem_mem hk, e⟩
  obtain ⟨w1, hr, hv, ht⟩ := h1.laid Tryz.underlying257 (l.map Ru.out) (fun y hy => by
    obtain ⟨v, hv⟩ := Option.isSome_iff_exists.1 hy
    exact hout y (h2 y v hv).1) (by simp; omega) x (by omega) (ansV es (Bf.want Af.actO fs l x))
  have ho : Only (fun j => j = L.dm) W w1 := by
    refine ⟨ht.grown.os, ht.grown.tape, ht.grown.output, ht.grown.size, fun j hj hs => ht.grown.block j hj fun e => hs ?_⟩
    simpa using e
  refine ⟨w1, hr, h.turn ho hv fun y v hy => ?_, ho⟩
  by_cases e : y = x
  · subst e
    rw [if_pos rfl] at hy
    cases hy
    exact ⟨hm, rfl⟩
  · rw [if_neg e] at hy
    exact h2 y v hy
theorem Asks.known {es : Nat → Addr} {tb : Nat} {fs : Tf.Fs} {l : List Ru} {uv : Nat → Value} {W0 W : World} {L : AskL} (h : Asks es tb fs l uv W0 L W) (x : List UInt8) (hx : x.length ≤ 1000) :
    (Instr.lookup 257 (.map (some L.dm)) (.string (ba x)) true).run Tryz.prog W = .ok (.tuple #[.agg #[.string ⟨#[]⟩, .nilIface], .bool false]) W ∨
    (Instr.lookup 257 (.map (some L.dm)) (.string (ba x)) true).run Tryz.prog W = .ok (.tuple #[ansV es (Bf.want Af.actO fs l x), .bool true]) W := by
  obtain ⟨fd, h1, h2⟩ := h.told
  have := h1.look Tryz.underlying257 (Tryz.zeroValue261 W) x (by omega)
  cases hf : fd x with
  | none => rw [hf] at this; exact .inl this
  | some v =>
    rw [hf, (h2 x v hf).2] at this
    exact .inr this
theorem Asks.maker {es : Nat → Addr} {tb : Nat} {fs : Tf.Fs} {l : List Ru} {uv : Nat → Value} {W0 W : World} {L : AskL} (h : Asks es tb fs l uv W0 L W) (x : List UInt8) (hx : x.length ≤ 1000) :
    (Instr.lookup 256 (.map (some L.rm)) (.string (ba x)) true).run Tryz.prog W = .ok (.tuple #[(ruF l uv x).getD (.agg #[.string ⟨#[]⟩, .string ⟨#[]⟩, .string ⟨#[]⟩, .slice none 0 0]), .bool (ruF l uv x).isSome]) W :=
  h.rules.look Tryz.underlying256 (Tryz.zeroValue90 W) x (by omega)
end Go.Proofs.YtmhipgompplkdaaGreatDoor
