import Derived.Test.YtbgkfmodbofalaaGreatDoorPL08
import Derived.Test.YtbgkfmodbofalaaGreatDoorPL03
import Derived.Laws.OwnMore
import Derived.OneCell
import Derived.OwnWalk
import Derived.Test.YtbgkfmodbofalaaGreatDoorPL04
import Derived.Test.YtbgkfmodbofalaaGreatDoorPL07
namespace Go.Proofs.YtbgkfmodbofalaaGreatDoor
namespace Bf
def winB (f : List UInt8 → List UInt8 × Nat) : List (List UInt8) → List (List UInt8) × Nat
  | [] => ([], 0)
  | x :: r => if (f x).2 = 0 then ((f x).1 :: (winB f r).1, (winB f r).2) else ([], (f x).2)
def wrule (act : Act) (f : List UInt8 → List UInt8 × Nat) (r : Ru) : List UInt8 × Nat :=
  if (winB f r.ins).2 = 0 then act r.kind r.word (winB f r.ins).1 else ([], (winB f r.ins).2)
structure Wanted (act : Act) (fs : Tf.Fs) (l : List Ru) (N : Nat → Prop) (f : List UInt8 → List UInt8 × Nat) : Prop where
  rule : ∀ x i, mkr l x = some i → N i → f x = wrule act f (l.getD i ⟨[], [], [], []⟩)
  file : ∀ x b, mkr l x = none → Tf.get fs x = some b → f x = (b, 0)
  lacks : ∀ x, mkr l x = none → Tf.get fs x = none → f x = ([], 6)
theorem winB_congr {f g : List UInt8 → List UInt8 × Nat} : ∀ {a : List (List UInt8)}, (∀ x ∈ a, f x = g x) → winB f a = winB g a
  | [], _ => rfl
  | x :: r, h => by
    unfold winB
    rw [h x (by simp), winB_congr fun y hy => h y (List.mem_cons_of_mem _ hy)]
theorem wrule_congr {act : Act} {f g : List UInt8 → List UInt8 × Nat} {r : Ru} (h : ∀ x ∈ r.ins, f x = g x) : wrule act f r = wrule act g r := by
  unfold wrule
  rw [winB_congr h]
theorem winB_bad {f : List UInt8 → List UInt8 × Nat} : ∀ {a : List (List UInt8)} {x : List UInt8}, x ∈ a → (f x).2 ≠ 0 → (winB f a).2 ≠ 0
  | y :: r, x, hx, h => by
    unfold winB
    by_cases hy : (f y).2 = 0
    · rw [if_pos hy]
      rcases List.mem_cons.1 hx with rfl | hx
      · exact absurd hy h
      · exact winB_bad hx h
    · rw [if_neg hy]; exact hy
theorem winB_in {f : List UInt8 → List UInt8 × Nat} {g : List UInt8 → Option (List UInt8)} : ∀ {a : List (List UInt8)}, (∀ x ∈ a, (∀ b, g x = some b → f x = (b, 0)) ∧ (g x = none → f x = ([], 6))) →
    (∀ o, inB g a = some o → winB f a = (o, 0)) ∧ (inB g a = none → (winB f a).2 = 6)
  | [], _ => ⟨fun o h => by cases h; rfl, fun h => by cases h⟩
  | x :: r, h => by
    have ih := winB_in (f := f) (g := g) fun y hy => h y (List.mem_cons_of_mem _ hy)
    have hx := h x (by simp)
    unfold inB winB
    cases hg : g x with
    | none =>
      have e := hx.2 hg
      refine ⟨fun o ho => by simp at ho, fun _ => ?_⟩
      rw [e]; rfl
    | some b =>
      have e := hx.1 b hg
      rw [e]
      cases hr : inB g r with
      | none =>
        refine ⟨fun o ho => by simp at ho, fun _ => ?_⟩
        exact ih.2 hr
      | some q =>
        refine ⟨fun o ho => ?_, fun hn => by simp at hn⟩
        obtain rfl : b :: q = o := by simpa using ho
        rw [ih.1 q hr]; rfl
theorem mkr_of {l : List Ru} {x : List UInt8} {k : Nat} (h : mkr l x = some k) : ∃ hk : k < l.length, l[k].out = x := by
  unfold mkr at h
  obtain ⟨hk, h1, _⟩ := List.findIdx?_eq_some_iff_getElem.1 h
  exact ⟨hk, by simpa using h1⟩
theorem getD_at {l : List Ru} {k : Nat} (hk : k < l.length) : l.getD k ⟨[], [], [], []⟩ = l[k] := by
  rw [List.getD_eq_getElem?_getD, List.getElem?_eq_getElem hk]; rfl
theorem Wanted.one {act : Act} {fs : Tf.Fs} {l : List Ru} {N : Nat → Prop} {f g : List UInt8 → List UInt8 × Nat} (hf : Wanted act fs l N f) (hg : Wanted act fs l N g) (hcl : ∀ i k, N i → Ru.needs l i k = true → N k) {r : Nat → Nat} (hr : ∀ i k, N i → Ru.needs l i k = true → r k < r i) : ∀ x, (∀ i, mkr l x = some i → N i) → f x = g x := by
  have leaf : ∀ x, mkr l x = none → f x = g x := fun x hx => by
    cases hb : Tf.get fs x with
    | none => rw [hf.lacks x hx hb, hg.lacks x hx hb]
    | some b => rw [hf.file x b hx hb, hg.file x b hx hb]
  have main : ∀ n i, r i < n → N i → ∀ x, mkr l x = some i → f x = g x := by
    intro n
    induction n with
    | zero => intro i h; omega
    | succ n ih =>
      intro i hi hN x hx
      rw [hf.rule x i hx hN, hg.rule x i hx hN]
      obtain ⟨hk, _⟩ := mkr_of hx
      rw [getD_at hk]
      refine wrule_congr fun y hy => ?_
      cases hm : mkr l y with
      | none => exact leaf y hm
      | some j =>
        obtain ⟨hj, ej⟩ := mkr_of hm
        have hn : Ru.needs l i j = true := by
          rw [Ru.needs_eq hk hj, ej]
          exact decide_eq_true hy
        exact ih j (by have := hr i j hN hn; omega) (hcl i j hN hn) y hm
  intro x hN
  cases hm : mkr l x with
  | none => exact leaf x hm
  | some i => exact main _ i (Nat.lt_succ_self _) (hN i hm) x hm
def wantF (act : Act) (fs : Tf.Fs) (l : List Ru) : Nat → List UInt8 → List UInt8 × Nat
  | 0, _ => ([], 0)
  | n + 1, x =>
    match mkr l x with
    | some i => wrule act (wantF act fs l n) (l.getD i ⟨[], [], [], []⟩)
    | none => match Tf.get fs x with
      | some b => (b, 0)
      | none => ([], 6)
theorem wantF_enough {act : Act} {fs : Tf.Fs} {l : List Ru} {N : Nat → Prop} (hcl : ∀ i k, N i → Ru.needs l i k = true → N k) {r : Nat → Nat} (hr : ∀ i k, N i → Ru.needs l i k = true → r k < r i) : ∀ (n m : Nat) (x : List UInt8), 1 ≤ n → 1 ≤ m → (∀ i, mkr l x = some i → N i ∧ r i + 2 ≤ n ∧ r i + 2 ≤ m) → wantF act fs l n x = wantF act fs l m x
  | 0, _, _, h, _, _ => by omega
  | _, 0, _, _, h, _ => by omega
  | n + 1, m + 1, x, _, _, h => by
    unfold wantF
    cases hm : mkr l x with
    | none => rfl
    | some i =>
      obtain ⟨hk, _⟩ := mkr_of hm
      have hb := h i hm
      simp only
      rw [getD_at hk]
      refine wrule_congr fun y hy => ?_
      refine wantF_enough hcl hr n m y (by omega) (by omega) fun j hj => ?_
      obtain ⟨hj', ej⟩ := mkr_of hj
      have hnd : Ru.needs l i j = true := by rw [Ru.needs_eq hk hj', ej]; exact decide_eq_true hy
      have := hr i j hb.1 hnd
      exact ⟨hcl i j hb.1 hnd, by omega, by omega⟩
theorem wanted_is {act : Act} {fs : Tf.Fs} {l : List Ru} {N : Nat → Prop} (hcl : ∀ i k, N i → Ru.needs l i k = true → N k) {r : Nat → Nat} (hr : ∀ i k, N i → Ru.needs l i k = true → r k < r i) {n : Nat} (hn : ∀ i, i < l.length → N i → r i + 2 ≤ n) (h1 : 1 ≤ n) : Wanted act fs l N (wantF act fs l n) := by
  obtain ⟨m, rfl⟩ : ∃ m, n = m + 1 := ⟨n - 1, by omega⟩
  refine ⟨fun x i hx hN => ?_, fun x b hx hb => ?_, fun x hx hb => ?_⟩
  · obtain ⟨hk, _⟩ := mkr_of hx
    have hb := hn i hk hN
    conv => lhs; unfold wantF
    rw [hx]
    simp only
    rw [getD_at hk]
    refine wrule_congr fun y hy => ?_
    refine wantF_enough hcl hr m (m + 1) y (by omega) (by omega) fun j hj => ?_
    obtain ⟨hj', ej⟩ := mkr_of hj
    have hnd : Ru.needs l i j = true := by rw [Ru.needs_eq hk hj', ej]; exact decide_eq_true hy
    have := hr i j hN hnd
    exact ⟨hcl i j hN hnd, by omega, by omega⟩
  · unfold wantF
    rw [hx, hb]
  · unfold wantF
    rw [hx, hb]
def CSound (act : Act) : Ca → Prop
  | some (_, l) => ∀ e ∈ l, ∀ k w xs, Kp.key k w xs = e.1 → act k w xs = (e.2, 0)
  | none => True
theorem CSound.find {act : Act} {c : Ca} (h : CSound act c) {k w : List UInt8} {xs : List (List UInt8)} {s : List UInt8} (hf : cfind c (Kp.key k w xs) = some s) : act k w xs = (s, 0) := by
  cases c with
  | none => cases hf
  | some c => exact h _ (Cf.find_some hf) k w xs rfl
theorem CSound.put {act : Act} {c : Ca} (h : CSound act c) {k w : List UInt8} {xs : List (List UInt8)} (h0 : (act k w xs).2 = 0) : CSound act (cput c (Kp.key k w xs) (act k w xs).1) := by
  cases c with
  | none => trivial
  | some c =>
    intro e he k' w' xs' hk
    rcases mem_put he with h1 | h1
    · exact h e h1 k' w' xs' hk
    · subst h1
      obtain ⟨rfl, rfl, rfl⟩ := Kp.key_inj.1 hk
      exact Prod.ext rfl h0
theorem CSound.get {act : Act} {c : Ca} (h : CSound act c) (k : List UInt8) : CSound act (cget c k) := by
  cases c with
  | none => trivial
  | some c =>
    intro e he
    have he' : e ∈ Cf.get c.1 c.2 k := he
    unfold Cf.get at he'
    split at he'
    · rename_i b hb
      rcases mem_put he' with h1 | h1
      · exact h e h1
      · rw [h1]; exact h _ (Cf.find_some hb)
    · exact h e he'
structure Makes (act : Act) (N : Nat → Prop) (f : List UInt8 → List UInt8 × Nat) (d : Bd) : Prop where
  inN : ∀ k, (d.st k).isNo = false → N k
  done : ∀ k s b, d.st k = .done s b → wrule act f (d.rule k) = (s, 0)
  bad : ∀ k, (d.st k).isBad = true → (wrule act f (d.rule k)).2 ≠ 0
theorem Makes.init {act : Act} {N : Nat → Prop} {f : List UInt8 → List UInt8 × Nat} {d : Bd} (hN : ∀ k, (d.st k).isNo = false → N k) (h : ∀ k, (d.st k).isWaits = true ∨ (d.st k).isNo = true) : Makes act N f d := by
  refine ⟨hN, fun k s b e => ?_, fun k hb => ?_⟩
  · rcases h k with h | h <;> rw [e] at h <;> cases h
  · cases hs : d.st k <;> rw [hs] at hb <;> have h := h k <;> rw [hs] at h <;> first | (rcases h with h | h <;> cases h; done) | cases hb
theorem wrule_needs {act : Act} {fs : Tf.Fs} {l : List Ru} {N : Nat → Prop} {f : List UInt8 → List UInt8 × Nat} (hw : Wanted act fs l N f) (hA : ∀ k (hk : k < l.length), mkr l l[k].out = some k) {k j : Nat} (hn : Ru.needs l k j = true) (hN : N j) (hb : (wrule act f (l.getD j ⟨[], [], [], []⟩)).2 ≠ 0) : (wrule act f (l.getD k ⟨[], [], [], []⟩)).2 ≠ 0 := by
  obtain ⟨hk, hj⟩ := Ru.needs_lt hn
  rw [Ru.needs_eq hk hj] at hn
  have hm := of_decide_eq_true hn
  have e := hw.rule _ j (hA j hj) hN
  rw [← e] at hb
  have := winB_bad (f := f) hm hb
  rw [getD_at hk]
  unfold wrule
  rw [if_neg this]
  exact this
theorem Makes.set {act : Act} {N : Nat → Prop} {f : List UInt8 → List UInt8 × Nat} {d : Bd} (h : Makes act N f d) {i : Nat} (hi : N i) {s : List UInt8} {b : Bool} (hs : wrule act f (d.rule i) = (s, 0)) : Makes act N f (d.set i (.done s b)) := by
  refine ⟨fun k hk => ?_, fun k s' b' e => ?_, fun k hb => ?_⟩
  · have hk' : (setS d.st i (.done s b) k).isNo = false := hk
    by_cases e : k = i
    · subst e; exact hi
    · rw [setS_other e] at hk'; exact h.inN k hk'
  · have e' : setS d.st i (.done s b) k = .done s' b' := e
    by_cases hk : k = i
    · subst hk
      rw [setS_same] at e'
      injection e' with e1 e2
      rw [← e1]; exact hs
    · rw [setS_other hk] at e'
      exact h.done k s' b' e'
  · have e' : (setS d.st i (.done s b) k).isBad = true := hb
    by_cases hk : k = i
    · subst hk
      rw [setS_same] at e'
      cases e'
    · rw [setS_other hk] at e'
      exact h.bad k e'
theorem Makes.fail {act : Act} {fs : Tf.Fs} {N : Nat → Prop} {f : List UInt8 → List UInt8 × Nat} {d : Bd} (hw : Wanted act fs d.l N f) (hA : ∀ k (hk : k < d.l.length), mkr d.l d.l[k].out = some k) (h : Makes act N f d) {i c : Nat} (hi : N i) (hs : (wrule act f (d.rule i)).2 ≠ 0) : Makes act N f (d.fail i c) := by
  have hN0 : ∀ k, (setS d.st i (.failed c) k).isNo = false → N k := fun k hk => by
    by_cases e : k = i
    · subst e; exact hi
    · rw [setS_other e] at hk; exact h.inN k hk
  have no_bad : ∀ s : St, s.isBad = true → s.isNo = false := fun s hs => by cases s <;> first | rfl | cases hs
  have no_waits : ∀ s : St, s.isWaits = true → s.isNo = false := fun s hs => by cases s <;> first | rfl | cases hs
  have hbad0 : ∀ k, (setS d.st i (.failed c) k).isBad = true → (wrule act f (d.rule k)).2 ≠ 0 := fun k hb => by
    by_cases hk : k = i
    · subst hk; exact hs
    · rw [setS_other hk] at hb
      exact h.bad k hb
  have hch : ∀ k, Chain d.l (setS d.st i (.failed c)) k → (wrule act f (d.rule k)).2 ≠ 0 := fun k hc => by
    induction hc with
    | one hn hb => exact wrule_needs hw hA hn (hN0 _ (no_bad _ hb)) (hbad0 _ hb)
    | more hn hwt _ ih => exact wrule_needs hw hA hn (hN0 _ (no_waits _ hwt)) ih
  refine ⟨fun k hk => ?_, fun k s' b' e => ?_, fun k hb => ?_⟩
  · have hk' : (spread d.l (setS d.st i (.failed c)) k).isNo = false := hk
    unfold spread at hk'
    split at hk'
    · rename_i hx; exact hN0 k (no_waits _ hx.1)
    · exact hN0 k hk'
  · have e' : spread d.l (setS d.st i (.failed c)) k = .done s' b' := e
    unfold spread at e'
    split at e'
    · cases e'
    · by_cases hk : k = i
      · subst hk
        rw [setS_same] at e'
        cases e'
      · rw [setS_other hk] at e'
        exact h.done k s' b' e'
  · have e' : (spread d.l (setS d.st i (.failed c)) k).isBad = true := hb
    unfold spread at e'
    split at e'
    · rename_i hx; exact hch k hx.2
    · exact hbad0 k e'
theorem go_makes {act : Act} {N : Nat → Prop} {f : List UInt8 → List UInt8 × Nat} {c : Ca} {d : Bd} (hw : Wanted act d.fs d.l N f) (hA : ∀ k (hk : k < d.l.length), mkr d.l d.l[k].out = some k) (hc : CSound act c) (h : Makes act N f d) {i : Nat} (hi : i < d.l.length) (hr : d.isReady i = true) :
    Makes act N f (go act c d i).d ∧ CSound act (go act c d i).c := by
  have hNi : N i := h.inN i (by rw [ready_waits hr]; rfl)
  have hin : ∀ x ∈ (d.rule i).ins, (∀ b, d.bytes x = some b → f x = (b, 0)) ∧ (d.bytes x = none → f x = ([], 6)) := fun x hx => by
    unfold Bd.bytes
    cases hm : mkr d.l x with
    | none => exact ⟨fun b hb => hw.file x b hm hb, fun hb => hw.lacks x hm hb⟩
    | some j =>
      obtain ⟨hj, ej⟩ := mkr_of hm
      have hn : Ru.needs d.l i j = true := by
        rw [Ru.needs_eq hi hj, ej]
        unfold Bd.rule at hx
        rw [getD_at hi] at hx
        exact decide_eq_true hx
      have hd := ready_free hr hj hn
      refine ⟨fun b hb => ?_, fun hb => by cases hb⟩
      cases hs : d.st j with
      | done s b' =>
        have e1 : (d.st j).out = b := by simpa using hb
        rw [hs] at e1
        have e2 : s = b := e1
        subst e2
        rw [hw.rule x j hm (h.inN j (by rw [hs]; rfl))]
        exact h.done j s b' hs
      | no => rw [hs] at hd; cases hd
      | waits => rw [hs] at hd; cases hd
      | failed _ => rw [hs] at hd; cases hd
      | left => rw [hs] at hd; cases hd
  have hI := winB_in (f := f) (g := d.bytes) hin
  unfold go
  split
  · rename_i hn
    refine ⟨Makes.fail hw hA h hNi ?_, hc⟩
    have h6 := hI.2 hn
    unfold wrule
    rw [if_neg (by omega)]
    show (winB f (d.rule i).ins).2 ≠ 0
    omega
  · rename_i xs hx
    have e := hI.1 xs hx
    have er : wrule act f (d.rule i) = act (d.rule i).kind (d.rule i).word xs := by
      unfold wrule
      rw [e, if_pos rfl]
    split
    · rename_i s hs
      exact ⟨h.set hNi (er.trans (hc.find hs)), hc.get _⟩
    · split
      · rename_i h0
        exact ⟨h.set hNi (er.trans (Prod.ext rfl h0)), hc.put h0⟩
      · rename_i h0
        exact ⟨Makes.fail hw hA h hNi (by rw [er]; exact h0), hc⟩
theorem go_same (act : Act) (c : Ca) (d : Bd) (i : Nat) : (go act c d i).d.l = d.l ∧ (go act c d i).d.fs = d.fs := by
  unfold go
  split
  · exact ⟨rfl, rfl⟩
  · split
    · exact ⟨rfl, rfl⟩
    · split <;> exact ⟨rfl, rfl⟩
theorem run_makes {act : Act} {N : Nat → Prop} {f : List UInt8 → List UInt8 × Nat} {c : Ca} {d : Bd} (hw : Wanted act d.fs d.l N f) (hA : ∀ k (hk : k < d.l.length), mkr d.l d.l[k].out = some k) (hc : CSound act c) (h : Makes act N f d) (i : Int) :
    Makes act N f (run act c d i).d ∧ CSound act (run act c d i).c := by
  unfold run
  split
  · exact ⟨h, hc⟩
  · rename_i hi
    unfold runN
    split
    · exact ⟨h, hc⟩
    · split
      · exact ⟨h, hc⟩
      · split
        · exact ⟨h, hc⟩
        · rename_i hr
          exact go_makes hw hA hc h (by omega) (by simpa using hr)
theorem allF_makes {act : Act} {N : Nat → Prop} {f : List UInt8 → List UInt8 × Nat} : ∀ (n : Nat) {c : Ca} {d : Bd}, Wanted act d.fs d.l N f → (∀ k (hk : k < d.l.length), mkr d.l d.l[k].out = some k) → CSound act c → Makes act N f d → Makes act N f (allF act n c d).1 ∧ CSound act (allF act n c d).2 ∧ (allF act n c d).1.l = d.l ∧ (allF act n c d).1.fs = d.fs
  | 0, _, _, _, _, hc, h => ⟨h, hc, rfl, rfl⟩
  | n + 1, c, d, hw, hA, hc, h => by
    unfold allF
    cases hr : d.ready with
    | nil => exact ⟨h, hc, rfl, rfl⟩
    | cons i r =>
      have hm := mem_ready.1 (show i ∈ d.ready by rw [hr]; simp)
      obtain ⟨g1, g2⟩ := go_makes hw hA hc h hm.1 hm.2
      obtain ⟨e1, e2⟩ := go_same act c d i
      have hw' : Wanted act (go act c d i).d.fs (go act c d i).d.l N f := by rw [e1, e2]; exact hw
      have hA' : ∀ k (hk : k < (go act c d i).d.l.length), mkr (go act c d i).d.l (go act c d i).d.l[k].out = some k := by rw [e1]; exact hA
      obtain ⟨a1, a2, a3, a4⟩ := allF_makes n hw' hA' g2 g1
      exact ⟨a1, a2, a3.trans e1, a4.trans e2⟩
theorem all_makes {act : Act} {N : Nat → Prop} {f : List UInt8 → List UInt8 × Nat} {c : Ca} {d : Bd} (hw : Wanted act d.fs d.l N f) (hA : ∀ k (hk : k < d.l.length), mkr d.l d.l[k].out = some k) (hc : CSound act c) (h : Makes act N f d) : Makes act N f (all act c d).1 ∧ CSound act (all act c d).2 ∧ (all act c d).1.l = d.l ∧ (all act c d).1.fs = d.fs :=
  allF_makes _ hw hA hc h
end Bf
end Go.Proofs.YtbgkfmodbofalaaGreatDoor
namespace Go.Proofs.YtbgkfmodbofalaaGreatDoor
theorem Cf.mem_keys {l : Cf.Ens} {x : List UInt8} : x ∈ Cf.keys l ↔ ∃ b, (x, b) ∈ l := by
  unfold Cf.keys
  rw [List.mem_map]
  exact ⟨fun ⟨e, he, h⟩ => ⟨e.2, by rw [← h]; exact he⟩, fun ⟨b, h⟩ => ⟨_, h, rfl⟩⟩
theorem Cf.keys_rmB {l : Cf.Ens} {k x : List UInt8} : x ∈ Cf.keys (Cf.rm l k) ↔ x ∈ Cf.keys l ∧ x ≠ k := by
  rw [Cf.mem_keys, Cf.mem_keys]
  exact ⟨fun ⟨b, h⟩ => ⟨⟨b, (Cf.mem_rm.1 h).1⟩, (Cf.mem_rm.1 h).2⟩, fun ⟨⟨b, h⟩, hn⟩ => ⟨b, Cf.mem_rm.2 ⟨h, hn⟩⟩⟩
theorem Cf.keys_put {m : Nat} {l : Cf.Ens} {k b : List UInt8} (hm : (Cf.rm l k ++ [(k, b)]).length ≤ m) {x : List UInt8} : x ∈ Cf.keys (Cf.put m l k b) ↔ x ∈ Cf.keys l ∨ x = k := by
  unfold Cf.put Cf.cut
  rw [if_neg (by omega)]
  have e : Cf.keys (Cf.rm l k ++ [(k, b)]) = Cf.keys (Cf.rm l k) ++ [k] := by unfold Cf.keys; simp
  rw [e, List.mem_append, Cf.keys_rmB, List.mem_singleton]
  by_cases hx : x = k
  · simp [hx]
  · simp [hx]
namespace Bf
def kkey (f : List UInt8 → List UInt8 × Nat) (r : Ru) : List UInt8 := Kp.key r.kind r.word (winB f r.ins).1
structure Held (f : List UInt8 → List UInt8 × Nat) (d : Bd) (es : Cf.Ens) : Prop where
  once : (Cf.keys es).Nodup
  sub : ∀ x ∈ Cf.keys es, ∃ k, k < d.l.length ∧ (d.st k).isDone = true ∧ x = kkey f (d.rule k)
  has : ∀ k, (d.st k).isDone = true → kkey f (d.rule k) ∈ Cf.keys es
theorem Held.nil {f : List UInt8 → List UInt8 × Nat} {d : Bd} (h : ∀ k, (d.st k).isDone = false) : Held f d [] :=
  ⟨List.nodup_nil, fun x hx => by simp [Cf.keys] at hx, fun k hk => by rw [h k] at hk; cases hk⟩
theorem few_of {f : List UInt8 → List UInt8 × Nat} {d : Bd} {a : List (List UInt8)} (h : a.Nodup) (hs : ∀ x ∈ a, ∃ k, k < d.l.length ∧ x = kkey f (d.rule k)) : a.length ≤ d.l.length := by
  have := Cf.nodup_len (a := a) (b := (List.range d.l.length).map fun k => kkey f (d.rule k)) h fun x hx => by
    obtain ⟨k, hk, e⟩ := hs x hx
    exact List.mem_map.2 ⟨k, List.mem_range.2 hk, e.symm⟩
  simpa using this
theorem Held.few {f : List UInt8 → List UInt8 × Nat} {d : Bd} {es : Cf.Ens} (h : Held f d es) : es.length ≤ d.l.length := by
  have := few_of (f := f) (d := d) h.once fun x hx => by
    obtain ⟨k, hk, _, e⟩ := h.sub x hx
    exact ⟨k, hk, e⟩
  simpa [Cf.keys] using this
theorem Held.put {f : List UInt8 → List UInt8 × Nat} {d : Bd} {es : Cf.Ens} (h : Held f d es) {m : Nat} (hm : d.l.length ≤ m) {i : Nat} (hi : i < d.l.length) (s v : List UInt8) (b : Bool) (hw : (d.st i).isDone = false) : Held f (d.set i (.done s b)) (Cf.put m es (kkey f (d.rule i)) v) := by
  have ho := Cf.put_once h.once (kkey f (d.rule i)) v
  have hsub : ∀ x ∈ Cf.keys (Cf.rm es (kkey f (d.rule i)) ++ [(kkey f (d.rule i), v)]), ∃ k, k < d.l.length ∧ x = kkey f (d.rule k) := fun x hx => by
    have e : Cf.keys (Cf.rm es (kkey f (d.rule i)) ++ [(kkey f (d.rule i), v)]) = Cf.keys (Cf.rm es (kkey f (d.rule i))) ++ [kkey f (d.rule i)] := by unfold Cf.keys; simp
    rw [e, List.mem_append, List.mem_singleton] at hx
    rcases hx with hx | hx
    · obtain ⟨k, hk, _, e⟩ := h.sub x (Cf.keys_rmB.1 hx).1
      exact ⟨k, hk, e⟩
    · exact ⟨i, hi, hx⟩
  have hlen := few_of (f := f) (d := d) ho hsub
  have hlen' : (Cf.rm es (kkey f (d.rule i)) ++ [(kkey f (d.rule i), v)]).length ≤ m := by
    have : (Cf.keys (Cf.rm es (kkey f (d.rule i)) ++ [(kkey f (d.rule i), v)])).length = (Cf.rm es (kkey f (d.rule i)) ++ [(kkey f (d.rule i), v)]).length := by unfold Cf.keys; simp
    omega
  have hst : ∀ k, (d.set i (.done s b)).st k = setS d.st i (.done s b) k := fun k => rfl
  have hdone : ∀ k, ((d.set i (.done s b)).st k).isDone = true ↔ (d.st k).isDone = true ∨ k = i := fun k => by
    rw [hst]
    by_cases e : k = i
    · subst e; rw [setS_same]; simp [St.isDone]
    · rw [setS_other e]; simp [e]
  refine ⟨?_, fun x hx => ?_, fun k hk => ?_⟩
  · have : Cf.put m es (kkey f (d.rule i)) v = Cf.rm es (kkey f (d.rule i)) ++ [(kkey f (d.rule i), v)] := by
      unfold Cf.put Cf.cut
      rw [if_neg (by omega)]
    rw [this]; exact ho
  · rcases (Cf.keys_put hlen').1 hx with h1 | h1
    · obtain ⟨k, hk, hd, e⟩ := h.sub x h1
      exact ⟨k, hk, (hdone k).2 (.inl hd), e⟩
    · exact ⟨i, hi, (hdone i).2 (.inr rfl), h1⟩
  · refine (Cf.keys_put hlen').2 ?_
    rcases (hdone k).1 hk with h1 | h1
    · exact .inl (h.has k h1)
    · right; rw [h1]; rfl
theorem fail_done {d : Bd} {i c : Nat} (hw : d.st i = .waits) (k : Nat) : ((d.fail i c).st k).isDone = (d.st k).isDone := by
  show (spread d.l (setS d.st i (.failed c)) k).isDone = _
  unfold spread
  split
  · rename_i hx
    by_cases e : k = i
    · subst e; rw [hw]; rfl
    · rw [setS_other e] at hx
      rw [St.waits_eq hx.1]; rfl
  · by_cases e : k = i
    · subst e; rw [setS_same, hw]; rfl
    · rw [setS_other e]
theorem Held.fail {f : List UInt8 → List UInt8 × Nat} {d : Bd} {es : Cf.Ens} (h : Held f d es) {i c : Nat} (hw : d.st i = .waits) : Held f (d.fail i c) es :=
  ⟨h.once, fun x hx => by
    obtain ⟨k, hk, hd, e⟩ := h.sub x hx
    exact ⟨k, hk, by rw [fail_done hw]; exact hd, e⟩, fun k hk => h.has k (by rw [fail_done hw] at hk; exact hk)⟩
def CHeld (f : List UInt8 → List UInt8 × Nat) (d : Bd) : Ca → Prop
  | some (m, es) => d.l.length ≤ m ∧ Held f d es
  | none => False
def Full (act : Act) (f : List UInt8 → List UInt8 × Nat) (l : List Ru) : Ca → Prop
  | some (m, es) => Cf.Ok m es ∧ ∀ k, k < l.length → (wrule act f (l.getD k ⟨[], [], [], []⟩)).2 = 0 → kkey f (l.getD k ⟨[], [], [], []⟩) ∈ Cf.keys es
  | none => False
def Fresh (d : Bd) : Prop := ∀ k s b, d.st k = .done s b → b = false
theorem go_fresh {act : Act} {d : Bd} (hf : Fresh d) (i : Nat) : Fresh (go act none d i).d ∧ (go act none d i).c = none := by
  have hfail : ∀ e, Fresh (d.fail i e) := fun e k s b hk => by
    have hk' : spread d.l (setS d.st i (.failed e)) k = .done s b := hk
    unfold spread at hk'
    split at hk'
    · cases hk'
    · by_cases e : k = i
      · subst e; rw [setS_same] at hk'; cases hk'
      · rw [setS_other e] at hk'; exact hf k s b hk'
  unfold go
  split
  · exact ⟨hfail _, rfl⟩
  · split
    · rename_i s hs; cases hs
    · split
      · refine ⟨fun k s' b hk => ?_, rfl⟩
        have hk' : setS d.st i (.done _ false) k = .done s' b := hk
        by_cases e : k = i
        · subst e; rw [setS_same] at hk'; injection hk' with _ e2; exact e2.symm
        · rw [setS_other e] at hk'; exact hf k s' b hk'
      · exact ⟨hfail _, rfl⟩
end Bf
end Go.Proofs.YtbgkfmodbofalaaGreatDoor
namespace Go.Proofs.YtbgkfmodbofalaaGreatDoor
open Go.RowKit Go.Shelf Go.Lib
def rowB (n : Nat) (f : Nat → Bool) : List Value := (List.range n).map (fun j => Value.bool (f j))
theorem rowB_get {n : Nat} (f : Nat → Bool) {j : Nat} (h : j < n) : (rowB n f)[j]? = some (.bool (f j)) := by
  simp [rowB, h]
theorem rowB_congr {n : Nat} {f g : Nat → Bool} (h : ∀ j, j < n → f j = g j) : rowB n f = rowB n g := by
  unfold rowB
  exact List.map_congr_left fun j hj => by rw [h j (List.mem_range.1 hj)]
theorem rowB_set (n : Nat) (f : Nat → Bool) (k : Nat) (b : Bool) : (rowB n f).set k (.bool b) = rowB n (fun j => if j = k then b else f j) := by
  apply List.ext_getElem?
  intro j
  unfold rowB
  rw [List.getElem?_set]
  by_cases hj : j < n
  · by_cases e : k = j
    · subst e; simp [hj]
    · have e' : ¬ j = k := fun h => e h.symm
      simp [hj, e, e']
  · by_cases e : k = j
    · subst e; simp [hj]
    · simp [hj, e]
theorem rowB_none (n : Nat) : List.replicate n (Value.bool false) = rowB n (fun _ => false) := by
  unfold rowB
  rw [List.map_const']
  simp
def Own (W : World) (B g n : Nat) (f : Nat → Bool) : Prop := W.ownsRow B 4 1 (.slice (some ⟨g, 0, none⟩) n n) n (rowB n f)
theorem Own.cell {W : World} {B g n : Nat} {f : Nat → Bool} (h : Own W B g n f) {j : Nat} (hj : j < n) : W.cell? ⟨g, j, none⟩ = some (.bool (f j)) := by
  have := World.ownsRow.cellAt h j (by omega)
  rw [this, rowB_get f hj]
theorem Own.lt {W : World} {B g n : Nat} {f : Nat → Bool} (h : Own W B g n f) : g < W.heap.size ∧ B ≤ g := by
  rcases h.2 with ⟨h', _⟩ | ⟨g', cap', cur, h', hb, hg, _⟩
  · cases h'
  · cases h'
    exact ⟨(Array.getElem?_eq_some_iff.1 hg).1, hb⟩
theorem Own.grown {W W' : World} {B g n : Nat} {f : Nat → Bool} (h : Own W B g n f) (hg : W.grownBy W' none) : Own W' B g n f :=
  World.ownsRow.kept h hg (.inr (by simp [Value.ownBlock]))
theorem Own.other {W : World} {B g n : Nat} {f : Nat → Bool} (h : Own W B g n f) {g' : Nat} (hne : g ≠ g') (k : Nat) (u : Value) : Own (W.setCell ⟨g', k, none⟩ u) B g n f :=
  ownsRow_setCell_other h (by simp [Value.ownBlock, hne]) u
theorem Own.set {W : World} {B g n : Nat} {f f' : Nat → Bool} (h : Own W B g n f) (k : Nat) (b : Bool) (hf : ∀ j, j < n → (if j = k then b else f j) = f' j) : Own (W.setCell ⟨g, k, none⟩ (.bool b)) B g n f' := by
  have := (World.ownsRow.stored h k (.bool b)).1
  rw [rowB_set, rowB_congr hf] at this
  exact this
theorem below_grown {B : Nat} {w W W' : World} (hB : Below B w W) (hn : B ≤ W.heap.size) (hg : W.grownBy W' none) : Below B w W' :=
  hB.grown hg hn (fun j e => by cases e)
theorem Tryz.infoBool : (Tryz.prog.info? 4).map (fun i => (i.zero, i.size, i.bytes)) = some (some (.bool false), 1, 1) := by kernel_rfl
theorem made_row {W : World} {B g n : Nat} (h : W.ownsRow B 4 1 (.slice (some ⟨g, 0, none⟩) n n) n (madeCells (Value.bool false).cells (n * 1)).toList) : Own W B g n (fun _ => false) := by
  have e : (madeCells (Value.bool false).cells (n * 1)).toList = rowB n (fun _ => false) := by
    rw [Nat.mul_one, ← rowB_none]
    exact toList_madeCells_one _ _
  rw [e] at h
  exact h
theorem Own.below {W W' : World} {B g n : Nat} {f : Nat → Bool} (h : Own W B g n f) (hB : Below W.heap.size W W') : Own W' B g n f := by
  have hl := h.lt.1
  refine ⟨h.1, ?_⟩
  rcases h.2 with ⟨h', _⟩ | ⟨g', cap', cur, h', hb, hg, r⟩
  · cases h'
  · cases h'
    exact .inr ⟨g, n, cur, rfl, hb, (hB.block g hl).trans hg, r⟩
end Go.Proofs.YtbgkfmodbofalaaGreatDoor
namespace Go.Proofs.YtbgkfmodbofalaaGreatDoor
open Go.RowKit Go.Shelf Go.Lib
theorem Tryz.infoInt : (Tryz.prog.info? 3).map (fun i => (i.zero, i.size, i.bytes)) = some (some (.int .i64 0), 1, 8) := by kernel_rfl
abbrev nv (x : Nat) : Value := .int .i64 (x : Int)
def slen : Value → Nat
  | .slice _ n _ => n
  | _ => 0
def NRow (w : World) (v : Value) (l : List Nat) : Prop :=
  ∃ p cap, v = .slice p l.length cap ∧ l.length ≤ cap ∧ (l ≠ [] → ∃ g cur, p = some ⟨g, 0, none⟩ ∧ w.heap[g]? = some (.cells cur 3 (0, 0)) ∧ ∀ j (hj : j < l.length), cur[j]? = some (nv l[j]))
theorem NRow.of_owns {w : World} {base : Nat} {v : Value} {l : List Nat} {n : Nat} (h : w.ownsRow base 3 1 v n (l.map nv)) : NRow w v l := by
  have hn : n = l.length := by have := h.1; simp at this; omega
  subst hn
  rcases h.2 with ⟨rfl, hn⟩ | ⟨g, cap, cur, rfl, _, hb, h1, _, _, h4⟩
  · obtain rfl : l = [] := by simpa using hn
    exact ⟨none, 0, rfl, Nat.le_refl _, fun h => absurd rfl h⟩
  · refine ⟨_, cap, rfl, h1, fun _ => ⟨g, cur, rfl, hb, fun j hj => ?_⟩⟩
    have := congrArg (fun x => x[j]?) h4
    simp only [Nat.mul_one, List.getElem?_take, hj, if_true, List.getElem?_map, List.getElem?_eq_getElem hj, Option.map_some, Array.getElem?_toList] at this
    exact this
theorem NRow.below {w w' : World} {v : Value} {l : List Nat} (h : NRow w v l) (hb : Below w.heap.size w w') : NRow w' v l := by
  obtain ⟨p, cap, e, h0, h1⟩ := h
  refine ⟨p, cap, e, h0, fun hl => ?_⟩
  obtain ⟨g, cur, e, hg, hc⟩ := h1 hl
  exact ⟨g, cur, e, (hb.block g (Array.getElem?_eq_some_iff.1 hg).1).trans hg, hc⟩
theorem owns_slen {w : World} {base : Nat} {e : TypeId} {size : Nat} {v : Value} {n : Nat} {xs : List Value} (h : w.ownsRow base e size v n xs) : slen v = n := by
  rcases h.2 with ⟨rfl, hn⟩ | ⟨g, cap, cur, rfl, _⟩
  · exact hn.symm
  · rfl
theorem owns_other {w w1 : World} {base base' : Nat} {e e' : TypeId} {size size' : Nat} {v u : Value} {n n' : Nat} {xs xs' : List Value} (h : w.ownsRow base e size v n xs) (hu : w.ownsRow base' e' size' u n' xs') (he : e ≠ e') (hg : w.grownBy w1 u.ownBlock) : w1.ownsRow base e size v n xs := by
  refine h.kept hg ?_
  rcases h.2 with ⟨rfl, _⟩ | ⟨g, cap, cur, rfl, _, hb, _⟩
  · exact .inl rfl
  · right
    rcases hu.2 with ⟨rfl, _⟩ | ⟨g', cap', cur', rfl, _, hb', _⟩
    · simp [Value.ownBlock]
    · simp only [Value.ownBlock, ne_eq, Option.some.injEq]
      rintro rfl
      rw [hb] at hb'
      simp at hb'
      exact he hb'.2
theorem one_new (W : World) (x : Value) (t : TypeId) (n : Nat) (hn : W.heap.size = n) (j : Nat) (u : Value) (h : [x][j]? = some u) : (W.alloc (.cells #[x] t)).cell? ((⟨n, 0, none⟩ : Addr).add j) = some u := by
  subst hn
  exact cell_one_new W x t j u h
set_option maxRecDepth 100000 in
set_option maxHeartbeats 4000000 in
theorem AllOf_calls (n : Nat) (hn : n ≤ 1000) (w : World) :
    Calls Tryz.prog 50 #[.int .i64 n] w fun e w' => ∃ g, e = .returned (.slice (some ⟨g, 0, none⟩) n n) ∧ Own w' w.heap.size g n (fun _ => true) ∧ Below w.heap.size w w' := by
  obtain ⟨i0, hi, hz0, hz1, hz2⟩ := info_parts Tryz.infoBool
  have hml : n ≤ maxLen := by unfold maxLen; omega
  have hby : i0.bytes * n ≤ 281474976710656 := by rw [hz2]; omega
  have zn : (n : Int) ≤ 1000 := by omega
  go_enter Tryz.func50, Tryz.ntmps50
  go_wp2_with (at_make; refine wpList_make_full _ rfl _ _ 80 rfl w.heap.size 4 i0 (.bool false) 1 Tryz.underlying80 hi hz0 hz1 .i64 .i64 _ _ n rfl rfl (by omega) (by omega) hby hml (Nat.le_refl _) ?_; intro w1 hown hgrow; have O1 := made_row hown)
  have B1 : Below w.heap.size w w1 := below_grown (Below.refl _ w) (Nat.le_refl _) hgrow
  clear hown hgrow
  go_loopw [4] (fun i wr => ∃ k : Nat, k ≤ n ∧ i = .int .i64 k ∧ Own wr w.heap.size w.heap.size n (fun j => decide (j < k)) ∧ Below w.heap.size w wr) (fun i _ => n - (intOf i).toNat)
  case atStart => exact ⟨0, Nat.zero_le _, rfl, by simpa using O1, B1⟩
  case round =>
    obtain ⟨k, hk, rfl, O, B⟩ := hrel
    clear O1 B1
    have c0 : (0 : Int) ≤ (k : Int) := by omega
    by_cases hlt : k < n
    · have c1 : (k : Int) < (n : Int) := by omega
      have hc := O.cell hlt
      have hf := World.ownsRow.frozenAt O k
      have O2 : Own (wr.setCell ⟨w.heap.size, k, none⟩ (.bool true)) w.heap.size w.heap.size n (fun j => decide (j < k + 1)) := O.set k true fun j hj => by
        by_cases e : j = k
        · subst e; simp
        · rw [if_neg e]
          simp; omega
      have B2 := B.setCell (p := ⟨w.heap.size, k, none⟩) (Nat.le_refl _) (.bool true)
      clear O B
      go_wp2
      exact ⟨⟨k + 1, by omega, by go_num, O2, B2⟩, by simp [intOf]; omega⟩
    · have c1 : (n : Int) ≤ (k : Int) := by omega
      obtain rfl : k = n := by omega
      have O2 : Own wr w.heap.size w.heap.size k (fun _ => true) := by
        have e : rowB k (fun j => decide (j < k)) = rowB k (fun _ => true) := rowB_congr fun j hj => by simpa using hj
        unfold Own at O ⊢
        rw [← e]
        exact O
      clear O
      go_wp2
      go_ret
      exact ⟨_, rfl, O2, B⟩
end Go.Proofs.YtbgkfmodbofalaaGreatDoor
namespace Go.Proofs.YtbgkfmodbofalaaGreatDoor
open Go.RowKit Go.Shelf Go.Lib
set_option maxRecDepth 100000 in
set_option maxHeartbeats 4000000 in
theorem rIndex_calls {w : World} (v : Value) (l : List (List UInt8)) (x : List UInt8) (hrow : IRow w v l) (hl : l.length ≤ 1000000) :
    Calls Tryz.prog 57 #[v, .string (ba x)] w fun e w' => ∃ r : Int, e = .returned (.int .i64 r) ∧ w' = w ∧ ((r = -1 ∧ x ∉ l) ∨ ∃ k : Nat, r = k ∧ ∃ h : k < l.length, l[k] = x ∧ x ∉ l.take k) := by
  obtain ⟨p, cap, rfl, hin⟩ := hrow
  have HI := hid1 hin
  clear hin
  have zl : (l.length : Int) ≤ 1000000 := by omega
  go_enter Tryz.func57, Tryz.ntmps57
  go_wp2
  go_loopw [5] (fun i wr => ∃ k : Nat, k ≤ l.length ∧ i = .int .i64 k ∧ x ∉ l.take k ∧ w = wr) (fun i _ => l.length - (intOf i).toNat)
  case atStart => exact ⟨0, Nat.zero_le _, rfl, by simp, rfl⟩
  case round =>
    obtain ⟨k, hk, rfl, hz, rfl⟩ := hrel
    have HZ := hid1 hz
    clear hz
    have c0 : (0 : Int) ≤ (k : Int) := by omega
    by_cases hlt : k < l.length
    · have c1 : (k : Int) < (l.length : Int) := by omega
      obtain ⟨g', o, rfl, hg, hcur⟩ := HI.out (by intro e; rw [e] at hlt; simp at hlt)
      have hcell := hcur k hlt
      have HT : Hid (l[k] ≠ x → x ∉ l.take (k + 1)) := hid1 fun hne => by
        rw [List.take_succ_eq_append_getElem hlt]
        simp only [List.mem_append, List.mem_singleton, not_or]
        exact ⟨HZ.out, fun e => hne e.symm⟩
      have HP : Hid (l[k] = x → ∃ j : Nat, (k : Int) = j ∧ ∃ h : j < l.length, l[j] = x ∧ x ∉ l.take j) := hid1 fun he => ⟨k, rfl, hlt, he, HZ.out⟩
      clear hcur HI HZ
      generalize l[k] = y at *
      by_cases he : y = x
      · subst he
        have HPP := hid1 (HP.out rfl)
        clear HP HT
        go_wp2
        go_ret
        exact ⟨_, rfl, rfl, .inr HPP.out⟩
      · have e1 : (y == x) = false := by simpa using he
        have HTT := hid1 (HT.out he)
        clear HP HT
        go_wp2
        exact ⟨⟨k + 1, by omega, by go_num, HTT.out, trivial⟩, by simp [intOf]; omega⟩
    · have c1 : (l.length : Int) ≤ (k : Int) := by omega
      have HN : Hid (x ∉ l) := hid1 (by
        have := HZ.out
        rwa [List.take_of_length_le (by omega)] at this)
      clear HI HZ
      go_wp2
      go_ret
      exact ⟨_, rfl, rfl, .inl ⟨rfl, HN.out⟩⟩
theorem index_lt {l : List (List UInt8)} {k : Nat} (hk : k < l.length) {r : Int} (h : (r = -1 ∧ l[k] ∉ l) ∨ ∃ j : Nat, r = j ∧ ∃ h : j < l.length, l[j] = l[k] ∧ l[k] ∉ l.take j) : decide (r < (k : Int)) = decide (l[k] ∈ l.take k) := by
  rcases h with ⟨_, h⟩ | ⟨j, rfl, hj, he, hn⟩
  · exact absurd (List.getElem_mem hk) h
  · rw [decide_eq_decide]
    constructor
    · intro h
      rw [← he]
      have : j < (l.take k).length := by simp; omega
      have h2 := List.getElem_mem this
      rwa [List.getElem_take] at h2
    · intro h
      rcases Nat.lt_or_ge j k with h' | h'
      · omega
      · exfalso
        apply hn
        exact (List.take_sublist_take_left h').subset h
end Go.Proofs.YtbgkfmodbofalaaGreatDoor
