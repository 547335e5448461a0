import Derived.Test.YtmhipgompplkdaaGreatDoorWL08
import Derived.Test.YtmhipgompplkdaaGreatDoorWL07
import Derived.Test.YtmhipgompplkdaaGreatDoorChecked
import Derived.WalkKit
import Derived.LaidEql
import Derived.Stop.Asserts
import Derived.RowKitTokens
import Derived.Below
namespace Go.Proofs.YtmhipgompplkdaaGreatDoor
namespace Bf
def Later (a b : Nat → St) : Prop := ∀ k, b k = a k ∨ ((a k).isWaits = true ∧ b k = .left)
theorem Later.refl (a : Nat → St) : Later a a := fun _ => .inl rfl
theorem Later.bad {a b : Nat → St} (h : Later a b) {k : Nat} (hk : (a k).isBad = true) : (b k).isBad = true := by
  rcases h k with e | ⟨_, e⟩
  · rw [e]; exact hk
  · rw [e]; rfl
theorem Later.waits {a b : Nat → St} (h : Later a b) {k : Nat} (hk : (b k).isWaits = true) : (a k).isWaits = true := by
  rcases h k with e | ⟨_, e⟩
  · rw [← e]; exact hk
  · rw [e] at hk; cases hk
def Mid (l : List Ru) (a b : Nat → St) : Prop := ∀ k, b k = a k ∨ ((a k).isWaits = true ∧ Chain l a k ∧ b k = .left)
theorem Mid.refl (l : List Ru) (a : Nat → St) : Mid l a a := fun _ => .inl rfl
theorem Mid.later {l : List Ru} {a b : Nat → St} (h : Mid l a b) : Later a b := fun k => (h k).imp_right fun x => ⟨x.1, x.2.2⟩
theorem Mid.step {l : List Ru} {a b : Nat → St} (h : Mid l a b) {k j : Nat} (hw : (b k).isWaits = true) (hb : (b j).isBad = true) (hn : Ru.needs l k j = true) : Mid l a (setS b k .left) := by
  intro x
  by_cases e : x = k
  · subst e
    right
    rw [setS_same]
    refine ⟨h.later.waits hw, ?_, rfl⟩
    rcases h j with e1 | ⟨w1, c1, _⟩
    · exact .one hn (e1 ▸ hb)
    · exact .more hn w1 c1
  · rw [setS_other e]
    exact h x
def Closed (l : List Ru) (b : Nat → St) : Prop := ∀ k j, Ru.needs l k j = true → (b j).isBad = true → (b k).isWaits = false
theorem Mid.closed {l : List Ru} {a b : Nat → St} (h : Mid l a b) (hc : Closed l b) : ∀ k, b k = spread l a k := by
  have key : ∀ k, Chain l a k → (a k).isWaits = true → b k = .left := by
    intro k hk
    induction hk with
    | @one k j hn hb =>
      intro hw
      have h1 := hc k j hn (h.later.bad hb)
      rcases h k with e | ⟨_, _, e⟩
      · rw [e, hw] at h1; cases h1
      · exact e
    | @more k j hn hwj _ ih =>
      intro hw
      have h1 := hc k j hn (by rw [ih hwj]; rfl)
      rcases h k with e | ⟨_, _, e⟩
      · rw [e, hw] at h1; cases h1
      · exact e
  intro k
  unfold spread
  split
  · rename_i hx
    exact key k hx.2 hx.1
  · rename_i hx
    rcases h k with e | ⟨h1, h2, _⟩
    · exact e
    · exact absurd ⟨h1, h2⟩ hx
structure Sweep (l : List Ru) (s0 s1 cur : Nat → St) (a b : Nat) : Prop where
  mid : Mid l s0 cur
  later : Later s1 cur
  seen : ∀ k j, (k < a ∨ (k = a ∧ j < b)) → j < l.length → Ru.needs l k j = true → (s1 j).isBad = true → (cur k).isWaits = false
theorem Sweep.start {l : List Ru} {s0 cur : Nat → St} (h : Mid l s0 cur) : Sweep l s0 cur cur 0 0 := ⟨h, Later.refl _, fun k j hk => by omega⟩
theorem Sweep.hit {l : List Ru} {s0 s1 cur : Nat → St} {a b : Nat} (h : Sweep l s0 s1 cur a b) (hw : (cur a).isWaits = true) (hb : (cur b).isBad = true) (hn : Ru.needs l a b = true) : Sweep l s0 s1 (setS cur a .left) a (b + 1) := by
  refine ⟨h.mid.step hw hb hn, fun k => ?_, fun k j hk hj hnk hbj => ?_⟩
  · by_cases e : k = a
    · subst e
      right
      rw [setS_same]
      exact ⟨h.later.waits hw, rfl⟩
    · rw [setS_other e]
      exact h.later k
  · by_cases e : k = a
    · subst e
      rw [setS_same]
      rfl
    · rw [setS_other e]
      exact h.seen k j (by omega) hj hnk hbj
theorem Sweep.row {l : List Ru} {s0 s1 cur : Nat → St} {a : Nat} (h : Sweep l s0 s1 cur a l.length) : Sweep l s0 s1 cur (a + 1) 0 :=
  ⟨h.mid, h.later, fun k j hk hj => h.seen k j (by omega) hj⟩
structure Round (l : List Ru) (s0 cur : Nat → St) (r : Nat) : Prop where
  mid : Mid l s0 cur
  less : Closed l cur ∨ many cur St.isWaits l.length + r ≤ many s0 St.isWaits l.length
theorem Round.start (l : List Ru) (s0 : Nat → St) : Round l s0 s0 0 := ⟨Mid.refl _ _, .inr (Nat.le_refl _)⟩
theorem Round.next {l : List Ru} {s0 s1 cur : Nat → St} {r : Nat} (h : Round l s0 s1 r) (hs : Sweep l s0 s1 cur l.length 0) : Round l s0 cur (r + 1) := by
  refine ⟨hs.mid, ?_⟩
  by_cases hc : Closed l s1
  · left
    have e : ∀ k, cur k = s1 k := fun k => by
      rcases hs.mid.later k with h1 | ⟨h1, h2⟩
      · rcases hs.later k with h3 | ⟨h3, h4⟩
        · exact h3
        · rcases hs.mid k with h5 | ⟨h5, h6, h7⟩
          · have hw1 : (s0 k).isWaits = true := h.mid.later.waits h3
            rw [← h5, h4] at hw1
            cases hw1
          · rw [h1] at h7
            rw [h7] at h5
            cases h5
      · rcases hs.mid k with h5 | ⟨h5, h6, h7⟩
        · rw [h2] at h5
          rw [← h5] at h1
          cases h1
        · have h8 := h.mid.closed hc k
          rw [h8, h7]
          unfold spread
          rw [if_pos ⟨h5, h6⟩]
    intro k j hn hb
    rw [e k]
    exact hc k j hn (e j ▸ hb)
  · right
    have hl : many s1 St.isWaits l.length + r ≤ many s0 St.isWaits l.length := by
      rcases h.less with h1 | h1
      · exact absurd h1 hc
      · exact h1
    have : ∃ k j, Ru.needs l k j = true ∧ (s1 j).isBad = true ∧ (s1 k).isWaits = true := by
      refine Classical.byContradiction fun hx => hc fun k j hn hb => ?_
      cases hw : (s1 k).isWaits with
      | false => rfl
      | true => exact absurd ⟨k, j, hn, hb, hw⟩ hx
    obtain ⟨k, j, hn, hb, hw⟩ := this
    have hlt := Ru.needs_lt hn
    have h2 := hs.seen k j (.inl hlt.1) hlt.2 hn hb
    have := many_less (p := St.isWaits) (st := s1) (st' := cur) (i := k) (n := l.length) hlt.1 hw h2 fun x hx => hs.later.waits hx
    omega
theorem Round.end {l : List Ru} {s0 cur : Nat → St} (h : Round l s0 cur l.length) {i : Nat} (hi : i < l.length) (hf : (s0 i).isWaits = false) : ∀ k, cur k = spread l s0 k := by
  refine h.mid.closed ?_
  rcases h.less with h1 | h1
  · exact h1
  · exfalso
    have : ∀ n, i < n → many s0 St.isWaits n < n := by
      intro n
      induction n with
      | zero => intro h; omega
      | succ n ih =>
        intro hn
        unfold many
        by_cases e : i = n
        · subst e
          have := many_le s0 St.isWaits i
          rw [if_neg (by rw [hf]; simp)]
          omega
        · have := ih (by omega)
          split <;> omega
    have := this l.length hi
    omega
structure Fit (d : Bd) : Prop where
  files : ∀ f ∈ d.fs, f.2.length ≤ 2000
  outs : ∀ k, (d.st k).out.length ≤ 2000
  whys : ∀ k, (d.st k).why ≤ 12
def CFit : Ca → Prop
  | none => True
  | some (m, l) => 1 ≤ m ∧ m ≤ 100 ∧ Cf.Ok m l ∧ ∀ e ∈ l, e.2.length ≤ 2000
def ActFit (act : Act) : Prop := ∀ k w xs, (act k w xs).2 ≤ 12 ∧ ((act k w xs).2 = 0 → (act k w xs).1.length ≤ 2000)
theorem get_mem {fs : Tf.Fs} {p b : List UInt8} (h : Tf.get fs p = some b) : (p, b) ∈ fs := by
  unfold Tf.get at h
  cases hf : fs.find? fun f => f.1 == p with
  | none => rw [hf] at h; cases h
  | some e =>
    rw [hf] at h
    have h1 := List.find?_some hf
    have h2 := List.mem_of_find?_eq_some hf
    have e1 : e.1 = p := by simpa using h1
    have e2 : e.2 = b := by simpa using h
    rw [← e1, ← e2]
    exact h2
theorem Fit.bytes {d : Bd} (h : Fit d) {x b : List UInt8} (hb : d.bytes x = some b) : b.length ≤ 2000 := by
  unfold Bd.bytes at hb
  split at hb
  · rename_i j _
    rw [← Option.some.inj hb]
    exact h.outs j
  · exact h.files _ (get_mem hb)
theorem Fit.ins {d : Bd} (h : Fit d) {i : Nat} {xs : List (List UInt8)} (hx : d.ins i = some xs) : xs.length = (d.rule i).ins.length ∧ ∀ x ∈ xs, x.length ≤ 2000 :=
  ⟨inB_len hx, fun x hxm => by
    obtain ⟨y, _, hy⟩ := inB_mem hx x hxm
    exact h.bytes hy⟩
theorem Fit.set {d : Bd} (h : Fit d) (i : Nat) {s : St} (hs : s.out.length ≤ 2000) (hw : s.why ≤ 12) : Fit (d.set i s) :=
  ⟨h.files, fun k => by
    show (setS d.st i s k).out.length ≤ 2000
    unfold setS
    split
    · exact hs
    · exact h.outs k, fun k => by
    show (setS d.st i s k).why ≤ 12
    unfold setS
    split
    · exact hw
    · exact h.whys k⟩
theorem Fit.fail {d : Bd} (h : Fit d) (i : Nat) {c : Nat} (hc : c ≤ 12) : Fit (d.fail i c) :=
  ⟨h.files, fun k => by
    show (spread d.l (setS d.st i (.failed c)) k).out.length ≤ 2000
    unfold spread
    split
    · simp [St.out]
    · unfold setS
      split
      · simp [St.out]
      · exact h.outs k, fun k => by
    show (spread d.l (setS d.st i (.failed c)) k).why ≤ 12
    unfold spread
    split
    · simp [St.why]
    · unfold setS
      split
      · simpa [St.why] using hc
      · exact h.whys k⟩
theorem CFit.find {c : Ca} (h : CFit c) {k b : List UInt8} (hf : cfind c k = some b) : b.length ≤ 2000 := by
  match c, h, hf with
  | some (m, l), h, hf => exact h.2.2.2 _ (Cf.find_some hf)
theorem mem_put {m : Nat} {l : Cf.Ens} {k b : List UInt8} {e : Cf.En} (h : e ∈ Cf.put m l k b) : e ∈ l ∨ e = (k, b) := by
  have h1 : e ∈ Cf.rm l k ++ [(k, b)] := by
    unfold Cf.put Cf.cut at h
    split at h
    · exact (List.drop_sublist 1 _).subset h
    · exact h
  rcases List.mem_append.1 h1 with h2 | h2
  · exact .inl (Cf.mem_rm.1 h2).1
  · exact .inr (List.mem_singleton.1 h2)
theorem CFit.put {c : Ca} (h : CFit c) (k : List UInt8) {b : List UInt8} (hb : b.length ≤ 2000) : CFit (cput c k b) := by
  match c, h with
  | none, _ => trivial
  | some (m, l), h =>
    refine ⟨h.1, h.2.1, h.2.2.1.put k b, fun e he => ?_⟩
    rcases mem_put he with h1 | h1
    · exact h.2.2.2 e h1
    · rw [h1]; exact hb
theorem CFit.get {c : Ca} (h : CFit c) (k : List UInt8) : CFit (cget c k) := by
  match c, h with
  | none, _ => trivial
  | some (m, l), h =>
    refine ⟨h.1, h.2.1, h.2.2.1.get k, fun e he => ?_⟩
    have he' : e ∈ Cf.get m l k := he
    unfold Cf.get at he'
    split at he'
    · rename_i b hb
      rcases mem_put he' with h1 | h1
      · exact h.2.2.2 e h1
      · rw [h1]; exact h.2.2.2 _ (Cf.find_some hb)
    · exact h.2.2.2 e he'
theorem go_fit {act : Act} (ha : ActFit act) {c : Ca} {d : Bd} (hc : CFit c) (hd : Fit d) (i : Nat) : Fit (go act c d i).d ∧ CFit (go act c d i).c := by
  unfold go
  split
  · exact ⟨hd.fail _ (by omega), hc⟩
  · split
    · rename_i s hs
      exact ⟨hd.set _ (hc.find hs) (by simp [St.why]), hc.get _⟩
    · split
      · rename_i h0
        exact ⟨hd.set _ ((ha _ _ _).2 h0) (by simp [St.why]), hc.put _ ((ha _ _ _).2 h0)⟩
      · exact ⟨hd.fail _ (ha _ _ _).1, hc⟩
end Bf
end Go.Proofs.YtmhipgompplkdaaGreatDoor
namespace Go.Proofs.YtmhipgompplkdaaGreatDoor
open Go.RowKit Go.Shelf Go.Lib
structure Only (S : Nat → Prop) (w w' : World) : Prop where
  os : w'.os = w.os
  tape : w'.tape = w.tape
  output : w'.output = w.output
  size : w.heap.size ≤ w'.heap.size
  block : ∀ j, j < w.heap.size → ¬ S j → w'.heap[j]? = w.heap[j]?
theorem Only.of {S : Nat → Prop} {w w' : World} (h : Below w.heap.size w w') : Only S w w' := ⟨h.os, h.tape, h.output, h.size, fun j hj _ => h.block j hj⟩
theorem Only.below {S : Nat → Prop} {w w' : World} (h : Only S w w') {B : Nat} (hS : ∀ j, S j → B ≤ j) (hB : B ≤ w.heap.size) : Below B w w' :=
  ⟨h.os, h.tape, h.output, h.size, fun j hj => h.block j (by omega) fun hs => by have := hS j hs; omega⟩
theorem Only.trans {S S' : Nat → Prop} {a b c : World} (h : Only S a b) (h' : Only S' b c) (hS : ∀ j, S' j → S j ∨ a.heap.size ≤ j) : Only S a c :=
  ⟨h'.os.trans h.os, h'.tape.trans h.tape, h'.output.trans h.output, Nat.le_trans h.size h'.size, fun j hj hs => (h'.block j (Nat.lt_of_lt_of_le hj h.size) fun h1 => by
    rcases hS j h1 with h2 | h2
    · exact hs h2
    · omega).trans (h.block j hj hs)⟩
theorem Only.cell {S : Nat → Prop} {w w' : World} (h : Only S w w') {a : Addr} {u : Value} (hc : w.cell? a = some u) (hs : ¬ S a.block) : w'.cell? a = some u :=
  (World.cell?_of_block (h.block a.block (lt_of_cell hc) hs)).trans hc
def enCells (l : Cf.Ens) : List Value := l.flatMap fun e => [Value.string (ba e.1), Value.string (ba e.2)]
theorem enCells_get : ∀ (l : Cf.Ens) (j : Nat) (hj : j < l.length), (enCells l)[j * 2]? = some (.string (ba l[j].1)) ∧ (enCells l)[j * 2 + 1]? = some (.string (ba l[j].2))
  | [], j, hj => by simp at hj
  | x :: t, 0, _ => by simp [enCells]
  | x :: t, j + 1, hj => by
    have := enCells_get t j (by simpa using hj)
    have e : enCells (x :: t) = Value.string (ba x.1) :: Value.string (ba x.2) :: enCells t := by simp [enCells]
    rw [e, show (j + 1) * 2 = j * 2 + 1 + 1 by omega]
    simpa using this
def MERow (w : World) (v : Value) (T : Nat → Prop) (l : Cf.Ens) : Prop :=
  ∃ p cap, v = .slice p l.length cap ∧ l.length ≤ cap ∧ (l ≠ [] → ∃ g o, p = some ⟨g, o, none⟩ ∧ T g ∧ g < w.heap.size ∧ ∀ j (hj : j < l.length), w.cell? ⟨g, o + j * 2, none⟩ = some (.string (ba l[j].1)) ∧ w.cell? ⟨g, o + j * 2 + 1, none⟩ = some (.string (ba l[j].2)))
theorem MERow.same {w w' : World} {v : Value} {T : Nat → Prop} {l : Cf.Ens} (h : MERow w v T l) (hz : w.heap.size ≤ w'.heap.size) (hb : ∀ k, T k → w'.heap[k]? = w.heap[k]?) : MERow w' v T l := by
  obtain ⟨p, cap, e, h0, h1⟩ := h
  refine ⟨p, cap, e, h0, fun hl => ?_⟩
  obtain ⟨g, o, e, hT, hg, hc⟩ := h1 hl
  exact ⟨g, o, e, hT, Nat.lt_of_lt_of_le hg hz, fun j hj => ⟨(World.cell?_of_block (a := ⟨g, o + j * 2, none⟩) (hb g hT)).trans (hc j hj).1, (World.cell?_of_block (a := ⟨g, o + j * 2 + 1, none⟩) (hb g hT)).trans (hc j hj).2⟩⟩
structure MAt (T : Nat → Prop) (W : World) (v : Value) (m : Nat) (l : Cf.Ens) : Prop where
  lies : ∃ mb u, v = .pointer (some ⟨mb, 0, none⟩) ∧ T mb ∧ W.cell? ⟨mb, 0, none⟩ = some (.int .i64 m) ∧ W.cell? ⟨mb, 1, none⟩ = some u ∧ W.frozen? ⟨mb, 1, none⟩ = false ∧ MERow W u (fun k => T k ∧ k ≠ mb) l
  lt : ∀ k, T k → k < W.heap.size
theorem MAt.same {T : Nat → Prop} {W W' : World} {v : Value} {m : Nat} {l : Cf.Ens} (h : MAt T W v m l) (hz : W.heap.size ≤ W'.heap.size) (hb : ∀ k, T k → W'.heap[k]? = W.heap[k]?) : MAt T W' v m l := by
  obtain ⟨mb, u, e, hT, c0, c1, f1, hr⟩ := h.lies
  exact ⟨⟨mb, u, e, hT, (World.cell?_of_block (a := ⟨mb, 0, none⟩) (hb mb hT)).trans c0, (World.cell?_of_block (a := ⟨mb, 1, none⟩) (hb mb hT)).trans c1, (World.frozen?_of_block (a := ⟨mb, 1, none⟩) (hb mb hT)).trans f1, hr.same hz fun k hk => hb k hk.1⟩, fun k hk => Nat.lt_of_lt_of_le (h.lt k hk) hz⟩
theorem MAt.below {T : Nat → Prop} {W W' : World} {v : Value} {m : Nat} {l : Cf.Ens} (h : MAt T W v m l) (hb : Below W.heap.size W W') : MAt T W' v m l := h.same hb.size fun k hk => hb.block k (h.lt k hk)
end Go.Proofs.YtmhipgompplkdaaGreatDoor
namespace Go.Proofs.YtmhipgompplkdaaGreatDoor
open Go.RowKit Go.Shelf Go.Lib
theorem MERow.of_owns {w : World} {B : Nat} {v : Value} {l : Cf.Ens} (h : w.ownsRow B 265 2 v l.length (enCells l)) : ∃ p cap, v = .slice p l.length cap ∧ l.length ≤ cap ∧ (l ≠ [] → ∃ g, p = some ⟨g, 0, none⟩ ∧ B ≤ g ∧ g < w.heap.size ∧ ∀ j (hj : j < l.length), w.cell? ⟨g, j * 2, none⟩ = some (.string (ba l[j].1)) ∧ w.cell? ⟨g, j * 2 + 1, none⟩ = some (.string (ba l[j].2))) := by
  rcases h.2 with ⟨rfl, hn⟩ | ⟨g, cap, cur, rfl, hB, hb, h1, _, hcs, h4⟩
  · exact ⟨none, 0, by rw [hn], by omega, fun hl => absurd (List.length_eq_zero_iff.1 hn) hl⟩
  · refine ⟨_, cap, rfl, h1, fun _ => ⟨g, rfl, hB, (Array.getElem?_eq_some_iff.1 hb).1, fun j hj => ?_⟩⟩
    have hg := enCells_get l j hj
    have key : ∀ i, i < l.length * 2 → cur[i]? = (enCells l)[i]? := fun i hi => by
      have := congrArg (fun x => x[i]?) h4
      simp only [List.getElem?_take, hi, if_true, Array.getElem?_toList] at this
      exact this
    refine ⟨?_, ?_⟩
    · simp only [World.cell?, hb]
      simpa using (key (j * 2) (by omega)).trans hg.1
    · simp only [World.cell?, hb]
      simpa using (key (j * 2 + 1) (by omega)).trans hg.2
theorem MAt.stored {T : Nat → Prop} {W w5 : World} {mb m g o n cap : Nat} {l : Cf.Ens} (HT : T mb) (hmb : mb < W.heap.size) (B5 : Below W.heap.size W w5) (c0 : W.cell? ⟨mb, 0, none⟩ = some (.int .i64 m)) (c1 : (W.cell? ⟨mb, 1, none⟩).isSome = true) (f1 : W.frozen? ⟨mb, 1, none⟩ = false)
    (hg : W.heap.size ≤ g) (hg2 : g < w5.heap.size) (hn : n = l.length) (hcap : n ≤ cap) (hc : ∀ j (hj : j < l.length), w5.cell? ⟨g, o + j * 2, none⟩ = some (.string (ba l[j].1)) ∧ w5.cell? ⟨g, o + j * 2 + 1, none⟩ = some (.string (ba l[j].2))) :
    Only T W (w5.setCell ⟨mb, 1, none⟩ (.slice (some ⟨g, o, none⟩) n cap)) ∧ ∃ T', MAt T' (w5.setCell ⟨mb, 1, none⟩ (.slice (some ⟨g, o, none⟩) n cap)) (.pointer (some ⟨mb, 0, none⟩)) m l ∧ ∀ j, T' j → T j ∨ W.heap.size ≤ j := by
  subst hn
  have d0 := cell_below' c0 B5
  have d1 : (w5.cell? ⟨mb, 1, none⟩).isSome = true := by rw [B5.cell (p := ⟨mb, 1, none⟩) hmb]; exact c1
  have e1 : w5.frozen? ⟨mb, 1, none⟩ = false := (B5.frozen (p := ⟨mb, 1, none⟩) hmb).trans f1
  have hS : ∀ c, c ≠ mb → (w5.setCell ⟨mb, 1, none⟩ (.slice (some ⟨g, o, none⟩) l.length cap)).heap[c]? = w5.heap[c]? := fun c hc => Below.heap_setCell w5 ⟨mb, 1, none⟩ _ c hc
  have hz : (w5.setCell ⟨mb, 1, none⟩ (.slice (some ⟨g, o, none⟩) l.length cap)).heap.size = w5.heap.size := by simp
  have h5 := B5.size
  refine ⟨⟨B5.os, B5.tape, B5.output, by rw [hz]; exact h5, fun j hj hs => (hS j fun e => hs (e ▸ HT)).trans (B5.block j hj)⟩, fun j => j = mb ∨ j = g, ⟨⟨mb, _, rfl, .inl rfl, ?_, World.cell?_setCell_same' _ _ _ d1, by rw [World.frozen?_setCell]; exact e1, ?_⟩, ?_⟩, ?_⟩
  · rw [World.cell?_setCell_other]
    · exact d0
    · simp
  · refine ⟨_, cap, rfl, hcap, fun _ => ⟨g, o, rfl, ⟨.inr rfl, by omega⟩, by rw [hz]; exact hg2, fun j hj => ⟨?_, ?_⟩⟩⟩
    · exact (World.cell?_of_block (a := ⟨g, o + j * 2, none⟩) (hS g (by omega))).trans (hc j hj).1
    · exact (World.cell?_of_block (a := ⟨g, o + j * 2 + 1, none⟩) (hS g (by omega))).trans (hc j hj).2
  · rintro j (rfl | rfl)
    · rw [hz]; omega
    · rw [hz]; exact hg2
  · rintro j (rfl | rfl)
    · exact .inl HT
    · exact .inr hg
end Go.Proofs.YtmhipgompplkdaaGreatDoor
namespace Go.Proofs.YtmhipgompplkdaaGreatDoor
open Go.RowKit Go.Extern.Stop Go.Stop Go.Extern
theorem Tryz.valueOfP (t : Addr) (w : World) : (callFunc 188 #[.iface 222 (.pointer (some t))]).run Tryz.prog w
    = .ok (.value (.agg #[.pointer (some ⟨21, 222, none⟩), .pointer (some ⟨w.heap.size, 0, none⟩), .int .u64 150])) (w.alloc (.cells #[.pointer (some t)] 222)) := by kernel_rfl
theorem Tryz.typeP (a : Addr) (w : World) : (callFunc 189 #[.agg #[.pointer (some ⟨21, 222, none⟩), .pointer (some a), .int .u64 150]]).run Tryz.prog w
    = .ok (.value (.iface 331 (.agg #[.pointer (some ⟨21, 222, none⟩)]))) w := by kernel_rfl
theorem Tryz.methodKind (h : Value) (w : World) : (Go.method 533 331 (.agg #[h]) "Kind").run Tryz.prog w = .ok (356, h) w := by kernel_rfl
theorem Tryz.methodElem (h : Value) (w : World) : (Go.method 533 331 (.agg #[h]) "Elem").run Tryz.prog w = .ok (369, .agg #[h]) w := by kernel_rfl
theorem Tryz.methodImplements (h : Value) (w : World) : (Go.method 533 331 (.agg #[h]) "Implements").run Tryz.prog w = .ok (370, .agg #[h]) w := by kernel_rfl
theorem Tryz.methodAssignableTo (h : Value) (w : World) : (Go.method 533 331 (.agg #[h]) "AssignableTo").run Tryz.prog w = .ok (367, .agg #[h]) w := by kernel_rfl
theorem Tryz.kindP (w : World) : (callFunc 356 #[.pointer (some ⟨21, 222, none⟩)]).run Tryz.prog w = .ok (.value (.int .u8 22)) w := by kernel_rfl
theorem Tryz.kindF (w : World) : (callFunc 356 #[.pointer (some ⟨21, 179, none⟩)]).run Tryz.prog w = .ok (.value (.int .u8 22)) w := by kernel_rfl
theorem Tryz.elemP (w : World) : (callFunc 369 #[.agg #[.pointer (some ⟨21, 222, none⟩)]]).run Tryz.prog w = .ok (.value (.iface 331 (.agg #[.pointer (some ⟨21, 179, none⟩)]))) w := by kernel_rfl
theorem Tryz.implementsF (w : World) : (callFunc 370 #[.agg #[.pointer (some ⟨21, 179, none⟩)], .iface 331 (.agg #[.pointer (some ⟨21, 25, none⟩)])]).run Tryz.prog w = .ok (.value (.bool true)) w := by kernel_rfl
theorem Tryz.typeOfF (v : Value) (w : World) : (callFunc 192 #[.iface 179 v]).run Tryz.prog w = .ok (.value (.iface 331 (.agg #[.pointer (some ⟨21, 179, none⟩)]))) w := by kernel_rfl
theorem Tryz.assignableF (w : World) : (callFunc 367 #[.agg #[.pointer (some ⟨21, 179, none⟩)], .iface 331 (.agg #[.pointer (some ⟨21, 179, none⟩)])]).run Tryz.prog w = .ok (.value (.bool true)) w := by kernel_rfl
theorem Tryz.valueOfF (e : Addr) (w : World) : (callFunc 188 #[.iface 179 (.pointer (some e))]).run Tryz.prog w
    = .ok (.value (.agg #[.pointer (some ⟨21, 179, none⟩), .pointer (some ⟨w.heap.size, 0, none⟩), .int .u64 150])) (w.alloc (.cells #[.pointer (some e)] 179)) := by kernel_rfl
theorem rlm (z : Sem Value) (f : TypeId → Addr → Nat → Nat → Sem Value) (v : Value) :
    ReflectliteValue.method z f #[v] = (do match ← ReflectliteValue.parts v with | none => z | some (t, a, fl) => f t a fl (fl % 32)) := rfl
theorem Tryz.partsP (a : Addr) (w : World) : (ReflectliteValue.parts (.agg #[.pointer (some ⟨21, 222, none⟩), .pointer (some a), .int .u64 150])).run Tryz.prog w = .ok (some (222, a, 150)) w := by kernel_rfl
theorem Tryz.isNilP (a p : Addr) (W : World) (ha : W.cell? a = some (.pointer (some p))) :
    (ReflectliteValue.method (ReflectliteValue.valueError "reflectlite.Value.IsNil" 0) ReflectliteValue.isNil #[.agg #[.pointer (some ⟨21, 222, none⟩), .pointer (some a), .int .u64 150]]).run Tryz.prog W = .ok (.bool false) W := by
  rw [rlm]
  simp only [Sem.run_bind, Tryz.partsP, Result.andThen]
  simp [ReflectliteValue.isNil, loadVar, isAgg, underlying, Tryz.underlying222, ha, Result.andThen]
end Go.Proofs.YtmhipgompplkdaaGreatDoor
namespace Go.Proofs.YtmhipgompplkdaaGreatDoor
open Go.RowKit Go.Extern.Stop Go.Stop Go.Extern
structure E12 (w : World) (es : Nat → Addr) : Prop where
  c0 : w.cell? ⟨0, 0, none⟩ = some (.iface 399 (.pointer (some (es 0))))
  c1 : w.cell? ⟨4, 0, none⟩ = some (.iface 399 (.pointer (some (es 1))))
  c2 : w.cell? ⟨1, 0, none⟩ = some (.iface 399 (.pointer (some (es 2))))
  c3 : w.cell? ⟨7, 0, none⟩ = some (.iface 399 (.pointer (some (es 3))))
  c4 : w.cell? ⟨8, 0, none⟩ = some (.iface 399 (.pointer (some (es 4))))
  c5 : w.cell? ⟨2, 0, none⟩ = some (.iface 399 (.pointer (some (es 5))))
  c6 : w.cell? ⟨9, 0, none⟩ = some (.iface 399 (.pointer (some (es 6))))
  c7 : w.cell? ⟨10, 0, none⟩ = some (.iface 399 (.pointer (some (es 7))))
  c8 : w.cell? ⟨11, 0, none⟩ = some (.iface 399 (.pointer (some (es 8))))
  c9 : w.cell? ⟨3, 0, none⟩ = some (.iface 399 (.pointer (some (es 9))))
  c10 : w.cell? ⟨6, 0, none⟩ = some (.iface 399 (.pointer (some (es 10))))
  c11 : w.cell? ⟨5, 0, none⟩ = some (.iface 399 (.pointer (some (es 11))))
  t : w.cell? ⟨12, 0, none⟩ = some (.iface 331 (.agg #[.pointer (some ⟨21, 25, none⟩)]))
  rows : ∀ k, k < 12 → ∃ c t, w.heap[(es k).block]? = some (.cells c t (0, 0))
  inj : ∀ j k, j < 12 → k < 12 → j ≠ k → es j ≠ es k
theorem blt_of_cell {w : World} {a : Addr} {v : Value} (h : w.cell? a = some v) : a.block < w.heap.size := by
  rcases Nat.lt_or_ge a.block w.heap.size with h' | h'
  · exact h'
  · simp [World.cell?, Array.getElem?_eq_none h'] at h
theorem cell_below {w w' : World} {a : Addr} {v : Value} (h : w.cell? a = some v) (hb : Below w.heap.size w w') : w'.cell? a = some v := (hb.cell (p := a) (blt_of_cell h)).trans h
theorem row_below {w w' : World} {b : Nat} {o : Obj} (h : w.heap[b]? = some o) (hb : Below w.heap.size w w') : w'.heap[b]? = some o := (hb.block b (Array.getElem?_eq_some_iff.1 h).1).trans h
theorem E12.below {w w' : World} {es : Nat → Addr} (h : E12 w es) (hb : Below w.heap.size w w') : E12 w' es :=
  ⟨cell_below h.c0 hb, cell_below h.c1 hb, cell_below h.c2 hb, cell_below h.c3 hb, cell_below h.c4 hb, cell_below h.c5 hb, cell_below h.c6 hb, cell_below h.c7 hb, cell_below h.c8 hb, cell_below h.c9 hb, cell_below h.c10 hb, cell_below h.c11 hb, cell_below h.t hb,
   fun k hk => by obtain ⟨c, t, hc⟩ := h.rows k hk; exact ⟨c, t, row_below hc hb⟩, h.inj⟩
end Go.Proofs.YtmhipgompplkdaaGreatDoor
