/- The document's answer's cache: how it lies in memory; its walks. -/
import Derived.Test.YthokjegephlpmaaDoorCacheT
import Derived.Test.YthokjegephlpmaaDoorIRowT
namespace Go.Proofs.YthokjegephlpmaaDoor
open Go.RowKit Go.Shelf Go.Lib

/-- All older memory but some blocks is as it was. -/
structure Only (S : Nat → Prop) (w w' : World) : Prop where
  os : w'.os = w.os
  tape : w'.tape = w.tape
  output : w'.output = w.output
  size : w.heap.size ≤ w'.heap.size
  block : ∀ j, j < w.heap.size → ¬ S j → w'.heap[j]? = w.heap[j]?
theorem Only.of {S : Nat → Prop} {w w' : World} (h : Below w.heap.size w w') : Only S w w' := ⟨h.os, h.tape, h.output, h.size, fun j hj _ => h.block j hj⟩
theorem Only.below {S : Nat → Prop} {w w' : World} (h : Only S w w') {B : Nat} (hS : ∀ j, S j → B ≤ j) (hB : B ≤ w.heap.size) : Below B w w' :=
  ⟨h.os, h.tape, h.output, h.size, fun j hj => h.block j (by omega) fun hs => by have := hS j hs; omega⟩
theorem Only.trans {S S' : Nat → Prop} {a b c : World} (h : Only S a b) (h' : Only S' b c) (hS : ∀ j, S' j → S j ∨ a.heap.size ≤ j) : Only S a c :=
  ⟨h'.os.trans h.os, h'.tape.trans h.tape, h'.output.trans h.output, Nat.le_trans h.size h'.size, fun j hj hs => (h'.block j (Nat.lt_of_lt_of_le hj h.size) fun h1 => by
    rcases hS j h1 with h2 | h2
    · exact hs h2
    · omega).trans (h.block j hj hs)⟩
theorem Only.cell {S : Nat → Prop} {w w' : World} (h : Only S w w') {a : Addr} {u : Value} (hc : w.cell? a = some u) (hs : ¬ S a.block) : w'.cell? a = some u :=
  (World.cell?_of_block (h.block a.block (lt_of_cell hc) hs)).trans hc

/-- Entries' cells. -/
def enCells (l : Cf.Ens) : List Value := l.flatMap fun e => [Value.string (ba e.1), Value.string (ba e.2)]
theorem enCells_snoc (l : Cf.Ens) (e : Cf.En) : enCells (l ++ [e]) = enCells l ++ [Value.string (ba e.1), Value.string (ba e.2)] := by simp [enCells]
theorem enCells_len (l : Cf.Ens) : (enCells l).length = l.length * 2 := by
  induction l with
  | nil => rfl
  | cons x t ih => simp only [enCells, List.flatMap_cons, List.length_append, List.length_cons, List.length_nil] at ih ⊢; omega
theorem enCells_get : ∀ (l : Cf.Ens) (j : Nat) (hj : j < l.length), (enCells l)[j * 2]? = some (.string (ba l[j].1)) ∧ (enCells l)[j * 2 + 1]? = some (.string (ba l[j].2))
  | [], j, hj => by simp at hj
  | x :: t, 0, _ => by simp [enCells]
  | x :: t, j + 1, hj => by
    have := enCells_get t j (by simpa using hj)
    have e : enCells (x :: t) = Value.string (ba x.1) :: Value.string (ba x.2) :: enCells t := by simp [enCells]
    rw [e, show (j + 1) * 2 = j * 2 + 1 + 1 by omega]
    simpa using this

/-- A slice of entries, in a block that is told. -/
def ERow (w : World) (v : Value) (T : Nat → Prop) (l : Cf.Ens) : Prop :=
  ∃ p cap, v = .slice p l.length cap ∧ l.length ≤ cap ∧ (l ≠ [] → ∃ g o, p = some ⟨g, o, none⟩ ∧ T g ∧ g < w.heap.size ∧ ∀ j (hj : j < l.length), w.cell? ⟨g, o + j * 2, none⟩ = some (.string (ba l[j].1)) ∧ w.cell? ⟨g, o + j * 2 + 1, none⟩ = some (.string (ba l[j].2)))
theorem ERow.same {w w' : World} {v : Value} {T : Nat → Prop} {l : Cf.Ens} (h : ERow w v T l) (hz : w.heap.size ≤ w'.heap.size) (hb : ∀ k, T k → w'.heap[k]? = w.heap[k]?) : ERow w' v T l := by
  obtain ⟨p, cap, e, h0, h1⟩ := h
  refine ⟨p, cap, e, h0, fun hl => ?_⟩
  obtain ⟨g, o, e, hT, hg, hc⟩ := h1 hl
  exact ⟨g, o, e, hT, Nat.lt_of_lt_of_le hg hz, fun j hj => ⟨(World.cell?_of_block (a := ⟨g, o + j * 2, none⟩) (hb g hT)).trans (hc j hj).1, (World.cell?_of_block (a := ⟨g, o + j * 2 + 1, none⟩) (hb g hT)).trans (hc j hj).2⟩⟩

/-- The document's answer's cache: T: the blocks that it lies in. -/
structure MAt (T : Nat → Prop) (W : World) (v : Value) (m : Nat) (l : Cf.Ens) : Prop where
  lies : ∃ mb u, v = .pointer (some ⟨mb, 0, none⟩) ∧ T mb ∧ W.cell? ⟨mb, 0, none⟩ = some (.int .i64 m) ∧ W.cell? ⟨mb, 1, none⟩ = some u ∧ W.frozen? ⟨mb, 1, none⟩ = false ∧ ERow W u (fun k => T k ∧ k ≠ mb) l
  lt : ∀ k, T k → k < W.heap.size
theorem MAt.same {T : Nat → Prop} {W W' : World} {v : Value} {m : Nat} {l : Cf.Ens} (h : MAt T W v m l) (hz : W.heap.size ≤ W'.heap.size) (hb : ∀ k, T k → W'.heap[k]? = W.heap[k]?) : MAt T W' v m l := by
  obtain ⟨mb, u, e, hT, c0, c1, f1, hr⟩ := h.lies
  exact ⟨⟨mb, u, e, hT, (World.cell?_of_block (a := ⟨mb, 0, none⟩) (hb mb hT)).trans c0, (World.cell?_of_block (a := ⟨mb, 1, none⟩) (hb mb hT)).trans c1, (World.frozen?_of_block (a := ⟨mb, 1, none⟩) (hb mb hT)).trans f1, hr.same hz fun k hk => hb k hk.1⟩, fun k hk => Nat.lt_of_lt_of_le (h.lt k hk) hz⟩
theorem MAt.below {T : Nat → Prop} {W W' : World} {v : Value} {m : Nat} {l : Cf.Ens} (h : MAt T W v m l) (hb : Below W.heap.size W W') : MAt T W' v m l := h.same hb.size fun k hk => hb.block k (h.lt k hk)

set_option maxRecDepth 100000 in
set_option maxHeartbeats 4000000 in
/-- Find: the place of a key. -/
theorem mFind_calls {T : Nat → Prop} {W : World} {v : Value} {m : Nat} {l : Cf.Ens} (h : MAt T W v m l) (hl : l.length ≤ 1000) (k : List UInt8) :
    Calls Tryd.prog 31 #[v, .string (ba k)] W fun e w' => ∃ r : Int, e = .returned (.int .i64 r) ∧ w' = W ∧ ((r = -1 ∧ k ∉ Cf.keys l) ∨ ∃ j : Nat, r = j ∧ ∃ hj : j < l.length, l[j].1 = k ∧ k ∉ Cf.keys (l.take j)) := by
  obtain ⟨mb, u, rfl, hT, c0, c1, f1, p, cap, rfl, hcap, hin⟩ := h.lies
  have HI := hid1 hin
  clear hin h
  have zl : (l.length : Int) ≤ 1000 := by omega
  go_enter Tryd.func31, Tryd.ntmps31
  go_wp2
  go_loopw [5] (fun i wr => ∃ j : Nat, j ≤ l.length ∧ i = .int .i64 j ∧ k ∉ Cf.keys (l.take j) ∧ W = wr) (fun i _ => l.length - (intOf i).toNat)
  case atStart => exact ⟨0, Nat.zero_le _, rfl, by simp [Cf.keys], rfl⟩
  case round =>
    obtain ⟨j, hj, rfl, hz, rfl⟩ := hrel
    have HZ := hid1 hz
    clear hz
    have j0 : (0 : Int) ≤ (j : Int) := by omega
    by_cases hlt : j < l.length
    · have j1 : (j : Int) < (l.length : Int) := by omega
      obtain ⟨g, o, rfl, -, hg, hc⟩ := HI.out (by intro e; rw [e] at hlt; simp at hlt)
      have d0 := (hc j hlt).1
      have HT : Hid (l[j].1 ≠ k → k ∉ Cf.keys (l.take (j + 1))) := hid1 fun hne => by
        rw [List.take_succ_eq_append_getElem hlt]
        unfold Cf.keys
        rw [List.map_append, List.mem_append]
        rintro (h | h)
        · exact HZ.out h
        · simp at h
          exact hne h.symm
      have HP : Hid (l[j].1 = k → ∃ i : Nat, (j : Int) = i ∧ ∃ hi : i < l.length, l[i].1 = k ∧ k ∉ Cf.keys (l.take i)) := hid1 fun he => ⟨j, rfl, hlt, he, HZ.out⟩
      clear hc HI HZ
      generalize l[j].1 = y at *
      by_cases he : y = k
      · subst he
        have HPP := hid1 (HP.out rfl)
        clear HP HT
        go_wp2
        go_ret
        exact ⟨_, rfl, rfl, .inr HPP.out⟩
      · have e1 : (y == k) = false := by simpa using he
        have HTT := hid1 (HT.out he)
        clear HP HT
        go_wp2
        exact ⟨⟨j + 1, by omega, by go_num, HTT.out, trivial⟩, by simp [intOf]; omega⟩
    · have j1 : (l.length : Int) ≤ (j : Int) := by omega
      have HN : Hid (k ∉ Cf.keys l) := hid1 (by
        have := HZ.out
        rwa [List.take_of_length_le (by omega)] at this)
      clear HI HZ
      go_wp2
      go_ret
      exact ⟨_, rfl, rfl, .inl ⟨rfl, HN.out⟩⟩
end Go.Proofs.YthokjegephlpmaaDoor
