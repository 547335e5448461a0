/- plain.Code of a *api.Fault that holds a sentinel: the walk; coded, SameInts. -/
import Derived.Test.YtmeplgihnlpjcaaGreatDoorCode
import Derived.Test.YtmeplgihnlpjcaaGreatDoorErrHit
import Derived.Test.YtmeplgihnlpjcaaGreatDoorMG7
import Derived.Test.YtmeplgihnlpjcaaGreatDoorMG2
import Derived.Test.YtmeplgihnlpjcaaGreatDoorMG4
import Derived.Test.YtmeplgihnlpjcaaGreatDoorMG3
namespace Go.Proofs.YtmeplgihnlpjcaaGreatDoor
open Go.RowKit Go.Extern.Stop Go.Stop Go.Extern

set_option maxHeartbeats 2000000 in
theorem Code_fault (pb : Nat) (n : Int) (m : Nat) (hm : m < 12) (es : Nat → Addr) (w : World) (hE : E12 w es)
    (h0 : w.cell? ⟨pb, 0, none⟩ = some (.int .i64 n)) (h1 : w.cell? ⟨pb, 1, none⟩ = some (.iface 262 (.pointer (some (es m))))) :
    Calls Tryz.prog 39 #[.iface 71 (.pointer (some ⟨pb, 0, none⟩))] w fun e w' => e = .returned (.tuple #[.int .i64 ((m : Int) + 1), .int .i64 n]) ∧ Below w.heap.size w w' := by
  have hB0 : Below w.heap.size w (w.alloc (.cells #[.pointer none] 71)) := (Below.refl _ w).alloc (Nat.le_refl _) _
  have hE0 := hE.below hB0
  go_enter Tryz.func39, Tryz.ntmps39
  go_wp2_with fail
  refine (as_hit ⟨pb, 0, none⟩ ⟨w.heap.size, 0, none⟩ (.pointer none) _ hE0.t (by simp) (by simp)).mono ?_
  rintro e w1 ⟨rfl, hw1⟩
  have hB1 : Below w.heap.size w w1 := by
    rw [hw1]
    exact (((((hB0.alloc (by simp) _).alloc (by simp; omega) _).alloc (by simp; omega) _).alloc (by simp; omega) _).setCell (p := ⟨w.heap.size, 0, none⟩) (Nat.le_refl _) _)
  have hc1 : w1.cell? ⟨w.heap.size, 0, none⟩ = some (.pointer (some ⟨pb, 0, none⟩)) := by
    rw [hw1]
    refine World.cell?_setCell_same' _ _ _ ?_
    rw [World.cell?_alloc_lt _ _ ⟨w.heap.size, 0, none⟩ (by simp; omega), World.cell?_alloc_lt _ _ ⟨w.heap.size, 0, none⟩ (by simp; omega), World.cell?_alloc_lt _ _ ⟨w.heap.size, 0, none⟩ (by simp; omega), World.cell?_alloc_lt _ _ ⟨w.heap.size, 0, none⟩ (by simp)]
    simp
  clear hw1
  have hE1 := hE.below hB1
  have g0 := cell_below h0 hB1
  have g1 := cell_below h1 hB1
  have k0 := hE1.c0; have k1 := hE1.c1; have k2 := hE1.c2; have k3 := hE1.c3; have k4 := hE1.c4; have k5 := hE1.c5
  have k6 := hE1.c6; have k7 := hE1.c7; have k8 := hE1.c8; have k9 := hE1.c9; have k10 := hE1.c10; have k11 := hE1.c11
  clear hE0 hB0
  go_wp2
  have hB2 : Below w1.heap.size w1 (w1.alloc (.cells (esV es) 27)) := (Below.refl _ w1).alloc (Nat.le_refl _) _
  have hE2 := hE1.below hB2
  have g2 := cell_below g1 hB2
  have hBB := hB1.trans (hB2.mono hB1.size)
  have hsl := es_cells es w1
  unfold esV at hB2 hE2 g2 hBB hsl
  clear k0 k1 k2 k3 k4 k5 k6 k7 k8 k9 k10 k11 hE1 hB2 hE g0 g1 h0 h1 hc1
  generalize w1.alloc _ = W2 at *
  have HE : Hid (E12 W2 es) := hE2
  clear hE2
  go_loop [3, 30] (fun a i => a = .int .i64 n ∧ ∃ k : Nat, k ≤ m ∧ i = .int .i64 k) (fun _ i => 12 - (intOf i).toNat)
  case atStart => exact ⟨rfl, 0, by omega, rfl⟩
  case round =>
    obtain ⟨rfl, k, hk, rfl⟩ := hrel
    have hlt : k < 12 := by omega
    have hck := hsl k hlt
    have hlt' : (k : Int) < 12 := by omega
    have hk0 : (0 : Int) ≤ (k : Int) := by omega
    by_cases hek : k = m
    · subst hek
      clear hsl
      go_wp2_with fail
      refine (is_fault_same pb (es k) _ g2).mono ?_
      rintro e w' ⟨rfl, rfl⟩
      go_wp2
      go_ret2
      exact ⟨rfl, hBB⟩
    · obtain ⟨c, t, hr⟩ := HE.out.rows k hlt
      obtain ⟨c', t', hr'⟩ := HE.out.rows m hm
      have hio := is_fault_other pb (es m) (es k) c' c t' t W2 g2 (HE.out.inj m k hm hlt (fun e => hek e.symm)) hr' hr
      have HI : Hid (Calls Tryz.prog 55 #[.iface 71 (.pointer (some ⟨pb, 0, none⟩)), .iface 262 (.pointer (some (es k)))] W2 fun e w' => e = .returned (.bool false) ∧ w' = W2) := hio
      have hkm : k < m := by omega
      clear hio hsl hr hr' hek
      go_wp2_with fail
      refine HI.out.mono ?_
      rintro e w' ⟨rfl, rfl⟩
      go_wp2
      go_round
      case rel => exact ⟨rfl, k + 1, by omega, by go_num⟩
      case measure => simp [intOf]; omega

theorem coded_nil (c : Int) (w : World) : Calls Tryz.prog 21 #[.nilIface, .int .i64 c] w fun e w' => e = .returned (.bool (decide (0 = c))) ∧ w' = w := by
  by_cases h : 0 = c
  · subst h
    go_enter Tryz.func21, Tryz.ntmps21
    go_wp2_with fail
    refine (Code_nil _).mono ?_
    rintro e w' ⟨rfl, rfl⟩
    go_wp2
    go_ret
    exact ⟨rfl, rfl⟩
  · have hb : ((0 : Int) == c) = false := by simpa using h
    have hd : decide (0 = c) = false := by simpa using h
    rw [hd]
    go_enter Tryz.func21, Tryz.ntmps21
    go_wp2_with fail
    refine (Code_nil _).mono ?_
    rintro e w' ⟨rfl, rfl⟩
    go_wp2
    go_ret
    exact ⟨rfl, rfl⟩

theorem coded_ptr (c : Int) (x : Addr) (es : Nat → Addr) (cx : Array Value) (tx : TypeId) (w : World) (hE : E12 w es) (hx : w.heap[x.block]? = some (.cells cx tx (0, 0))) :
    Calls Tryz.prog 21 #[.iface 262 (.pointer (some x)), .int .i64 c] w fun e w' => e = .returned (.bool (decide (codeOf es x = c))) ∧ Below w.heap.size w w' := by
  have HC : Hid (Calls Tryz.prog 39 #[.iface 262 (.pointer (some x))] w fun e w' => e = .returned (.tuple #[.int .i64 (codeOf es x), .int .i64 (-1)]) ∧ Below w.heap.size w w') := Code_ptr x es cx tx w hE hx
  generalize codeOf es x = y at *
  clear hE hx
  by_cases h : y = c
  · subst h
    have hd : decide (y = y) = true := by simp
    rw [hd]
    go_enter Tryz.func21, Tryz.ntmps21
    go_wp2_with fail
    refine HC.out.mono ?_
    rintro e w' ⟨rfl, hb⟩
    go_wp2
    go_ret
    exact ⟨rfl, hb⟩
  · have hb : (y == c) = false := by simpa using h
    have hd : decide (y = c) = false := by simpa using h
    rw [hd]
    go_enter Tryz.func21, Tryz.ntmps21
    go_wp2_with fail
    refine HC.out.mono ?_
    rintro e w' ⟨rfl, hb⟩
    go_wp2
    go_ret
    exact ⟨rfl, hb⟩
end Go.Proofs.YtmeplgihnlpjcaaGreatDoor
/- coded at a sentinel and its number, and at nil and 0; the errors of package tree by their numbers. -/
namespace Go.Proofs.YtmeplgihnlpjcaaGreatDoor
open Go.RowKit

theorem codeOf_es {w : World} {es : Nat → Addr} (h : E12 w es) (k : Nat) (hk : k < 12) : codeOf es (es k) = (k : Int) + 1 :=
  codeOf_some hk rfl (fun j hj => h.inj j k (by omega) hk (by omega))

/-- coded at a sentinel and its number: true. -/
theorem coded_es (k : Nat) (hk : k < 12) (es : Nat → Addr) (w : World) (hE : E12 w es) :
    Calls Tryz.prog 21 #[.iface 262 (.pointer (some (es k))), .int .i64 ((k : Int) + 1)] w fun e w' => e = .returned (.bool true) ∧ Below w.heap.size w w' := by
  obtain ⟨c, t, hr⟩ := hE.rows k hk
  have := coded_ptr ((k : Int) + 1) (es k) es c t w hE hr
  rwa [codeOf_es hE k hk, show decide ((k : Int) + 1 = (k : Int) + 1) = true from decide_eq_true rfl] at this
theorem coded_none (w : World) : Calls Tryz.prog 21 #[.nilIface, .int .i64 0] w fun e w' => e = .returned (.bool true) ∧ Below w.heap.size w w' :=
  (coded_nil 0 w).mono fun _ _ ⟨he, hw⟩ => ⟨he, hw ▸ Below.refl _ _⟩

/-- The errors, by their numbers. -/
def erOf (es : Nat → Addr) : Nat → Value
  | 0 => .nilIface
  | k + 1 => .iface 262 (.pointer (some (es k)))

theorem coded_er (c : Nat) (hc : c = 0 ∨ ∃ k, k < 12 ∧ c = k + 1) (es : Nat → Addr) (w : World) (hE : E12 w es) :
    Calls Tryz.prog 21 #[erOf es c, .int .i64 (c : Int)] w fun e w' => e = .returned (.bool true) ∧ Below w.heap.size w w' := by
  rcases hc with rfl | ⟨k, hk, rfl⟩
  · exact coded_none w
  · exact coded_es k hk es w hE
end Go.Proofs.YtmeplgihnlpjcaaGreatDoor
/- The errors of commands, where the twelve sentinels lie. -/
namespace Go.Proofs.YtmeplgihnlpjcaaGreatDoor
open Go.RowKit Go.Shelf Go.Lib

theorem E12.ae {w : World} {es : Nat → Addr} (h : E12 w es) (hm : ∃ m, w.cell? ⟨13, 0, none⟩ = some (.int .i64 m)) (hP : Pow w) (hS : SynAt w) (hb : 20 < w.heap.size) : AE w (erOf es) :=
  ⟨⟨hm, hP, h.c2, h.c9, hb⟩, hS, h.c4, fun _ => ⟨_, _, rfl⟩, rfl⟩
theorem AE.stays {w W : World} {er : Nat → Value} (h : AE w er) (hb : Below w.heap.size w W) : AE W er := by
  have h0 := h.aw.big
  exact ⟨h.aw.stays hb, h.syn.below hb, (cell_below2 hb (by omega)).trans h.kind, h.iface, h.zero⟩
theorem actE_le (nm wd : List UInt8) (n : Int) : Af.actE nm wd n = 0 ∨ ∃ k, k < 12 ∧ Af.actE nm wd n = k + 1 := by
  unfold Af.actE
  split
  · exact .inr ⟨4, by omega, rfl⟩
  · split
    · exact .inr ⟨2, by omega, rfl⟩
    · split
      · exact .inr ⟨9, by omega, rfl⟩
      · exact .inl rfl
end Go.Proofs.YtmeplgihnlpjcaaGreatDoor
/- Rules' errors, and those of a sheet; how errors with a place lie in memory. -/
namespace Go.Proofs.YtmeplgihnlpjcaaGreatDoor
open Go.RowKit Go.Shelf Go.Lib

namespace Ru
/-- Does an input stand twice, or is it Out: at its later place? -/
def twiceAt (r : Ru) (i : Nat) : Bool := decide (r.ins[i]? = some r.out) || decide (∃ x ∈ r.ins.take i, r.ins[i]? = some x)
def twice (r : Ru) : Bool := (List.range r.ins.length).any r.twiceAt
/-- The number of a rule's error. -/
def err (r : Ru) : Nat :=
  if pathB r.out = false then 4
  else if Af.actE r.kind r.word r.ins.length ≠ 0 then Af.actE r.kind r.word r.ins.length
  else if r.ins.all pathB = false then 4
  else if r.twice = true then 7 else 0
/-- The number of the error of a sheet's rule. -/
def errAt (l : List Ru) (i : Nat) : Nat :=
  match l[i]? with
  | some r => if r.err ≠ 0 then r.err else if r.out ∈ (l.take i).map Ru.out then 7 else 0
  | none => 0
/-- A sheet's error: its number, and its place (-1: none). -/
def fault (l : List Ru) : Nat × Int :=
  if 40 < l.length then (2, -1) else match first (errAt l) l.length with | some k => (errAt l k, (k : Int)) | none => (0, -1)

theorem fault_many {l : List Ru} (h : 40 < l.length) : fault l = (2, -1) := by unfold fault; rw [if_pos h]
theorem fault_none {l : List Ru} (h0 : l.length ≤ 40) (h : ∀ j, j < l.length → errAt l j = 0) : fault l = (0, -1) := by
  unfold fault
  rw [if_neg (by omega), first_none h]
theorem fault_some {l : List Ru} {m : Nat} (h0 : l.length ≤ 40) (hm : m < l.length) (hc : errAt l m ≠ 0) (h : ∀ j, j < m → errAt l j = 0) : fault l = (errAt l m, (m : Int)) := by
  unfold fault
  rw [if_neg (by omega), first_some hm hc h]
theorem twice_iff {r : Ru} : r.twice = true ↔ ∃ i, i < r.ins.length ∧ r.twiceAt i = true := by
  unfold twice
  simp [List.any_eq_true]
theorem twiceAt_eq {r : Ru} {i : Nat} (h : i < r.ins.length) : r.twiceAt i = (decide (r.ins[i] = r.out) || decide (r.ins[i] ∈ r.ins.take i)) := by
  unfold twiceAt
  rw [List.getElem?_eq_getElem h]
  congr 1
  · simp
  · rw [decide_eq_decide]
    constructor
    · rintro ⟨x, hx, e⟩
      rw [Option.some.inj e]
      exact hx
    · exact fun hx => ⟨_, hx, rfl⟩
theorem errAt_eq {l : List Ru} {i : Nat} (h : i < l.length) : errAt l i = if l[i].err ≠ 0 then l[i].err else if l[i].out ∈ (l.take i).map Ru.out then 7 else 0 := by
  unfold errAt
  rw [List.getElem?_eq_getElem h]
theorem err_le (r : Ru) : r.err = 0 ∨ ∃ k, k < 12 ∧ r.err = k + 1 := by
  unfold err
  split
  · exact .inr ⟨3, by omega, rfl⟩
  · split
    · exact actE_le _ _ _
    · split
      · exact .inr ⟨3, by omega, rfl⟩
      · split
        · exact .inr ⟨6, by omega, rfl⟩
        · exact .inl rfl
theorem errAt_le (l : List Ru) (i : Nat) : errAt l i = 0 ∨ ∃ k, k < 12 ∧ errAt l i = k + 1 := by
  unfold errAt
  split
  · split
    · exact err_le _
    · split
      · exact .inr ⟨6, by omega, rfl⟩
      · exact .inl rfl
  · exact .inl rfl
end Ru

/-- An error: its number and its place, -1: it has none. -/
def ErrV (w : World) (es : Nat → Addr) (v : Value) (f : Nat × Int) : Prop :=
  (f.2 = -1 ∧ v = erOf es f.1 ∧ f.1 ≤ 12) ∨ (∃ pb m, v = .iface 71 (.pointer (some ⟨pb, 0, none⟩)) ∧ m < 12 ∧ f.1 = m + 1 ∧ w.cell? ⟨pb, 0, none⟩ = some (.int .i64 f.2) ∧ w.cell? ⟨pb, 1, none⟩ = some (erOf es f.1))
theorem ErrV.below {w w' : World} {es : Nat → Addr} {v : Value} {f : Nat × Int} (h : ErrV w es v f) (hb : Below w.heap.size w w') : ErrV w' es v f := by
  rcases h with h | ⟨pb, m, e, hm, h0, h1, h2⟩
  · exact .inl h
  · exact .inr ⟨pb, m, e, hm, h0, cell_below' h1 hb, cell_below' h2 hb⟩
theorem ErrV.nil {w : World} {es : Nat → Addr} : ErrV w es .nilIface (0, -1) := .inl ⟨rfl, rfl, by simp⟩
theorem ErrV.bare {w : World} {es : Nat → Addr} {c : Nat} (h : c ≤ 12) : ErrV w es (erOf es c) (c, -1) := .inl ⟨rfl, rfl, h⟩

/-- What Sheet reads of the errors' variables. -/
structure ES (w : World) (es : Nat → Addr) : Prop where
  c1 : w.cell? ⟨3, 0, none⟩ = some (.iface 262 (.pointer (some (es 1))))
  c3 : w.cell? ⟨5, 0, none⟩ = some (.iface 262 (.pointer (some (es 3))))
  c6 : w.cell? ⟨7, 0, none⟩ = some (.iface 262 (.pointer (some (es 6))))
  t : w.cell? ⟨12, 0, none⟩ = some (.iface 164 (.agg #[.pointer (some ⟨21, 27, none⟩)]))
theorem ES.below {w w' : World} {es : Nat → Addr} (h : ES w es) (hb : Below w.heap.size w w') : ES w' es :=
  ⟨cell_below' h.c1 hb, cell_below' h.c3 hb, cell_below' h.c6 hb, cell_below' h.t hb⟩
theorem E12.es {w : World} {es : Nat → Addr} (h : E12 w es) : ES w es := ⟨h.c1, h.c3, h.c6, h.t⟩
end Go.Proofs.YtmeplgihnlpjcaaGreatDoor
/- Which rule makes a text, and which ones a rule needs: as data; how package graph keeps them in memory. -/
namespace Go.Proofs.YtmeplgihnlpjcaaGreatDoor
open Go.RowKit Go.Shelf Go.Lib

namespace Ru
/-- No two rules make one text. -/
def Apart (l : List Ru) : Prop := ∀ i j (hi : i < l.length) (hj : j < l.length), l[i].out = l[j].out → i = j
theorem fault_ok {l : List Ru} (h : (fault l).1 = 0) : l.length ≤ 40 ∧ Apart l := by
  have h40 : l.length ≤ 40 := by
    refine Nat.le_of_not_lt fun hlt => ?_
    rw [fault_many hlt] at h
    cases h
  have hz : ∀ j, j < l.length → errAt l j = 0 := by
    unfold fault at h
    rw [if_neg (by omega)] at h
    split at h
    · rename_i k hk
      exact absurd h (first_some_ne hk)
    · rename_i hk
      exact fun j hj => first_none_zero hk j hj
  refine ⟨h40, ?_⟩
  have key : ∀ i j (hi : i < l.length) (hj : j < l.length), i < j → l[i].out ≠ l[j].out := by
    intro i j hi hj hij he
    have h1 := hz j hj
    rw [errAt_eq hj] at h1
    split at h1
    · rename_i h2
      exact h2 h1
    · split at h1
      · cases h1
      · rename_i h3
        refine h3 (List.mem_map.2 ⟨l[i], ?_, he⟩)
        exact List.mem_take_iff_getElem.2 ⟨i, by omega, rfl⟩
  intro i j hi hj he
  rcases Nat.lt_trichotomy i j with h1 | h1 | h1
  · exact absurd he (key i j hi hj h1)
  · exact h1
  · exact absurd he.symm (key j i hj hi h1)

/-- The rule that makes a text. -/
def mkr (l : List Ru) (x : List UInt8) : Option Nat := l.findIdx? fun r => r.out == x
theorem mkr_none {l : List Ru} {x : List UInt8} (h : mkr l x = none) : ∀ r ∈ l, r.out ≠ x := by
  unfold mkr at h
  rw [List.findIdx?_eq_none_iff] at h
  intro r hr
  simpa using h r hr
theorem mkr_some {l : List Ru} {x : List UInt8} {k : Nat} (h : mkr l x = some k) : ∃ hk : k < l.length, l[k].out = x ∧ ∀ j (hj : j < k), l[j].out ≠ x := by
  unfold mkr at h
  rw [List.findIdx?_eq_some_iff_getElem] at h
  obtain ⟨hk, h1, h2⟩ := h
  exact ⟨hk, by simpa using h1, fun j hj => by simpa using h2 j hj⟩
theorem mkr_eq {l : List Ru} (hA : Apart l) {k : Nat} (hk : k < l.length) : mkr l l[k].out = some k := by
  cases h : mkr l l[k].out with
  | none => exact absurd rfl (mkr_none h l[k] (List.getElem_mem hk))
  | some j =>
    obtain ⟨hj, h1, _⟩ := mkr_some h
    rw [hA j k hj hk h1]
/-- The rules that a rule needs, in the order of its inputs. -/
def needL (l : List Ru) (ins : List (List UInt8)) : List Nat := ins.filterMap (mkr l)
theorem needL_mem {l : List Ru} (hA : Apart l) {i : Nat} (hi : i < l.length) (k : Nat) : k ∈ needL l l[i].ins ↔ needs l i k = true := by
  unfold needL
  rw [List.mem_filterMap]
  constructor
  · rintro ⟨x, hx, hk⟩
    obtain ⟨hkl, h1, _⟩ := mkr_some hk
    rw [needs_eq hi hkl]
    simpa [h1] using hx
  · intro h
    have hkl := (needs_lt h).2
    rw [needs_eq hi hkl] at h
    exact ⟨l[k].out, by simpa using h, mkr_eq hA hkl⟩
theorem needL_lt {l : List Ru} {ins : List (List UInt8)} {k : Nat} (h : k ∈ needL l ins) : k < l.length := by
  unfold needL at h
  obtain ⟨x, _, hk⟩ := List.mem_filterMap.1 h
  exact (mkr_some hk).1
theorem needL_len (l : List Ru) (ins : List (List UInt8)) : (needL l ins).length ≤ ins.length := List.length_filterMap_le _ _
theorem needL_succ (l : List Ru) {ins : List (List UInt8)} {m : Nat} (hm : m < ins.length) : needL l (ins.take (m + 1)) = needL l (ins.take m) ++ (mkr l ins[m]).toList := by
  unfold needL
  rw [List.take_succ_eq_append_getElem hm, List.filterMap_append]
  cases h : mkr l ins[m] <;> simp [h]
end Ru

/-- The entries that look lays into its map. -/
def mkF : Nat → List Ru → List MapEntry
  | _, [] => []
  | k, r :: t => { key := .string (ba r.out), val := nv k, born := k } :: mkF (k + 1) t
theorem mkF_snoc (r : Ru) : ∀ (k : Nat) (l : List Ru), mkF k (l ++ [r]) = mkF k l ++ [({ key := .string (ba r.out), val := nv (k + l.length), born := k + l.length } : MapEntry)]
  | k, [] => by simp [mkF]
  | k, x :: t => by
    have := mkF_snoc r (k + 1) t
    simp only [List.cons_append, mkF, this, List.length_cons]
    rw [show k + 1 + t.length = k + (t.length + 1) by omega]
theorem sameNow_ba (a b : List UInt8) : Instr.sameNow .string (.string (ba a)) (.string (ba b)) = some (decide (a = b)) := by
  show some (ba a == ba b) = _
  congr 1
  rw [Bool.eq_iff_iff, MapKept.bytes_beq, decide_eq_true_eq]
  exact ⟨ba_inj, fun e => by rw [e]⟩
theorem mkF_none {s : List UInt8} : ∀ {l : List Ru} {k j : Nat}, (∀ x ∈ l, x.out ≠ s) → Instr.findNow .string (.string (ba s)) (mkF k l) j = some none
  | [], _, _, _ => rfl
  | x :: t, k, j, h => by
    have hx : ¬ s = x.out := fun e => h x (by simp) e.symm
    simp only [mkF, Instr.findNow, sameNow_ba, hx, decide_false]
    exact mkF_none fun y hy => h y (List.mem_cons_of_mem _ hy)
theorem mkF_some {s : List UInt8} : ∀ {l : List Ru} {k j i : Nat} (hi : i < l.length), l[i].out = s → (∀ m (hm : m < i), l[m].out ≠ s) → Instr.findNow .string (.string (ba s)) (mkF k l) j = some (some (j + i, nv (k + i)))
  | [], _, _, _, hi, _, _ => by simp at hi
  | x :: t, k, j, 0, _, he, _ => by
    have hx : s = x.out := by simpa using he.symm
    simp only [mkF, Instr.findNow, sameNow_ba, hx, decide_true]
    rfl
  | x :: t, k, j, i + 1, hi, he, hm => by
    have hx : ¬ s = x.out := fun e => hm 0 (by omega) e.symm
    simp only [mkF, Instr.findNow, sameNow_ba, hx, decide_false]
    have := mkF_some (s := s) (l := t) (k := k + 1) (j := j + 1) (i := i) (by simpa using hi) (by simpa using he) fun m hml => by
      have := hm (m + 1) (by omega)
      simpa using this
    rw [this]
    rw [show j + 1 + i = j + (i + 1) by omega, show k + 1 + i = k + (i + 1) by omega]
/-- A look for a text's maker. -/
theorem look_mk {W : World} {bm c : Nat} {l : List Ru} (h : W.heap[bm]? = some (.map (mkF 0 l).toArray c)) (s : List UInt8) :
    (Instr.lookup 63 (.map (some bm)) (.string (ba s)) true).run Tryz.prog W = .ok (.tuple #[nv ((Ru.mkr l s).getD 0), .bool (Ru.mkr l s).isSome]) W := by
  cases hm : Ru.mkr l s with
  | none => exact run_look_none 63 9 3 bm c _ (ba s) Tryz.underlying63 Tryz.underlying9 h (.int .i64 0) (Tryz.zeroValue3 W) (mkF_none (Ru.mkr_none hm))
  | some k =>
    obtain ⟨hk, h1, h2⟩ := Ru.mkr_some hm
    have := mkF_some (s := s) (k := 0) (j := 0) hk h1 h2
    rw [Nat.zero_add] at this
    exact run_look 63 9 3 bm c _ (ba s) Tryz.underlying63 Tryz.underlying9 h k (nv k) this

/-- What look keeps: a map of the makers, and a row of what each rule needs. -/
structure ShAt (W : World) (l : List Ru) (p bm G : Nat) (vals : Nat → Value) : Prop where
  c0 : W.cell? ⟨p, 0, none⟩ = some (.map (some bm))
  c1 : W.cell? ⟨p, 1, none⟩ = some (.slice (some ⟨G, 0, none⟩) l.length l.length)
  map : W.heap[bm]? = some (.map (mkF 0 l).toArray l.length)
  row : ∀ i (hi : i < l.length), W.cell? ⟨G, i, none⟩ = some (vals i) ∧ NIRow W (vals i) (Ru.needL l l[i].ins)
theorem ShAt.below {W W' : World} {l : List Ru} {p bm G : Nat} {vals : Nat → Value} (h : ShAt W l p bm G vals) (hb : Below W.heap.size W W') : ShAt W' l p bm G vals :=
  ⟨cell_below' h.c0 hb, cell_below' h.c1 hb, (hb.block bm (Array.getElem?_eq_some_iff.1 h.map).1).trans h.map, fun i hi => ⟨cell_below' (h.row i hi).1 hb, (h.row i hi).2.below hb⟩⟩

/-- One block of memory laid anew. -/
def setB (W : World) (b : Nat) (o : Obj) : World := { W with heap := W.heap.setIfInBounds b o }
theorem setB_other (W : World) (b : Nat) (o : Obj) {c : Nat} (h : c ≠ b) : (setB W b o).heap[c]? = W.heap[c]? := by
  unfold setB
  exact Array.getElem?_setIfInBounds_ne (fun e => h e.symm)
theorem setB_same (W : World) (b : Nat) (o : Obj) (h : b < W.heap.size) : (setB W b o).heap[b]? = some o := by
  unfold setB
  simp [h]
theorem setB_size (W : World) (b : Nat) (o : Obj) : (setB W b o).heap.size = W.heap.size := by unfold setB; simp
theorem setB_grown (W : World) (b : Nat) (o : Obj) : W.grownBy (setB W b o) (some b) :=
  ⟨rfl, rfl, rfl, by rw [setB_size]; exact Nat.le_refl _, fun k _ hk => setB_other W b o fun e => hk (by rw [e])⟩
theorem setB_below {B : Nat} {w W : World} (h : Below B w W) (b : Nat) (o : Obj) (hb : B ≤ b) : Below B w (setB W b o) :=
  ⟨h.os, h.tape, h.output, by rw [setB_size]; exact h.size, fun k hk => (setB_other W b o (by omega)).trans (h.block k hk)⟩

/-- A row of slices, by their places. -/
def topV (n : Nat) (vals : Nat → Value) : List Value := (List.range n).map vals
theorem topV_get {n : Nat} (vals : Nat → Value) {j : Nat} (h : j < n) : (topV n vals)[j]? = some (vals j) := by simp [topV, h]
theorem topV_set (n : Nat) (vals : Nat → Value) (k : Nat) (v : Value) : (topV n vals).set k v = topV n (fun j => if j = k then v else vals j) := by
  apply List.ext_getElem?
  intro j
  unfold topV
  rw [List.getElem?_set]
  by_cases hj : j < n
  · by_cases e : k = j
    · subst e; simp [hj]
    · have e' : ¬ j = k := fun h => e h.symm
      simp [hj, e, e']
  · by_cases e : k = j
    · subst e; simp [hj]
    · simp [hj, e]
theorem topV_congr {n : Nat} {f g : Nat → Value} (h : ∀ j, j < n → f j = g j) : topV n f = topV n g := by
  unfold topV
  exact List.map_congr_left fun j hj => h j (List.mem_range.1 hj)
abbrev topR (G n : Nat) : Value := .slice (some ⟨G, 0, none⟩) n n

/-- look, its map half laid (k makers). -/
structure LookA (B : Nat) (w W : World) (l : List Ru) (p bm G k : Nat) : Prop where
  below : Below B w W
  size : B ≤ W.heap.size
  lowm : B ≤ bm
  lowp : B ≤ p
  nep : p ≠ bm
  neG : G ≠ bm
  negp : G ≠ p
  c0 : W.cell? ⟨p, 0, none⟩ = some (.map (some bm))
  c1 : W.cell? ⟨p, 1, none⟩ = some (topR G l.length)
  map : W.heap[bm]? = some (.map (mkF 0 (l.take k)).toArray k)
  top : W.ownsRow B 25 1 (topR G l.length) l.length (topV l.length fun _ => .slice none 0 0)
theorem own_lt {W : World} {B : Nat} {e : TypeId} {s n : Nat} {v : Value} {xs : List Value} (h : W.ownsRow B e s v n xs) : ∀ g, v.ownBlock = some g → B ≤ g ∧ g < W.heap.size := by
  intro g hg
  rcases h.2 with ⟨rfl, _⟩ | ⟨g', cap, cur, rfl, hb, hc, _⟩
  · simp [Value.ownBlock] at hg
  · simp only [Value.ownBlock, Option.some.injEq] at hg
    subst hg
    exact ⟨hb, (Array.getElem?_eq_some_iff.1 hc).1⟩
theorem own_base {W : World} {B B' : Nat} {e : TypeId} {s n : Nat} {v : Value} {xs : List Value} (h : W.ownsRow B e s v n xs) (hB : B' ≤ B) : W.ownsRow B' e s v n xs := by
  refine ⟨h.1, ?_⟩
  rcases h.2 with h1 | ⟨g, cap, cur, h1, h2, h3⟩
  · exact .inl h1
  · exact .inr ⟨g, cap, cur, h1, Nat.le_trans hB h2, h3⟩

theorem LookA.make {w1 w2 : World} {l : List Ru} (hown : w2.ownsRow w1.heap.size 25 1 (.slice (some ⟨(w1.alloc (.map #[] 0)).heap.size, 0, none⟩) l.length l.length) l.length (madeCells (Value.slice none 0 0).cells (l.length * 1)).toList) (hgrow : (w1.alloc (.map #[] 0)).grownBy w2 none) :
    LookA w1.heap.size w1 (w2.alloc (.cells #[.map (some w1.heap.size), .slice (some ⟨w1.heap.size + 1, 0, none⟩) l.length l.length] 66)) l w2.heap.size w1.heap.size (w1.heap.size + 1) 0 := by
  have hz1 : (w1.alloc (.map #[] 0)).heap.size = w1.heap.size + 1 := by simp
  rw [hz1] at hown
  have hA1 : Below w1.heap.size w1 (w1.alloc (.map #[] 0)) := (Below.refl _ w1).alloc (Nat.le_refl _) _
  have hB2 : Below w1.heap.size w1 w2 := hA1.grown hgrow (by omega) (fun j e => by cases e)
  have hG := own_lt hown (w1.heap.size + 1) rfl
  have hm2 : w2.heap[w1.heap.size]? = some (.map #[] 0) := by
    rw [hgrow.block w1.heap.size (by omega) (by simp)]
    show (w1.heap.push _)[w1.heap.size]? = _
    simp
  have hA2 : Below w2.heap.size w2 (w2.alloc (.cells #[.map (some w1.heap.size), .slice (some ⟨w1.heap.size + 1, 0, none⟩) l.length l.length] 66)) := (Below.refl _ w2).alloc (Nat.le_refl _) _
  have hsz := hgrow.size
  have e : (madeCells (Value.slice none 0 0).cells (l.length * 1)).toList = topV l.length (fun _ => .slice none 0 0) := by
    rw [Nat.mul_one]
    refine (toList_madeCells_one _ _).trans ?_
    unfold topV
    rw [List.map_const']
    simp
  rw [e] at hown
  exact ⟨hB2.alloc (by omega) _, by simp; omega, Nat.le_refl _, by omega, by omega, by omega, by omega, by simp, by simp, (hA2.block _ (by omega)).trans hm2, hown.alloc _⟩
theorem LookA.next {B : Nat} {w W : World} {l : List Ru} {p bm G k : Nat} (h : LookA B w W l p bm G k) (hk : k < l.length) (o : Obj) :
    LookA B w (setB (W.alloc o).drew bm (.map (mkF 0 (l.take k) ++ [({ key := .string (ba l[k].out), val := nv k, born := k } : MapEntry)]).toArray (k + 1))) l p bm G (k + 1) := by
  have hbm := (Array.getElem?_eq_some_iff.1 h.map).1
  have hp := lt_of_cell h.c0
  have hA : Below W.heap.size W (W.alloc o).drew := ((Below.refl _ W).alloc (Nat.le_refl _) _).drew
  have hz := hA.size
  refine ⟨setB_below ((h.below.alloc h.size _).drew) _ _ h.lowm, by rw [setB_size]; exact Nat.le_trans h.size hz, h.lowm, h.lowp, h.nep, h.neG, h.negp, ?_, ?_, ?_, ?_⟩
  · exact (World.cell?_of_block (a := ⟨p, 0, none⟩) (setB_other _ bm _ h.nep)).trans (cell_below' h.c0 hA)
  · exact (World.cell?_of_block (a := ⟨p, 1, none⟩) (setB_other _ bm _ h.nep)).trans (cell_below' h.c1 hA)
  · rw [setB_same _ _ _ (by omega), List.take_succ_eq_append_getElem hk, mkF_snoc]
    simp only [Nat.zero_add, List.length_take, Nat.min_eq_left (Nat.le_of_lt hk)]
  · have h1 : (W.alloc o).drew.ownsRow B 25 1 (topR G l.length) l.length (topV l.length fun _ => .slice none 0 0) := h.top.alloc o
    exact h1.kept (setB_grown _ _ _) (.inr (by simp [Value.ownBlock, h.neG]))

/-- look, the rows of the first k rules laid. -/
structure LookB (B : Nat) (w W : World) (l : List Ru) (p bm G k : Nat) (vals : Nat → Value) : Prop where
  below : Below B w W
  size : B ≤ W.heap.size
  c0 : W.cell? ⟨p, 0, none⟩ = some (.map (some bm))
  c1 : W.cell? ⟨p, 1, none⟩ = some (topR G l.length)
  map : W.heap[bm]? = some (.map (mkF 0 l).toArray l.length)
  top : W.ownsRow B 25 1 (topR G l.length) l.length (topV l.length vals)
  lowp : B ≤ p
  negp : G ≠ p
  negm : G ≠ bm
  row : ∀ j (hj : j < l.length), j < k → W.ownsRow B 3 1 (vals j) (Ru.needL l l[j].ins).length ((Ru.needL l l[j].ins).map nv)
  nils : ∀ j, k ≤ j → vals j = .slice none 0 0
theorem LookA.start {B : Nat} {w W : World} {l : List Ru} {p bm G : Nat} (h : LookA B w W l p bm G l.length) : LookB B w W l p bm G 0 (fun _ => .slice none 0 0) :=
  ⟨h.below, h.size, h.c0, h.c1, by have := h.map; rwa [List.take_length] at this, h.top, h.lowp, h.negp, h.neG, fun j _ hj => absurd hj (Nat.not_lt_zero j), fun _ _ => rfl⟩
theorem LookB.done {B : Nat} {w W : World} {l : List Ru} {p bm G : Nat} {vals : Nat → Value} (h : LookB B w W l p bm G l.length vals) : ShAt W l p bm G vals :=
  ⟨h.c0, h.c1, h.map, fun i hi => ⟨by
    have := World.ownsRow.cellAt h.top i (by omega)
    rw [this, topV_get vals hi], (NRow.of_owns (h.row i hi hi)).ni⟩⟩

/-- Inside rule k: m of its inputs are through; its row lies from Bk on. -/
structure LookC (B Bk : Nat) (w W : World) (l : List Ru) (p bm G k : Nat) (vals : Nat → Value) (r : List Nat) (vi : Value) : Prop where
  below : Below B w W
  low : B ≤ Bk
  size : Bk ≤ W.heap.size
  c0 : W.cell? ⟨p, 0, none⟩ = some (.map (some bm))
  c1 : W.cell? ⟨p, 1, none⟩ = some (topR G l.length)
  map : W.heap[bm]? = some (.map (mkF 0 l).toArray l.length)
  ltm : bm < Bk
  ltp : p < Bk
  ltG : G < Bk
  lowp : B ≤ p
  negp : G ≠ p
  negm : G ≠ bm
  top : W.ownsRow B 25 1 (topR G l.length) l.length (topV l.length fun j => if j = k then vi else vals j)
  row : ∀ j (hj : j < l.length), j < k → W.ownsRow B 3 1 (vals j) (Ru.needL l l[j].ins).length ((Ru.needL l l[j].ins).map nv) ∧ ∀ g, (vals j).ownBlock = some g → g < Bk
  mine : W.ownsRow Bk 3 1 vi r.length (r.map nv)
  nils : ∀ j, k < j → vals j = .slice none 0 0

theorem LookB.enter {B : Nat} {w W : World} {l : List Ru} {p bm G k : Nat} {vals : Nat → Value} (h : LookB B w W l p bm G k vals) (o : Obj) : LookC B (W.alloc o).heap.size w (W.alloc o) l p bm G k vals [] (.slice none 0 0) := by
  have hA : Below W.heap.size W (W.alloc o) := (Below.refl _ W).alloc (Nat.le_refl _) _
  have hz : (W.alloc o).heap.size = W.heap.size + 1 := by simp
  have hG := own_lt h.top G rfl
  have hbm := (Array.getElem?_eq_some_iff.1 h.map).1
  have hp := lt_of_cell h.c0
  simp only at hp
  refine ⟨h.below.alloc h.size _, Nat.le_trans h.size hA.size, Nat.le_refl _, cell_below' h.c0 hA, cell_below' h.c1 hA, (hA.block bm hbm).trans h.map, by omega, by omega, by omega, h.lowp, h.negp, h.negm, ?_, fun j hj hjk => ⟨(h.row j hj hjk).alloc o, fun g hg => ?_⟩, World.ownsRow_nil _ _ _ _, fun j hj => h.nils j (by omega)⟩
  · have e : topV l.length (fun j => if j = k then Value.slice none 0 0 else vals j) = topV l.length vals := topV_congr fun j _ => by
      by_cases ej : j = k
      · rw [if_pos ej, h.nils j (by omega)]
      · rw [if_neg ej]
    rw [e]
    exact h.top.alloc o
  · have := (own_lt (h.row j hj hjk) g hg).2
    omega
theorem LookC.leave {B Bk : Nat} {w W : World} {l : List Ru} {p bm G k : Nat} {vals : Nat → Value} {vi : Value} (hk : k < l.length) (h : LookC B Bk w W l p bm G k vals (Ru.needL l l[k].ins) vi) : LookB B w W l p bm G (k + 1) (fun j => if j = k then vi else vals j) := by
  refine ⟨h.below, Nat.le_trans h.low h.size, h.c0, h.c1, h.map, h.top, h.lowp, h.negp, h.negm, fun j hj hjk => ?_, fun j hj => ?_⟩
  · by_cases e : j = k
    · subst e
      show W.ownsRow B 3 1 (if j = j then vi else vals j) _ _
      rw [if_pos rfl]
      exact own_base h.mine h.low
    · show W.ownsRow B 3 1 (if j = k then vi else vals j) _ _
      rw [if_neg e]
      exact (h.row j hj (by omega)).1
  · show (if j = k then vi else vals j) = _
    rw [if_neg (by omega)]
    exact h.nils j (by omega)
/-- Behind an append to the row of rule k, in the memory w1, and the row's new slice laid into the table. -/
theorem LookC.more {B Bk : Nat} {w W W1 w1 : World} {l : List Ru} {p bm G k : Nat} {vals : Nat → Value} {r : List Nat} {vi v1 : Value} {x : Nat} (h : LookC B Bk w W l p bm G k vals r vi) (h1 : Below W.heap.size W W1) (hg : W1.grownBy w1 vi.ownBlock)
    (hown : w1.ownsRow Bk 3 1 v1 (r.length + 1) (r.map nv ++ [nv x])) (hblk : v1.ownBlock ≠ some G) :
    LookC B Bk w (w1.setCell ⟨G, k, none⟩ v1) l p bm G k vals (r ++ [x]) v1 := by
  have hmine := own_lt h.mine
  have hfar : vi.ownBlock ≠ some G := fun e => by
    have := (hmine G e).1
    have := h.ltG
    omega
  have hB1 : ∀ c, c < Bk → w1.heap[c]? = W.heap[c]? := fun c hc => by
    have hcw : c < W.heap.size := Nat.lt_of_lt_of_le hc h.size
    rw [hg.block c (Nat.lt_of_lt_of_le hcw h1.size) (fun e => by
      have := (hmine c e.symm).1
      omega)]
    exact h1.block c hcw
  have hS : ∀ c, c ≠ G → (w1.setCell ⟨G, k, none⟩ v1).heap[c]? = w1.heap[c]? := fun c hc => Below.heap_setCell w1 ⟨G, k, none⟩ v1 c hc
  have hz : (w1.setCell ⟨G, k, none⟩ v1).heap.size = w1.heap.size := by simp
  have hlow := h.low
  have hlp := h.lowp
  have h1z := h1.size
  have hgz := hg.size
  have hsz := h.size
  have hGB : B ≤ G := (own_lt h.top G rfl).1
  have keep : ∀ {e : TypeId} {n : Nat} {v : Value} {xs : List Value}, W.ownsRow B e 1 v n xs → (∀ g, v.ownBlock = some g → g < Bk) → w1.ownsRow B e 1 v n xs := fun {e n v xs} ho hb => by
    refine ⟨ho.1, ?_⟩
    rcases ho.2 with h2 | ⟨g, cap, cur, rfl, h3, h4, h5⟩
    · exact .inl h2
    · exact .inr ⟨g, cap, cur, rfl, h3, (hB1 g (hb g rfl)).trans h4, h5⟩
  refine ⟨?_, h.low, by rw [hz]; omega, ?_, ?_, ?_, h.ltm, h.ltp, h.ltG, h.lowp, h.negp, h.negm, ?_, fun j hj hjk => ⟨?_, (h.row j hj hjk).2⟩, ?_, h.nils⟩
  · refine Below.setCell (p := ⟨G, k, none⟩) ?_ hGB _
    exact (h.below.trans (h1.mono (by omega))).grown hg (by omega) fun j e => by have := (hmine j e).1; omega
  · exact (World.cell?_of_block (a := ⟨p, 0, none⟩) ((hS p (fun e => h.negp e.symm)).trans (hB1 p h.ltp))).trans h.c0
  · exact (World.cell?_of_block (a := ⟨p, 1, none⟩) ((hS p (fun e => h.negp e.symm)).trans (hB1 p h.ltp))).trans h.c1
  · exact ((hS bm (fun e => h.negm e.symm)).trans (hB1 bm h.ltm)).trans h.map
  · have ht := keep h.top (fun g e => by cases e; exact h.ltG)
    have := (World.ownsRow.stored ht k v1).1
    rw [topV_set] at this
    have e : topV l.length (fun j => if j = k then v1 else if j = k then vi else vals j) = topV l.length (fun j => if j = k then v1 else vals j) := topV_congr fun j _ => by
      by_cases ej : j = k
      · rw [if_pos ej, if_pos ej]
      · rw [if_neg ej, if_neg ej, if_neg ej]
    rw [e] at this
    exact this
  · obtain ⟨ho, hb⟩ := h.row j hj hjk
    refine ownsRow_setCell_other (keep ho hb) ?_ _
    exact owns_far (keep ho hb) (keep h.top (fun g e => by cases e; exact h.ltG)) (by decide)
  · rw [List.length_append, List.length_singleton, List.map_append]
    exact ownsRow_setCell_other hown hblk _
/-- What an append to the row of rule k leaves as it was. -/
theorem LookC.after {B Bk : Nat} {w W W1 w1 : World} {l : List Ru} {p bm G k : Nat} {vals : Nat → Value} {r : List Nat} {vi : Value} (h : LookC B Bk w W l p bm G k vals r vi) (hk : k < l.length) (h1 : Below W.heap.size W W1) (hg : W1.grownBy w1 vi.ownBlock) :
    w1.cell? ⟨G, k, none⟩ = some vi ∧ w1.frozen? ⟨G, k, none⟩ = false ∧ w1.cell? ⟨p, 1, none⟩ = some (topR G l.length) := by
  have hmine := own_lt h.mine
  have hB1 : ∀ c, c < Bk → w1.heap[c]? = W.heap[c]? := fun c hc => by
    have hcw : c < W.heap.size := Nat.lt_of_lt_of_le hc h.size
    rw [hg.block c (Nat.lt_of_lt_of_le hcw h1.size) (fun e => by
      have := (hmine c e.symm).1
      omega)]
    exact h1.block c hcw
  refine ⟨?_, ?_, (World.cell?_of_block (a := ⟨p, 1, none⟩) (hB1 p h.ltp)).trans h.c1⟩
  · rw [World.cell?_of_block (a := ⟨G, k, none⟩) (hB1 G h.ltG), World.ownsRow.cellAt h.top k (by omega), topV_get _ hk, if_pos rfl]
  · rw [World.frozen?_of_block (a := ⟨G, k, none⟩) (hB1 G h.ltG)]
    exact World.ownsRow.frozenAt h.top k
theorem LookC.at {B Bk : Nat} {w W : World} {l : List Ru} {p bm G k : Nat} {vals : Nat → Value} {r : List Nat} {vi : Value} (h : LookC B Bk w W l p bm G k vals r vi) (hk : k < l.length) : W.cell? ⟨G, k, none⟩ = some vi ∧ W.frozen? ⟨G, k, none⟩ = false := by
  refine ⟨?_, World.ownsRow.frozenAt h.top k⟩
  rw [World.ownsRow.cellAt h.top k (by omega), topV_get _ hk, if_pos rfl]
end Go.Proofs.YtmeplgihnlpjcaaGreatDoor
/- An order, by what is left: as data. -/
namespace Go.Proofs.YtmeplgihnlpjcaaGreatDoor
open Go.RowKit Go.Shelf Go.Lib

namespace Ru
abbrev every : Nat → Bool := fun _ => true
/-- Those of the first n that did not come yet. -/
def left (n : Nat) (o : List Nat) : List Nat := (List.range n).filter fun i => !isIn o i
theorem left_mem {n : Nat} {o : List Nat} {i : Nat} : i ∈ left n o ↔ i < n ∧ i ∉ o := by
  unfold left isIn
  simp
theorem left_once (n : Nat) (o : List Nat) : (left n o).Nodup := List.Pairwise.filter _ List.nodup_range
theorem left_len (n : Nat) (o : List Nat) : (left n o).length ≤ n := by
  have := List.length_filter_le (fun i => !isIn o i) (List.range n)
  simpa [left] using this
theorem left_nil (n : Nat) : left n [] = List.range n := by
  unfold left
  rw [List.filter_eq_self]
  intro i _
  simp [isIn]
theorem leftTo_eq (n : Nat) (o : List Nat) : leftTo every (isIn o) n = true ↔ left n o ≠ [] := by
  unfold leftTo left
  rw [List.any_eq_true, ne_eq, List.filter_eq_nil_iff]
  constructor
  · rintro ⟨i, hi, h⟩ hno
    exact hno i hi (by simpa using h)
  · intro h
    simp only [Classical.not_forall] at h
    obtain ⟨i, hi, h⟩ := h
    exact ⟨i, hi, by simpa using h⟩
theorem nextTo_eq (l : List Ru) (n : Nat) (o : List Nat) : nextTo l every (isIn o) n = (left n o).find? fun i => freeTo l (isIn o) i l.length := by
  unfold nextTo left
  rw [List.find?_filter]
  congr 1
  funext i
  unfold may
  cases isIn o i <;> cases freeTo l (isIn o) i l.length <;> rfl
theorem left_none {l : List Ru} {o : List Nat} {b : Nat → Bool} (hb : ∀ x ∈ left l.length o, b x = freeTo l (isIn o) x l.length) (h : ∀ x ∈ left l.length o, b x = false) : nextTo l every (isIn o) l.length = none := by
  rw [nextTo_eq, List.find?_eq_none]
  intro x hx
  rw [← hb x hx, h x hx]
  simp
theorem left_some {l : List Ru} {o : List Nat} {b : Nat → Bool} (hb : ∀ x ∈ left l.length o, b x = freeTo l (isIn o) x l.length) {k : Nat} (hk : k < (left l.length o).length) (h1 : b (left l.length o)[k] = true) (h2 : ∀ x ∈ (left l.length o).take k, b x = false) : nextTo l every (isIn o) l.length = some (left l.length o)[k] := by
  rw [nextTo_eq]
  generalize left l.length o = r at *
  have e : r = r.take k ++ r[k] :: r.drop (k + 1) := by
    rw [← List.drop_eq_getElem_cons hk, List.take_append_drop]
  have hn : (r.take k).find? (fun i => freeTo l (isIn o) i l.length) = none := by
    rw [List.find?_eq_none]
    intro x hx
    rw [← hb x (List.mem_of_mem_take hx), h2 x hx]
    simp
  have hm : freeTo l (isIn o) r[k] l.length = true := by rw [← hb _ (List.getElem_mem hk)]; exact h1
  generalize r[k] = y at *
  rw [e, List.find?_append, hn, List.find?_cons_of_pos (by simpa using hm)]
  rfl
theorem left_del {n : Nat} {o : List Nat} {k : Nat} (hk : k < (left n o).length) : (left n o).take k ++ (left n o).drop (k + 1) = left n (o ++ [(left n o)[k]]) := by
  have hd := left_once n o
  have e : left n (o ++ [(left n o)[k]]) = (left n o).filter fun i => !(i == (left n o)[k]) := by
    generalize (left n o)[k] = y
    unfold left
    rw [List.filter_filter]
    apply List.filter_congr
    intro i _
    unfold isIn
    by_cases h : i = y
    · subst h; simp
    · simp [h]
  rw [e]
  generalize left n o = r at *
  have er : r = r.take k ++ r[k] :: r.drop (k + 1) := by
    rw [← List.drop_eq_getElem_cons hk, List.take_append_drop]
  generalize r[k] = y at *
  rw [er] at hd
  rw [List.nodup_append] at hd
  obtain ⟨h1, h2, h3⟩ := hd
  have h4 := (List.nodup_cons.1 h2).1
  conv => rhs; rw [er]
  rw [List.filter_append, List.filter_cons_of_neg (by simp)]
  congr 1
  · symm
    rw [List.filter_eq_self]
    intro a ha
    have := h3 a ha y (by simp)
    simpa using this
  · symm
    rw [List.filter_eq_self]
    intro a ha
    have : a ≠ y := fun e => h4 (e ▸ ha)
    simpa using this
/-- What may come: it needs nothing that is left. -/
theorem free_eq {l : List Ru} (hA : Apart l) {o : List Nat} {i : Nat} (hi : i < l.length) : (!((needL l l[i].ins).any fun y => decide (y ∈ left l.length o))) = freeTo l (isIn o) i l.length := by
  rw [Bool.eq_iff_iff]
  unfold freeTo
  simp only [Bool.not_eq_true', List.any_eq_false, decide_eq_true_eq, List.all_eq_true, List.mem_range, Bool.or_eq_true, Bool.not_eq_true']
  constructor
  · intro h k hk
    by_cases hn : needs l i k = true
    · left
      have := h k ((needL_mem hA hi k).2 hn)
      rw [left_mem] at this
      simpa [isIn, hk] using this
    · right
      simpa using hn
  · intro h k hk hl
    rw [left_mem] at hl
    rcases h k hl.1 with h1 | h1
    · exact hl.2 (by simpa [isIn] using h1)
    · rw [(needL_mem hA hi k).1 hk] at h1
      cases h1
theorem ord_step (l : List Ru) {o : List Nat} (hlen : o.length ≤ l.length) : orderF l every (l.length + 1 - o.length) o = if leftTo every (isIn o) l.length = true then (match nextTo l every (isIn o) l.length with | none => none | some i => orderF l every (l.length - o.length) (o ++ [i])) else some o := by
  rw [show l.length + 1 - o.length = (l.length - o.length) + 1 by omega]
  rfl
theorem ord_done {l : List Ru} {o : List Nat} (h : orderF l every (l.length + 1 - o.length) o = order l every) (hlen : o.length ≤ l.length) (hl : left l.length o = []) : order l every = some o := by
  rw [← h, ord_step l hlen, if_neg]
  rw [leftTo_eq]
  simpa using hl
theorem ord_none {l : List Ru} {o : List Nat} (h : orderF l every (l.length + 1 - o.length) o = order l every) (hlen : o.length ≤ l.length) (hl : left l.length o ≠ []) (hn : nextTo l every (isIn o) l.length = none) : order l every = none := by
  rw [← h, ord_step l hlen, if_pos ((leftTo_eq _ _).2 hl), hn]
theorem ord_more {l : List Ru} {o : List Nat} {j : Nat} (h : orderF l every (l.length + 1 - o.length) o = order l every) (hlen : o.length ≤ l.length) (hl : left l.length o ≠ []) (hn : nextTo l every (isIn o) l.length = some j) : orderF l every (l.length + 1 - (o ++ [j]).length) (o ++ [j]) = order l every := by
  rw [← h, ord_step l hlen, if_pos ((leftTo_eq _ _).2 hl), hn, List.length_append, List.length_singleton]
  rw [show l.length + 1 - (o.length + 1) = l.length - o.length by omega]
/-- What the loop holds. -/
structure Ord (l : List Ru) (o : List Nat) : Prop where
  once : o.Nodup
  lt : ∀ i ∈ o, i < l.length
  ord : orderF l every (l.length + 1 - o.length) o = order l every
theorem Ord.first (l : List Ru) : Ord l [] := ⟨List.nodup_nil, by simp, rfl⟩
theorem Ord.len {l : List Ru} {o : List Nat} (h : Ord l o) : o.length ≤ l.length := len_le h.once h.lt
theorem Ord.more {l : List Ru} {o : List Nat} {b : Nat → Bool} (h : Ord l o) (hb : ∀ x ∈ left l.length o, b x = freeTo l (isIn o) x l.length) {k : Nat} (hk : k < (left l.length o).length) (h1 : b (left l.length o)[k] = true) (h2 : ∀ x ∈ (left l.length o).take k, b x = false) : Ord l (o ++ [(left l.length o)[k]]) := by
  have hj := left_mem.1 (List.getElem_mem hk)
  refine ⟨?_, ?_, ord_more h.ord h.len (fun e => by rw [e] at hk; simp at hk) (left_some hb hk h1 h2)⟩
  · rw [List.nodup_append]
    exact ⟨h.once, by simp, fun a ha b hb => by
      rw [List.mem_singleton.1 hb]
      rintro rfl
      exact hj.2 ha⟩
  · intro i hi
    rcases List.mem_append.1 hi with h1 | h1
    · exact h.lt i h1
    · rw [List.mem_singleton.1 h1]; exact hj.1
end Ru
end Go.Proofs.YtmeplgihnlpjcaaGreatDoor
