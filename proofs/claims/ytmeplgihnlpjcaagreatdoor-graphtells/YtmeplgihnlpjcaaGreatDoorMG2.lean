/- Small laws on slices of texts, on builders and on the table of Itoa. -/
import Derived.Test.YtmeplgihnlpjcaaGreatDoorMG1
import Derived.Test.YtmeplgihnlpjcaaGreatDoorShelf2
import Derived.Shelf.Strings.BuilderK
import Derived.Lib.SmallJoins
import Derived.Lib.ItoaLen
import Derived.Sort.Grow
import Derived.Deep.RegionHeld3
namespace Go.Proofs.YtmeplgihnlpjcaaGreatDoor
open Go.RowKit Go.Shelf Go.Lib Go.Maps
open Go.Sort (grow)

/-- A slice of texts in memory. -/
def TRow (w : World) (v : Value) (l : List (List UInt8)) : Prop :=
  ∃ p cap, v = .slice p l.length cap ∧ l.length ≤ cap ∧ (l ≠ [] → ∃ g cur, p = some ⟨g, 0, none⟩ ∧ w.heap[g]? = some (.cells cur 9 (0, 0)) ∧ ∀ j (hj : j < l.length), cur[j]? = some (.string (ba l[j])))

theorem TRow.of_owns {w : World} {base : Nat} {v : Value} {l : List (List UInt8)} {n : Nat} (h : w.ownsRow base 9 1 v n (l.map encStr)) : TRow w v l := by
  have hn : n = l.length := by have := h.1; simp at this; omega
  subst hn
  rcases h.2 with ⟨rfl, hn⟩ | ⟨g, cap, cur, rfl, _, hb, h1, _, _, h4⟩
  · obtain rfl : l = [] := by simpa using hn
    exact ⟨none, 0, rfl, Nat.le_refl _, fun h => absurd rfl h⟩
  · refine ⟨_, cap, rfl, h1, fun _ => ⟨g, cur, rfl, hb, fun j hj => ?_⟩⟩
    have := congrArg (fun x => x[j]?) h4
    simp only [Nat.mul_one, List.getElem?_take, hj, if_true, List.getElem?_map, List.getElem?_eq_getElem hj, Option.map_some, Array.getElem?_toList] at this
    exact this

theorem TRow.below {w w' : World} {v : Value} {l : List (List UInt8)} (h : TRow w v l) (hb : Below w.heap.size w w') : TRow w' v l := by
  obtain ⟨p, cap, e, h0, h1⟩ := h
  refine ⟨p, cap, e, h0, fun hl => ?_⟩
  obtain ⟨g, cur, e, hg, hc⟩ := h1 hl
  exact ⟨g, cur, e, (hb.block g (Array.getElem?_eq_some_iff.1 hg).1).trans hg, hc⟩

theorem TRow.others {w w' : World} {v : Value} {l : List (List UInt8)} {b : Nat} {p : Value} {bs : List Value} {B : Nat} (h : TRow w v l) (hk : Lib.OthersKept 5 (some b) w w') (hB : Lib.BuilderAtF 212 5 B b p bs w) : TRow w' v l := by
  obtain ⟨q, cap, e, h0, h1⟩ := h
  refine ⟨q, cap, e, h0, fun hl => ?_⟩
  obtain ⟨g, cur, e, hg, hc⟩ := h1 hl
  refine ⟨g, cur, e, hk g _ hg (fun e => ?_) (fun c fz e => ?_), hc⟩
  · cases e
    obtain ⟨_, v, hb, _⟩ := hB
    rw [hg] at hb
    simp at hb
  · simp at e

theorem cell_of_row {w : World} {g j : Nat} {cur : Array Value} {t : TypeId} {fz : Nat × Nat} {x : Value} (hg : w.heap[g]? = some (.cells cur t fz)) (hc : cur[j]? = some x) : w.cell? ⟨g, j, none⟩ = some x := by
  simp [World.cell?, hg, hc]

theorem below_grow (w : World) (k : Nat) (os : Array Obj) : Below w.heap.size w (grow (w.drewN k) os) :=
  ⟨rfl, rfl, rfl, by simp [grow], fun i hi => by simp [grow, Array.getElem?_append_left hi]⟩

theorem builder_below {w w' : World} {B b : Nat} {p : Value} {bs : List Value} (h : Lib.BuilderAtF 212 5 B b p bs w) (hb : Below w.heap.size w w') : Lib.BuilderAtF 212 5 B b p bs w' := by
  obtain ⟨h1, v, h2, h3, h4⟩ := h
  exact ⟨h1, v, (hb.block b (Array.getElem?_eq_some_iff.1 h2).1).trans h2, h3.kept (row := none) ⟨hb.os, hb.tape, hb.output, hb.size, fun k hk _ => hb.block k hk⟩ (by cases v.ownBlock <;> simp), h4⟩

theorem isBuilder_below {w w' : World} {B b : Nat} {bs : List Value} (h : Lib.IsBuilderF 212 5 B b bs w) (hb : Below w.heap.size w w') : Lib.IsBuilderF 212 5 B b bs w' :=
  h.imp (fun h => builder_below h hb) (fun h => builder_below h hb)

theorem TRow.others' {w w' : World} {v : Value} {l : List (List UInt8)} {b : Nat} {bs : List Value} {B : Nat} (h : TRow w v l) (hk : Lib.OthersKept 5 (some b) w w') (hB : Lib.IsBuilderF 212 5 B b bs w) : TRow w' v l :=
  hB.elim (fun hB => h.others hk hB) (fun hB => h.others hk hB)

abbrev Pow (w : World) : Prop := Lib.TabIs Tryz.prog w "internal/strconv.uint64pow10" .u64 Lib.pow10Tab
theorem pow_below {w w' : World} (h : Pow w) (hb : Below w.heap.size w w') : Pow w' := Go.Joins.tab_stays (g := 14) (by kernel_rfl) h hb (Nat.le_refl _)

theorem digits_len (n : Nat) (h : n ≤ 100000) : (Lib.decDigits n).length ≤ 21 := by
  have := Lib.itoa_length_le (n : Int) (by omega) (by omega)
  rwa [Lib.itoa_nonneg] at this

end Go.Proofs.YtmeplgihnlpjcaaGreatDoor
/- Slices of numbers, wherever they begin; the library's functions over them. -/
namespace Go.Proofs.YtmeplgihnlpjcaaGreatDoor
open Go.RowKit Go.Shelf Go.Lib

/-- A slice of numbers, wherever it begins in its block. -/
def NIRow (w : World) (v : Value) (l : List Nat) : Prop :=
  ∃ p cap, v = .slice p l.length cap ∧ (l ≠ [] → ∃ g o, p = some ⟨g, o, none⟩ ∧ g < w.heap.size ∧ ∀ j (hj : j < l.length), w.cell? ⟨g, o + j, none⟩ = some (nv l[j]))
theorem NIRow.below {w w' : World} {v : Value} {l : List Nat} (h : NIRow w v l) (hb : Below w.heap.size w w') : NIRow w' v l := by
  obtain ⟨p, cap, e, h1⟩ := h
  refine ⟨p, cap, e, fun hl => ?_⟩
  obtain ⟨g, o, e, hg, hc⟩ := h1 hl
  exact ⟨g, o, e, Nat.lt_of_lt_of_le hg hb.size, fun j hj => (hb.cell (p := ⟨g, o + j, none⟩) hg).trans (hc j hj)⟩
theorem NRow.ni {w : World} {v : Value} {l : List Nat} (h : NRow w v l) : NIRow w v l := by
  obtain ⟨p, cap, e, _, h1⟩ := h
  refine ⟨p, cap, e, fun hl => ?_⟩
  obtain ⟨g, cur, e, hg, hc⟩ := h1 hl
  exact ⟨g, 0, e, (Array.getElem?_eq_some_iff.1 hg).1, fun j hj => by rw [Nat.zero_add]; exact cell_of_row hg (hc j hj)⟩

end Go.Proofs.YtmeplgihnlpjcaaGreatDoor
/- Slices of texts, wherever they begin in their block. -/
namespace Go.Proofs.YtmeplgihnlpjcaaGreatDoor
open Go.RowKit Go.Shelf Go.Lib

/-- A slice of texts that came in. -/
def IRow (w : World) (v : Value) (l : List (List UInt8)) : Prop :=
  ∃ p cap, v = .slice p l.length cap ∧ (l ≠ [] → ∃ g o, p = some ⟨g, o, none⟩ ∧ g < w.heap.size ∧ ∀ j (hj : j < l.length), w.cell? ⟨g, o + j, none⟩ = some (.string (ba l[j])))
theorem IRow.below {w w' : World} {v : Value} {l : List (List UInt8)} (h : IRow w v l) (hb : Below w.heap.size w w') : IRow w' v l := by
  obtain ⟨p, cap, e, h1⟩ := h
  refine ⟨p, cap, e, fun hl => ?_⟩
  obtain ⟨g, o, e, hg, hc⟩ := h1 hl
  exact ⟨g, o, e, Nat.lt_of_lt_of_le hg hb.size, fun j hj => (hb.cell (p := ⟨g, o + j, none⟩) hg).trans (hc j hj)⟩

/-- A slice of texts, with its room. -/
def XRow (w : World) (v : Value) (l : List (List UInt8)) : Prop :=
  ∃ p cap, v = .slice p l.length cap ∧ l.length ≤ cap ∧ (p = none → cap = 0) ∧ (l ≠ [] → ∃ g o, p = some ⟨g, o, none⟩ ∧ g < w.heap.size ∧ ∀ j (hj : j < l.length), w.cell? ⟨g, o + j, none⟩ = some (.string (ba l[j])))
theorem XRow.below {w w' : World} {v : Value} {l : List (List UInt8)} (h : XRow w v l) (hb : Below w.heap.size w w') : XRow w' v l := by
  obtain ⟨p, cap, e, h0, hn, h1⟩ := h
  refine ⟨p, cap, e, h0, hn, fun hl => ?_⟩
  obtain ⟨g, o, e, hg, hc⟩ := h1 hl
  exact ⟨g, o, e, Nat.lt_of_lt_of_le hg hb.size, fun j hj => (hb.cell (p := ⟨g, o + j, none⟩) hg).trans (hc j hj)⟩
theorem XRow.irow {w : World} {v : Value} {l : List (List UInt8)} (h : XRow w v l) : IRow w v l := by
  obtain ⟨p, cap, e, _, _, h1⟩ := h
  exact ⟨p, cap, e, h1⟩
theorem XRow.shape {w : World} {v : Value} {l : List (List UInt8)} (h : XRow w v l) : v = .slice none 0 0 ∨ ∃ a n cap, v = .slice (some a) n cap := by
  obtain ⟨p, cap, rfl, h0, hn, h1⟩ := h
  cases p with
  | none =>
    have hc := hn rfl
    subst hc
    obtain rfl : l = [] := List.length_eq_zero_iff.1 (by omega)
    exact .inl rfl
  | some a => exact .inr ⟨a, _, _, rfl⟩
theorem XRow.nil (w : World) : XRow w (.slice none 0 0) [] := ⟨none, 0, rfl, Nat.le_refl _, fun _ => rfl, fun h => absurd rfl h⟩
theorem XRow.of_owns {w : World} {base : Nat} {v : Value} {l : List (List UInt8)} {n : Nat} (h : w.ownsRow base 9 1 v n (l.map sv)) : XRow w v l := by
  have hn : n = l.length := by have := h.1; simp at this; omega
  subst hn
  rcases h.2 with ⟨rfl, hn⟩ | ⟨g, cap, cur, rfl, _, hb, h1, _, _, h4⟩
  · obtain rfl : l = [] := by simpa using hn
    exact XRow.nil w
  · refine ⟨_, cap, rfl, h1, fun h => (by cases h), fun _ => ⟨g, 0, rfl, (Array.getElem?_eq_some_iff.1 hb).1, fun j hj => ?_⟩⟩
    have := congrArg (fun x => x[j]?) h4
    simp only [Nat.mul_one, List.getElem?_take, hj, if_true, List.getElem?_map, List.getElem?_eq_getElem hj, Option.map_some, Array.getElem?_toList] at this
    rw [Nat.zero_add]
    exact cell_of_row hb this
theorem one_sv {l : List (List UInt8)} : ∀ u ∈ l.map sv, u.oneCell' = true := fun u hu => by
  obtain ⟨z, _, rfl⟩ := List.mem_map.1 hu
  rfl
theorem add_at2 (g k j : Nat) : (⟨g, k, none⟩ : Addr).add j = ⟨g, k + j, none⟩ := by
  by_cases h0 : j = 0 <;> simp [Addr.add, h0]
theorem lay_b1 {w w1 : World} (n1 : w.ownsRow w.heap.size 9 1 (.slice none 0 0) 0 []) (hg : w.grownBy w1 (Value.slice none 0 0).ownBlock) : Below w.heap.size w w1 := below_more (Below.refl _ w) (Nat.le_refl _) n1 hg
end Go.Proofs.YtmeplgihnlpjcaaGreatDoor
/- Rules, as data; how they lie in memory. -/
namespace Go.Proofs.YtmeplgihnlpjcaaGreatDoor
open Go.RowKit Go.Shelf Go.Lib

/-- A rule. -/
structure Ru where
  out : List UInt8
  kind : List UInt8
  word : List UInt8
  ins : List (List UInt8)

namespace Ru
/-- The first place from k on (n steps) whose number is not 0. -/
def firstFrom (c : Nat → Nat) : Nat → Nat → Option Nat
  | _, 0 => none
  | k, n + 1 => if c k = 0 then firstFrom c (k + 1) n else some k
def first (c : Nat → Nat) (n : Nat) : Option Nat := firstFrom c 0 n
/-- Its number. -/
def firstC (c : Nat → Nat) (n : Nat) : Nat := match first c n with | some k => c k | none => 0
theorem firstFrom_none {c : Nat → Nat} : ∀ {n k : Nat}, (∀ j, k ≤ j → j < k + n → c j = 0) → firstFrom c k n = none
  | 0, _, _ => rfl
  | n + 1, k, h => by
    unfold firstFrom
    rw [if_pos (h k (Nat.le_refl _) (by omega))]
    exact firstFrom_none fun j h1 h2 => h j (by omega) (by omega)
theorem firstFrom_some {c : Nat → Nat} {m : Nat} : ∀ {n k : Nat}, k ≤ m → m < k + n → c m ≠ 0 → (∀ j, k ≤ j → j < m → c j = 0) → firstFrom c k n = some m
  | 0, _, h1, h2, _, _ => by omega
  | n + 1, k, h1, h2, hc, h => by
    unfold firstFrom
    by_cases e : k = m
    · subst e
      rw [if_neg hc]
    · rw [if_pos (h k (Nat.le_refl _) (by omega))]
      exact firstFrom_some (by omega) (by omega) hc fun j h1 h2 => h j (by omega) h2
theorem first_none {c : Nat → Nat} {n : Nat} (h : ∀ j, j < n → c j = 0) : first c n = none := firstFrom_none fun j _ h2 => h j (by omega)
theorem first_some {c : Nat → Nat} {n m : Nat} (hm : m < n) (hc : c m ≠ 0) (h : ∀ j, j < m → c j = 0) : first c n = some m := firstFrom_some (Nat.zero_le _) (by omega) hc fun j _ h2 => h j h2
theorem firstFrom_none_zero {c : Nat → Nat} : ∀ {n k : Nat}, firstFrom c k n = none → ∀ j, k ≤ j → j < k + n → c j = 0
  | 0, _, _, j, h1, h2 => by omega
  | n + 1, k, h, j, h1, h2 => by
    unfold firstFrom at h
    split at h
    · rename_i h0
      by_cases e : j = k
      · rw [e]; exact h0
      · exact firstFrom_none_zero h j (by omega) (by omega)
    · cases h
theorem firstFrom_some_ne {c : Nat → Nat} {m : Nat} : ∀ {n k : Nat}, firstFrom c k n = some m → c m ≠ 0
  | 0, _, h => by cases h
  | n + 1, k, h => by
    unfold firstFrom at h
    split at h
    · exact firstFrom_some_ne h
    · rename_i h0
      rw [← Option.some.inj h]
      exact h0
theorem first_none_zero {c : Nat → Nat} {n : Nat} (h : first c n = none) (j : Nat) (hj : j < n) : c j = 0 := firstFrom_none_zero h j (Nat.zero_le _) (by omega)
theorem first_some_ne {c : Nat → Nat} {n m : Nat} (h : first c n = some m) : c m ≠ 0 := firstFrom_some_ne h
theorem firstC_none {c : Nat → Nat} {n : Nat} (h : ∀ j, j < n → c j = 0) : firstC c n = 0 := by unfold firstC; rw [first_none h]
theorem firstC_some {c : Nat → Nat} {n m : Nat} (hm : m < n) (hc : c m ≠ 0) (h : ∀ j, j < m → c j = 0) : firstC c n = c m := by unfold firstC; rw [first_some hm hc h]
theorem firstC_zero {c : Nat → Nat} {n : Nat} (h : firstC c n = 0) (j : Nat) (hj : j < n) : c j = 0 := by
  unfold firstC at h
  cases hf : first c n with
  | none => exact first_none_zero hf j hj
  | some k =>
    rw [hf] at h
    exact absurd h (first_some_ne hf)
theorem firstC_const {c : Nat → Nat} {n d : Nat} (h : ∀ j, c j = 0 ∨ c j = d) : firstC c n = 0 ∨ firstC c n = d := by
  unfold firstC
  split
  · exact h _
  · exact .inl rfl
/-- No text of a rule is great. -/
structure Small (r : Ru) : Prop where
  out : r.out.length ≤ 100
  kind : r.kind.length ≤ 60
  word : r.word.length ≤ 150
  many : r.ins.length ≤ 12
  ins : ∀ x ∈ r.ins, x.length ≤ 300
end Ru

/-- A rule as a value: v its inputs. -/
abbrev ruV (r : Ru) (v : Value) : Value := .agg #[.string (ba r.out), .string (ba r.kind), .string (ba r.word), v]
/-- A rule's four cells. -/
def RuAt (w : World) (g o : Nat) (r : Ru) : Prop :=
  w.cell? ⟨g, o, none⟩ = some (.string (ba r.out)) ∧ w.cell? ⟨g, o + 1, none⟩ = some (.string (ba r.kind)) ∧ w.cell? ⟨g, o + 2, none⟩ = some (.string (ba r.word)) ∧ ∃ v, w.cell? ⟨g, o + 3, none⟩ = some v ∧ XRow w v r.ins
theorem RuAt.below {w w' : World} {g o : Nat} {r : Ru} (h : RuAt w g o r) (hb : Below w.heap.size w w') : RuAt w' g o r := by
  obtain ⟨h0, h1, h2, v, h3, h4⟩ := h
  exact ⟨cell_below' h0 hb, cell_below' h1 hb, cell_below' h2 hb, v, cell_below' h3 hb, h4.below hb⟩
/-- A slice of rules in memory. -/
def RRow (w : World) (v : Value) (l : List Ru) : Prop :=
  ∃ p cap, v = .slice p l.length cap ∧ l.length ≤ cap ∧ (p = none → cap = 0) ∧ (l ≠ [] → ∃ g o, p = some ⟨g, o, none⟩ ∧ g < w.heap.size ∧ ∀ j (hj : j < l.length), RuAt w g (o + j * 4) l[j])
theorem RRow.below {w w' : World} {v : Value} {l : List Ru} (h : RRow w v l) (hb : Below w.heap.size w w') : RRow w' v l := by
  obtain ⟨p, cap, e, h0, hn, h1⟩ := h
  refine ⟨p, cap, e, h0, hn, fun hl => ?_⟩
  obtain ⟨g, o, e, hg, hc⟩ := h1 hl
  exact ⟨g, o, e, Nat.lt_of_lt_of_le hg hb.size, fun j hj => (hc j hj).below hb⟩
theorem RRow.nil (w : World) : RRow w (.slice none 0 0) [] := ⟨none, 0, rfl, Nat.le_refl _, fun _ => rfl, fun h => absurd rfl h⟩

end Go.Proofs.YtmeplgihnlpjcaaGreatDoor
/- Which rule needs which: as data. -/
namespace Go.Proofs.YtmeplgihnlpjcaaGreatDoor
open Go.RowKit Go.Shelf Go.Lib

namespace Ru
/-- Does rule i need rule k? -/
def needs (l : List Ru) (i k : Nat) : Bool :=
  match l[i]?, l[k]? with
  | some a, some b => decide (b.out ∈ a.ins)
  | _, _ => false
theorem needs_eq {l : List Ru} {i k : Nat} (hi : i < l.length) (hk : k < l.length) : needs l i k = decide (l[k].out ∈ l[i].ins) := by
  unfold needs
  rw [List.getElem?_eq_getElem hi, List.getElem?_eq_getElem hk]
theorem needs_lt {l : List Ru} {i k : Nat} (h : needs l i k = true) : i < l.length ∧ k < l.length := by
  unfold needs at h
  split at h
  · rename_i a b ha hb
    exact ⟨(List.getElem?_eq_some_iff.1 ha).1, (List.getElem?_eq_some_iff.1 hb).1⟩
  · cases h
/-- Of a rule: is all that it needs, of the first m, done? -/
def freeTo (l : List Ru) (done : Nat → Bool) (i m : Nat) : Bool := (List.range m).all fun k => done k || !needs l i k
theorem freeTo_zero (l : List Ru) (done : Nat → Bool) (i : Nat) : freeTo l done i 0 = true := rfl
theorem freeTo_succ (l : List Ru) (done : Nat → Bool) (i m : Nat) : freeTo l done i (m + 1) = (freeTo l done i m && (done m || !needs l i m)) := by
  unfold freeTo
  rw [List.range_succ, List.all_append]
  simp
/-- May it come next? -/
def may (l : List Ru) (some done : Nat → Bool) (i : Nat) : Bool := some i && !done i && freeTo l done i l.length
/-- The least of the first m that may come next. -/
def nextTo (l : List Ru) (some done : Nat → Bool) (m : Nat) : Option Nat := (List.range m).find? (may l some done)
theorem nextTo_zero (l : List Ru) (some done : Nat → Bool) : nextTo l some done 0 = none := rfl
theorem nextTo_succ (l : List Ru) (some done : Nat → Bool) (m : Nat) : nextTo l some done (m + 1) = (nextTo l some done m).or (if may l some done m = true then Option.some m else none) := by
  unfold nextTo
  rw [List.range_succ, List.find?_append]
  congr 1
  simp [List.find?_cons]
  split <;> simp_all
/-- Is one of the first m left? -/
def leftTo (some done : Nat → Bool) (m : Nat) : Bool := (List.range m).any fun i => some i && !done i
theorem leftTo_zero (some done : Nat → Bool) : leftTo some done 0 = false := rfl
theorem leftTo_succ (some done : Nat → Bool) (m : Nat) : leftTo some done (m + 1) = (leftTo some done m || (some m && !done m)) := by
  unfold leftTo
  rw [List.range_succ, List.any_append]
  simp
def isIn (o : List Nat) (i : Nat) : Bool := decide (i ∈ o)
/-- An order, behind what came already; none: there is none. -/
def orderF (l : List Ru) (some : Nat → Bool) : Nat → List Nat → Option (List Nat)
  | 0, _ => none
  | f + 1, o =>
    if leftTo some (isIn o) l.length = true then
      match nextTo l some (isIn o) l.length with
      | none => none
      | Option.some i => orderF l some f (o ++ [i])
    else Option.some o
def order (l : List Ru) (some : Nat → Bool) : Option (List Nat) := orderF l some (l.length + 1) []
theorem nextTo_some {l : List Ru} {some done : Nat → Bool} {m i : Nat} (h : nextTo l some done m = Option.some i) : i < m ∧ may l some done i = true := by
  unfold nextTo at h
  exact ⟨List.mem_range.1 (List.mem_of_find?_eq_some h), List.find?_some h⟩
end Ru
end Go.Proofs.YtmeplgihnlpjcaaGreatDoor
/- The document's answer's Index: the walk. -/
namespace Go.Proofs.YtmeplgihnlpjcaaGreatDoor
open Go.RowKit Go.Shelf Go.Lib

set_option maxRecDepth 100000 in
set_option maxHeartbeats 4000000 in
/-- Index of a text in texts: its first place. -/
theorem rIndex_calls {w : World} (v : Value) (l : List (List UInt8)) (x : List UInt8) (hrow : IRow w v l) (hl : l.length ≤ 1000000) :
    Calls Tryz.prog 27 #[v, .string (ba x)] w fun e w' => ∃ r : Int, e = .returned (.int .i64 r) ∧ w' = w ∧ ((r = -1 ∧ x ∉ l) ∨ ∃ k : Nat, r = k ∧ ∃ h : k < l.length, l[k] = x ∧ x ∉ l.take k) := by
  obtain ⟨p, cap, rfl, hin⟩ := hrow
  have HI := hid1 hin
  clear hin
  have zl : (l.length : Int) ≤ 1000000 := by omega
  go_enter Tryz.func27, Tryz.ntmps27
  go_wp2
  go_loopw [5] (fun i wr => ∃ k : Nat, k ≤ l.length ∧ i = .int .i64 k ∧ x ∉ l.take k ∧ w = wr) (fun i _ => l.length - (intOf i).toNat)
  case atStart => exact ⟨0, Nat.zero_le _, rfl, by simp, rfl⟩
  case round =>
    obtain ⟨k, hk, rfl, hz, rfl⟩ := hrel
    have HZ := hid1 hz
    clear hz
    have c0 : (0 : Int) ≤ (k : Int) := by omega
    by_cases hlt : k < l.length
    · have c1 : (k : Int) < (l.length : Int) := by omega
      obtain ⟨g', o, rfl, hg, hcur⟩ := HI.out (by intro e; rw [e] at hlt; simp at hlt)
      have hcell := hcur k hlt
      have HT : Hid (l[k] ≠ x → x ∉ l.take (k + 1)) := hid1 fun hne => by
        rw [List.take_succ_eq_append_getElem hlt]
        simp only [List.mem_append, List.mem_singleton, not_or]
        exact ⟨HZ.out, fun e => hne e.symm⟩
      have HP : Hid (l[k] = x → ∃ j : Nat, (k : Int) = j ∧ ∃ h : j < l.length, l[j] = x ∧ x ∉ l.take j) := hid1 fun he => ⟨k, rfl, hlt, he, HZ.out⟩
      clear hcur HI HZ
      generalize l[k] = y at *
      by_cases he : y = x
      · subst he
        have HPP := hid1 (HP.out rfl)
        clear HP HT
        go_wp2
        go_ret
        exact ⟨_, rfl, rfl, .inr HPP.out⟩
      · have e1 : (y == x) = false := by simpa using he
        have HTT := hid1 (HT.out he)
        clear HP HT
        go_wp2
        exact ⟨⟨k + 1, by omega, by go_num, HTT.out, trivial⟩, by simp [intOf]; omega⟩
    · have c1 : (l.length : Int) ≤ (k : Int) := by omega
      have HN : Hid (x ∉ l) := hid1 (by
        have := HZ.out
        rwa [List.take_of_length_le (by omega)] at this)
      clear HI HZ
      go_wp2
      go_ret
      exact ⟨_, rfl, rfl, .inl ⟨rfl, HN.out⟩⟩

theorem index_lt {l : List (List UInt8)} {k : Nat} (hk : k < l.length) {r : Int} (h : (r = -1 ∧ l[k] ∉ l) ∨ ∃ j : Nat, r = j ∧ ∃ h : j < l.length, l[j] = l[k] ∧ l[k] ∉ l.take j) : decide (r < (k : Int)) = decide (l[k] ∈ l.take k) := by
  rcases h with ⟨_, h⟩ | ⟨j, rfl, hj, he, hn⟩
  · exact absurd (List.getElem_mem hk) h
  · rw [decide_eq_decide]
    constructor
    · intro h
      rw [← he]
      have : j < (l.take k).length := by simp; omega
      have h2 := List.getElem_mem this
      rwa [List.getElem_take] at h2
    · intro h
      rcases Nat.lt_or_ge j k with h' | h'
      · omega
      · exfalso
        apply hn
        exact (List.take_sublist_take_left h').subset h

end Go.Proofs.YtmeplgihnlpjcaaGreatDoor
/- The document's answer's NeedsRule and AllOf: the walks. -/
namespace Go.Proofs.YtmeplgihnlpjcaaGreatDoor
open Go.RowKit Go.Shelf Go.Lib

set_option maxRecDepth 100000 in
set_option maxHeartbeats 4000000 in
theorem NeedsRule_calls {w : World} (v : Value) (l : List Ru) (hrow : RRow w v l) (hl : ∀ x ∈ l, x.ins.length ≤ 1000000) (i k : Nat) (hi : i < l.length) (hk : k < l.length) :
    Calls Tryz.prog 11 #[v, .int .i64 i, .int .i64 k] w fun e w' => e = .returned (.bool (Ru.needs l i k)) ∧ ∃ q, w' = w.drewN q := by
  obtain ⟨p, cap, rfl, hcap, hnn, hin⟩ := hrow
  obtain ⟨g, o, rfl, hg, hcur⟩ := hin (by intro e; rw [e] at hi; simp at hi)
  obtain ⟨-, -, -, u, d3, ux⟩ := hcur i hi
  obtain ⟨d0, -⟩ := hcur k hk
  have HX := hid1 fun W (hW : Below w.heap.size w W) => rIndex_calls u l[i].ins l[k].out (ux.below hW).irow (hl _ (List.getElem_mem hi))
  have HQ := hid1 (Ru.needs_eq hi hk)
  have ci : (i : Int) < (l.length : Int) := by omega
  have ck : (k : Int) < (l.length : Int) := by omega
  have c0 : (0 : Int) ≤ (i : Int) := by omega
  have c1 : (0 : Int) ≤ (k : Int) := by omega
  obtain ⟨p3, cap3, rfl, -⟩ := ux
  have HL : Hid (∀ r : Int, ((r = -1 ∧ l[k].out ∉ l[i].ins) ∨ ∃ j : Nat, r = j ∧ ∃ h : j < l[i].ins.length, l[i].ins[j] = l[k].out ∧ l[k].out ∉ l[i].ins.take j) → decide (0 ≤ r) = Ru.needs l i k) := hid1 fun r h => by
    rw [HQ.out, decide_eq_decide]
    rcases h with ⟨rfl, h⟩ | ⟨j, rfl, hj, he, _⟩
    · exact ⟨fun h => by omega, fun h' => absurd h' h⟩
    · exact ⟨fun _ => by rw [← he]; exact List.getElem_mem hj, fun _ => by omega⟩
  clear hin hcur hl hnn HQ
  generalize Ru.needs l i k = d at *
  generalize l[k].out = y at *
  go_enter Tryz.func11, Tryz.ntmps11
  go_wp2
  go_region_held3 (fun w' => w'.cell? ⟨g, o + i * 4 + 3, none⟩ = some (.slice p3 l[i].ins.length cap3) ∧ w'.cell? ⟨g, o + k * 4, none⟩ = some (.string (ba y))) (first | go_keep | fail)
    (first | (go_at_call 27; refine (HX.out _ (by exact (Below.refl _ w).drew)).mono ?_; rintro e w5 ⟨r, rfl, rfl, hix⟩; have hdd := HL.out r hix) | fail)
  all_goals
    go_wp2
    go_ret
    exact ⟨rfl, 1, rfl⟩
end Go.Proofs.YtmeplgihnlpjcaaGreatDoor
