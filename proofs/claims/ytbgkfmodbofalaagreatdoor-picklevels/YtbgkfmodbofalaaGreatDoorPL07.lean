import Derived.Test.YtbgkfmodbofalaaGreatDoorPL04
import Derived.Test.YtbgkfmodbofalaaGreatDoorPL06
import Derived.Shelf.Strings.BuilderK
import Derived.Lib.SmallJoins
import Derived.Lib.ItoaLen
import Derived.Sort.Grow
import Derived.Test.YtbgkfmodbofalaaGreatDoorPL03
import Derived.Test.YtbgkfmodbofalaaGreatDoorPL02
import Derived.Lib.ItoaNum
namespace Go.Proofs.YtbgkfmodbofalaaGreatDoor
open Go.RowKit Go.Shelf Go.Lib Go.Maps
open Go.Sort (grow)
def TRow (w : World) (v : Value) (l : List (List UInt8)) : Prop :=
  ∃ p cap, v = .slice p l.length cap ∧ l.length ≤ cap ∧ (l ≠ [] → ∃ g cur, p = some ⟨g, 0, none⟩ ∧ w.heap[g]? = some (.cells cur 9 (0, 0)) ∧ ∀ j (hj : j < l.length), cur[j]? = some (.string (ba l[j])))
theorem TRow.of_owns {w : World} {base : Nat} {v : Value} {l : List (List UInt8)} {n : Nat} (h : w.ownsRow base 9 1 v n (l.map encStr)) : TRow w v l := by
  have hn : n = l.length := by have := h.1; simp at this; omega
  subst hn
  rcases h.2 with ⟨rfl, hn⟩ | ⟨g, cap, cur, rfl, _, hb, h1, _, _, h4⟩
  · obtain rfl : l = [] := by simpa using hn
    exact ⟨none, 0, rfl, Nat.le_refl _, fun h => absurd rfl h⟩
  · refine ⟨_, cap, rfl, h1, fun _ => ⟨g, cur, rfl, hb, fun j hj => ?_⟩⟩
    have := congrArg (fun x => x[j]?) h4
    simp only [Nat.mul_one, List.getElem?_take, hj, if_true, List.getElem?_map, List.getElem?_eq_getElem hj, Option.map_some, Array.getElem?_toList] at this
    exact this
theorem TRow.below {w w' : World} {v : Value} {l : List (List UInt8)} (h : TRow w v l) (hb : Below w.heap.size w w') : TRow w' v l := by
  obtain ⟨p, cap, e, h0, h1⟩ := h
  refine ⟨p, cap, e, h0, fun hl => ?_⟩
  obtain ⟨g, cur, e, hg, hc⟩ := h1 hl
  exact ⟨g, cur, e, (hb.block g (Array.getElem?_eq_some_iff.1 hg).1).trans hg, hc⟩
theorem cell_of_row {w : World} {g j : Nat} {cur : Array Value} {t : TypeId} {fz : Nat × Nat} {x : Value} (hg : w.heap[g]? = some (.cells cur t fz)) (hc : cur[j]? = some x) : w.cell? ⟨g, j, none⟩ = some x := by
  simp [World.cell?, hg, hc]
theorem below_grow (w : World) (k : Nat) (os : Array Obj) : Below w.heap.size w (grow (w.drewN k) os) :=
  ⟨rfl, rfl, rfl, by simp [grow], fun i hi => by simp [grow, Array.getElem?_append_left hi]⟩
abbrev Pow (w : World) : Prop := Lib.TabIs Tryz.prog w "internal/strconv.uint64pow10" .u64 Lib.pow10Tab
theorem pow_below {w w' : World} (h : Pow w) (hb : Below w.heap.size w w') : Pow w' := Go.Joins.tab_stays (g := 13) (by kernel_rfl) h hb (Nat.le_refl _)
theorem digits_len (n : Nat) (h : n ≤ 100000) : (Lib.decDigits n).length ≤ 21 := by
  have := Lib.itoa_length_le (n : Int) (by omega) (by omega)
  rwa [Lib.itoa_nonneg] at this
end Go.Proofs.YtbgkfmodbofalaaGreatDoor
namespace Go.Proofs.YtbgkfmodbofalaaGreatDoor
open Go.RowKit Go.Shelf Go.Lib
def IRow (w : World) (v : Value) (l : List (List UInt8)) : Prop :=
  ∃ p cap, v = .slice p l.length cap ∧ (l ≠ [] → ∃ g o, p = some ⟨g, o, none⟩ ∧ g < w.heap.size ∧ ∀ j (hj : j < l.length), w.cell? ⟨g, o + j, none⟩ = some (.string (ba l[j])))
theorem IRow.below {w w' : World} {v : Value} {l : List (List UInt8)} (h : IRow w v l) (hb : Below w.heap.size w w') : IRow w' v l := by
  obtain ⟨p, cap, e, h1⟩ := h
  refine ⟨p, cap, e, fun hl => ?_⟩
  obtain ⟨g, o, e, hg, hc⟩ := h1 hl
  exact ⟨g, o, e, Nat.lt_of_lt_of_le hg hb.size, fun j hj => (hb.cell (p := ⟨g, o + j, none⟩) hg).trans (hc j hj)⟩
def XRow (w : World) (v : Value) (l : List (List UInt8)) : Prop :=
  ∃ p cap, v = .slice p l.length cap ∧ l.length ≤ cap ∧ (p = none → cap = 0) ∧ (l ≠ [] → ∃ g o, p = some ⟨g, o, none⟩ ∧ g < w.heap.size ∧ ∀ j (hj : j < l.length), w.cell? ⟨g, o + j, none⟩ = some (.string (ba l[j])))
theorem XRow.below {w w' : World} {v : Value} {l : List (List UInt8)} (h : XRow w v l) (hb : Below w.heap.size w w') : XRow w' v l := by
  obtain ⟨p, cap, e, h0, hn, h1⟩ := h
  refine ⟨p, cap, e, h0, hn, fun hl => ?_⟩
  obtain ⟨g, o, e, hg, hc⟩ := h1 hl
  exact ⟨g, o, e, Nat.lt_of_lt_of_le hg hb.size, fun j hj => (hb.cell (p := ⟨g, o + j, none⟩) hg).trans (hc j hj)⟩
theorem XRow.irow {w : World} {v : Value} {l : List (List UInt8)} (h : XRow w v l) : IRow w v l := by
  obtain ⟨p, cap, e, _, _, h1⟩ := h
  exact ⟨p, cap, e, h1⟩
theorem XRow.shape {w : World} {v : Value} {l : List (List UInt8)} (h : XRow w v l) : v = .slice none 0 0 ∨ ∃ a n cap, v = .slice (some a) n cap := by
  obtain ⟨p, cap, rfl, h0, hn, h1⟩ := h
  cases p with
  | none =>
    have hc := hn rfl
    subst hc
    obtain rfl : l = [] := List.length_eq_zero_iff.1 (by omega)
    exact .inl rfl
  | some a => exact .inr ⟨a, _, _, rfl⟩
theorem XRow.nil (w : World) : XRow w (.slice none 0 0) [] := ⟨none, 0, rfl, Nat.le_refl _, fun _ => rfl, fun h => absurd rfl h⟩
theorem XRow.of_owns {w : World} {base : Nat} {v : Value} {l : List (List UInt8)} {n : Nat} (h : w.ownsRow base 9 1 v n (l.map sv)) : XRow w v l := by
  have hn : n = l.length := by have := h.1; simp at this; omega
  subst hn
  rcases h.2 with ⟨rfl, hn⟩ | ⟨g, cap, cur, rfl, _, hb, h1, _, _, h4⟩
  · obtain rfl : l = [] := by simpa using hn
    exact XRow.nil w
  · refine ⟨_, cap, rfl, h1, fun h => (by cases h), fun _ => ⟨g, 0, rfl, (Array.getElem?_eq_some_iff.1 hb).1, fun j hj => ?_⟩⟩
    have := congrArg (fun x => x[j]?) h4
    simp only [Nat.mul_one, List.getElem?_take, hj, if_true, List.getElem?_map, List.getElem?_eq_getElem hj, Option.map_some, Array.getElem?_toList] at this
    rw [Nat.zero_add]
    exact cell_of_row hb this
theorem one_sv {l : List (List UInt8)} : ∀ u ∈ l.map sv, u.oneCell' = true := fun u hu => by
  obtain ⟨z, _, rfl⟩ := List.mem_map.1 hu
  rfl
theorem add_at2 (g k j : Nat) : (⟨g, k, none⟩ : Addr).add j = ⟨g, k + j, none⟩ := by
  by_cases h0 : j = 0 <;> simp [Addr.add, h0]
theorem lay_b1 {w w1 : World} (n1 : w.ownsRow w.heap.size 9 1 (.slice none 0 0) 0 []) (hg : w.grownBy w1 (Value.slice none 0 0).ownBlock) : Below w.heap.size w w1 := below_more (Below.refl _ w) (Nat.le_refl _) n1 hg
end Go.Proofs.YtbgkfmodbofalaaGreatDoor
namespace Go.Proofs.YtbgkfmodbofalaaGreatDoor
open Go.RowKit Go.Shelf Go.Lib
structure Ru where
  out : List UInt8
  kind : List UInt8
  word : List UInt8
  ins : List (List UInt8)
namespace Ru
def firstFrom (c : Nat → Nat) : Nat → Nat → Option Nat
  | _, 0 => none
  | k, n + 1 => if c k = 0 then firstFrom c (k + 1) n else some k
def first (c : Nat → Nat) (n : Nat) : Option Nat := firstFrom c 0 n
def firstC (c : Nat → Nat) (n : Nat) : Nat := match first c n with | some k => c k | none => 0
theorem firstFrom_none {c : Nat → Nat} : ∀ {n k : Nat}, (∀ j, k ≤ j → j < k + n → c j = 0) → firstFrom c k n = none
  | 0, _, _ => rfl
  | n + 1, k, h => by
    unfold firstFrom
    rw [if_pos (h k (Nat.le_refl _) (by omega))]
    exact firstFrom_none fun j h1 h2 => h j (by omega) (by omega)
theorem firstFrom_some {c : Nat → Nat} {m : Nat} : ∀ {n k : Nat}, k ≤ m → m < k + n → c m ≠ 0 → (∀ j, k ≤ j → j < m → c j = 0) → firstFrom c k n = some m
  | 0, _, h1, h2, _, _ => by omega
  | n + 1, k, h1, h2, hc, h => by
    unfold firstFrom
    by_cases e : k = m
    · subst e
      rw [if_neg hc]
    · rw [if_pos (h k (Nat.le_refl _) (by omega))]
      exact firstFrom_some (by omega) (by omega) hc fun j h1 h2 => h j (by omega) h2
theorem first_none {c : Nat → Nat} {n : Nat} (h : ∀ j, j < n → c j = 0) : first c n = none := firstFrom_none fun j _ h2 => h j (by omega)
theorem first_some {c : Nat → Nat} {n m : Nat} (hm : m < n) (hc : c m ≠ 0) (h : ∀ j, j < m → c j = 0) : first c n = some m := firstFrom_some (Nat.zero_le _) (by omega) hc fun j _ h2 => h j h2
theorem firstFrom_none_zero {c : Nat → Nat} : ∀ {n k : Nat}, firstFrom c k n = none → ∀ j, k ≤ j → j < k + n → c j = 0
  | 0, _, _, j, h1, h2 => by omega
  | n + 1, k, h, j, h1, h2 => by
    unfold firstFrom at h
    split at h
    · rename_i h0
      by_cases e : j = k
      · rw [e]; exact h0
      · exact firstFrom_none_zero h j (by omega) (by omega)
    · cases h
theorem firstFrom_some_ne {c : Nat → Nat} {m : Nat} : ∀ {n k : Nat}, firstFrom c k n = some m → c m ≠ 0
  | 0, _, h => by cases h
  | n + 1, k, h => by
    unfold firstFrom at h
    split at h
    · exact firstFrom_some_ne h
    · rename_i h0
      rw [← Option.some.inj h]
      exact h0
theorem first_none_zero {c : Nat → Nat} {n : Nat} (h : first c n = none) (j : Nat) (hj : j < n) : c j = 0 := firstFrom_none_zero h j (Nat.zero_le _) (by omega)
theorem first_some_ne {c : Nat → Nat} {n m : Nat} (h : first c n = some m) : c m ≠ 0 := firstFrom_some_ne h
theorem firstC_none {c : Nat → Nat} {n : Nat} (h : ∀ j, j < n → c j = 0) : firstC c n = 0 := by unfold firstC; rw [first_none h]
theorem firstC_some {c : Nat → Nat} {n m : Nat} (hm : m < n) (hc : c m ≠ 0) (h : ∀ j, j < m → c j = 0) : firstC c n = c m := by unfold firstC; rw [first_some hm hc h]
theorem firstC_zero {c : Nat → Nat} {n : Nat} (h : firstC c n = 0) (j : Nat) (hj : j < n) : c j = 0 := by
  unfold firstC at h
  cases hf : first c n with
  | none => exact first_none_zero hf j hj
  | some k =>
    rw [hf] at h
    exact absurd h (first_some_ne hf)
theorem firstC_const {c : Nat → Nat} {n d : Nat} (h : ∀ j, c j = 0 ∨ c j = d) : firstC c n = 0 ∨ firstC c n = d := by
  unfold firstC
  split
  · exact h _
  · exact .inl rfl
structure Small (r : Ru) : Prop where
  out : r.out.length ≤ 100
  kind : r.kind.length ≤ 60
  word : r.word.length ≤ 150
  many : r.ins.length ≤ 12
  ins : ∀ x ∈ r.ins, x.length ≤ 300
end Ru
abbrev ruV (r : Ru) (v : Value) : Value := .agg #[.string (ba r.out), .string (ba r.kind), .string (ba r.word), v]
def RuAt (w : World) (g o : Nat) (r : Ru) : Prop :=
  w.cell? ⟨g, o, none⟩ = some (.string (ba r.out)) ∧ w.cell? ⟨g, o + 1, none⟩ = some (.string (ba r.kind)) ∧ w.cell? ⟨g, o + 2, none⟩ = some (.string (ba r.word)) ∧ ∃ v, w.cell? ⟨g, o + 3, none⟩ = some v ∧ XRow w v r.ins
theorem RuAt.below {w w' : World} {g o : Nat} {r : Ru} (h : RuAt w g o r) (hb : Below w.heap.size w w') : RuAt w' g o r := by
  obtain ⟨h0, h1, h2, v, h3, h4⟩ := h
  exact ⟨cell_below' h0 hb, cell_below' h1 hb, cell_below' h2 hb, v, cell_below' h3 hb, h4.below hb⟩
def RRow (w : World) (v : Value) (l : List Ru) : Prop :=
  ∃ p cap, v = .slice p l.length cap ∧ l.length ≤ cap ∧ (p = none → cap = 0) ∧ (l ≠ [] → ∃ g o, p = some ⟨g, o, none⟩ ∧ g < w.heap.size ∧ ∀ j (hj : j < l.length), RuAt w g (o + j * 4) l[j])
theorem RRow.below {w w' : World} {v : Value} {l : List Ru} (h : RRow w v l) (hb : Below w.heap.size w w') : RRow w' v l := by
  obtain ⟨p, cap, e, h0, hn, h1⟩ := h
  refine ⟨p, cap, e, h0, hn, fun hl => ?_⟩
  obtain ⟨g, o, e, hg, hc⟩ := h1 hl
  exact ⟨g, o, e, Nat.lt_of_lt_of_le hg hb.size, fun j hj => (hc j hj).below hb⟩
theorem RRow.nil (w : World) : RRow w (.slice none 0 0) [] := ⟨none, 0, rfl, Nat.le_refl _, fun _ => rfl, fun h => absurd rfl h⟩
end Go.Proofs.YtbgkfmodbofalaaGreatDoor
namespace Go.Proofs.YtbgkfmodbofalaaGreatDoor
open Go.RowKit Go.Shelf Go.Lib
namespace Ru
def needs (l : List Ru) (i k : Nat) : Bool :=
  match l[i]?, l[k]? with
  | some a, some b => decide (b.out ∈ a.ins)
  | _, _ => false
theorem needs_eq {l : List Ru} {i k : Nat} (hi : i < l.length) (hk : k < l.length) : needs l i k = decide (l[k].out ∈ l[i].ins) := by
  unfold needs
  rw [List.getElem?_eq_getElem hi, List.getElem?_eq_getElem hk]
theorem needs_lt {l : List Ru} {i k : Nat} (h : needs l i k = true) : i < l.length ∧ k < l.length := by
  unfold needs at h
  split at h
  · rename_i a b ha hb
    exact ⟨(List.getElem?_eq_some_iff.1 ha).1, (List.getElem?_eq_some_iff.1 hb).1⟩
  · cases h
def freeTo (l : List Ru) (done : Nat → Bool) (i m : Nat) : Bool := (List.range m).all fun k => done k || !needs l i k
theorem freeTo_succ (l : List Ru) (done : Nat → Bool) (i m : Nat) : freeTo l done i (m + 1) = (freeTo l done i m && (done m || !needs l i m)) := by
  unfold freeTo
  rw [List.range_succ, List.all_append]
  simp
def may (l : List Ru) (some done : Nat → Bool) (i : Nat) : Bool := some i && !done i && freeTo l done i l.length
def nextTo (l : List Ru) (some done : Nat → Bool) (m : Nat) : Option Nat := (List.range m).find? (may l some done)
theorem nextTo_succ (l : List Ru) (some done : Nat → Bool) (m : Nat) : nextTo l some done (m + 1) = (nextTo l some done m).or (if may l some done m = true then Option.some m else none) := by
  unfold nextTo
  rw [List.range_succ, List.find?_append]
  congr 1
  simp [List.find?_cons]
  split <;> simp_all
def leftTo (some done : Nat → Bool) (m : Nat) : Bool := (List.range m).any fun i => some i && !done i
theorem leftTo_succ (some done : Nat → Bool) (m : Nat) : leftTo some done (m + 1) = (leftTo some done m || (some m && !done m)) := by
  unfold leftTo
  rw [List.range_succ, List.any_append]
  simp
def isIn (o : List Nat) (i : Nat) : Bool := decide (i ∈ o)
def orderF (l : List Ru) (some : Nat → Bool) : Nat → List Nat → Option (List Nat)
  | 0, _ => none
  | f + 1, o =>
    if leftTo some (isIn o) l.length = true then
      match nextTo l some (isIn o) l.length with
      | none => none
      | Option.some i => orderF l some f (o ++ [i])
    else Option.some o
def order (l : List Ru) (some : Nat → Bool) : Option (List Nat) := orderF l some (l.length + 1) []
theorem nextTo_some {l : List Ru} {some done : Nat → Bool} {m i : Nat} (h : nextTo l some done m = Option.some i) : i < m ∧ may l some done i = true := by
  unfold nextTo at h
  exact ⟨List.mem_range.1 (List.mem_of_find?_eq_some h), List.find?_some h⟩
end Ru
end Go.Proofs.YtbgkfmodbofalaaGreatDoor
namespace Go.Proofs.YtbgkfmodbofalaaGreatDoor
open Go.RowKit Go.Shelf Go.Lib
namespace Ru
def base (l : List Ru) (outs : List (List UInt8)) (k : Nat) : Bool :=
  match l[k]? with
  | some r => decide (r.out ∈ outs)
  | none => false
theorem base_eq {l : List Ru} {outs : List (List UInt8)} {k : Nat} (h : k < l.length) : base l outs k = decide (l[k].out ∈ outs) := by
  unfold base
  rw [List.getElem?_eq_getElem h]
structure Needed (l : List Ru) (outs : List (List UInt8)) (f : Nat → Bool) : Prop where
  start : ∀ k, base l outs k = true → f k = true
  closed : ∀ i k, f i = true → needs l i k = true → f k = true
  least : ∀ P : Nat → Prop, (∀ k, base l outs k = true → P k) → (∀ i k, P i → needs l i k = true → P k) → ∀ k, k < l.length → f k = true → P k
theorem Needed.unique {l : List Ru} {outs : List (List UInt8)} {f g : Nat → Bool} (hf : Needed l outs f) (hg : Needed l outs g) (k : Nat) (hk : k < l.length) : f k = g k := by
  rw [Bool.eq_iff_iff]
  exact ⟨hf.least (fun k => g k = true) hg.start hg.closed k hk, hg.least (fun k => f k = true) hf.start hf.closed k hk⟩
def cnt (f : Nat → Bool) : Nat → Nat
  | 0 => 0
  | n + 1 => cnt f n + (if f n = true then 1 else 0)
theorem cnt_le (f : Nat → Bool) : ∀ n, cnt f n ≤ n
  | 0 => Nat.le_refl _
  | n + 1 => by
    have := cnt_le f n
    unfold cnt
    split <;> omega
theorem cnt_mono {f g : Nat → Bool} : ∀ {n : Nat}, (∀ k, k < n → f k = true → g k = true) → cnt f n ≤ cnt g n
  | 0, _ => Nat.le_refl _
  | n + 1, h => by
    have ih := cnt_mono (n := n) fun k hk => h k (by omega)
    unfold cnt
    by_cases hf : f n = true
    · rw [if_pos hf, if_pos (h n (by omega) hf)]; omega
    · rw [if_neg hf]
      split <;> omega
theorem cnt_lt {f g : Nat → Bool} {m : Nat} : ∀ {n : Nat}, (∀ k, k < n → f k = true → g k = true) → m < n → g m = true → f m = false → cnt f n + 1 ≤ cnt g n
  | 0, _, hm, _, _ => by omega
  | n + 1, h, hm, hg, hf => by
    unfold cnt
    by_cases e : m = n
    · subst e
      have := cnt_mono (n := m) fun k hk => h k (by omega)
      rw [if_pos hg, if_neg (by rw [hf]; simp)]
      omega
    · have ih := cnt_lt (n := n) (fun k hk => h k (by omega)) (by omega) hg hf
      by_cases hf' : f n = true
      · rw [if_pos hf', if_pos (h n (by omega) hf')]; omega
      · rw [if_neg hf']
        split <;> omega
theorem cnt_full {f : Nat → Bool} : ∀ {n : Nat}, n ≤ cnt f n → ∀ k, k < n → f k = true
  | 0, _, k, hk => by omega
  | n + 1, h, k, hk => by
    have h1 := cnt_le f n
    unfold cnt at h
    split at h
    · rename_i hf
      by_cases e : k = n
      · rw [e]; exact hf
      · exact cnt_full (n := n) (by omega) k (by omega)
    · omega
structure Pass (l : List Ru) (outs : List (List UInt8)) (t : Nat) (f : Nat → Bool) : Prop where
  start : ∀ k, k < l.length → base l outs k = true → f k = true
  sound : ∀ P : Nat → Prop, (∀ k, base l outs k = true → P k) → (∀ i k, P i → needs l i k = true → P k) → ∀ k, k < l.length → f k = true → P k
  more : (∀ i k, i < l.length → f i = true → needs l i k = true → f k = true) ∨ t ≤ cnt f l.length
theorem base_lt {l : List Ru} {outs : List (List UInt8)} {k : Nat} (h : base l outs k = true) : k < l.length := by
  unfold base at h
  split at h
  · rename_i r hr
    exact (List.getElem?_eq_some_iff.1 hr).1
  · cases h
theorem Pass.first (l : List Ru) (outs : List (List UInt8)) : Pass l outs 0 (base l outs) :=
  ⟨fun _ _ h => h, fun _ h _ k _ hk => h k hk, .inr (Nat.zero_le _)⟩
theorem Pass.next {l : List Ru} {outs : List (List UInt8)} {t : Nat} {S f : Nat → Bool} (h : Pass l outs t S) (hS : ∀ k, k < l.length → S k = true → f k = true)
    (hsound : ∀ P : Nat → Prop, (∀ k, base l outs k = true → P k) → (∀ i k, P i → needs l i k = true → P k) → ∀ k, k < l.length → f k = true → P k)
    (hstep : ∀ i k, i < l.length → S i = true → needs l i k = true → f k = true) : Pass l outs (t + 1) f := by
  refine ⟨fun k hk hb => hS k hk (h.start k hk hb), hsound, ?_⟩
  by_cases hc : ∀ i k, i < l.length → S i = true → needs l i k = true → S k = true
  · left
    have hfS : ∀ k, k < l.length → f k = true → S k = true := fun k hk hf =>
      hsound (fun k => S k = true) (fun k hb => h.start k (base_lt hb) hb) (fun i k hi hn => hc i k (needs_lt hn).1 hi hn) k hk hf
    exact fun i k hi hf hn => hS k (needs_lt hn).2 (hc i k hi (hfS i hi hf) hn)
  · right
    have ht := h.more.resolve_left hc
    simp only [Classical.not_forall] at hc
    obtain ⟨i, k, hi, hSi, hn, hSk⟩ := hc
    have := cnt_lt hS (needs_lt hn).2 (hstep i k hi hSi hn) (by simpa using hSk)
    omega
theorem Pass.done {l : List Ru} {outs : List (List UInt8)} {f : Nat → Bool} (h : Pass l outs l.length f) : Needed l outs (fun k => decide (k < l.length) && f k) := by
  have hc : ∀ i k, i < l.length → f i = true → needs l i k = true → f k = true := by
    rcases h.more with h1 | h1
    · exact h1
    · exact fun i k _ _ hn => cnt_full h1 k (needs_lt hn).2
  refine ⟨fun k hb => ?_, fun i k hf hn => ?_, fun P h1 h2 k hk hf => ?_⟩
  · have := base_lt hb
    simp [this, h.start k this hb]
  · simp only [Bool.and_eq_true, decide_eq_true_eq] at hf ⊢
    exact ⟨(needs_lt hn).2, hc i k hf.1 hf.2 hn⟩
  · simp only [Bool.and_eq_true, decide_eq_true_eq] at hf
    exact h.sound P h1 h2 k hk hf.2
end Ru
end Go.Proofs.YtbgkfmodbofalaaGreatDoor
namespace Go.Proofs.YtbgkfmodbofalaaGreatDoor
namespace Cf
abbrev En : Type := List UInt8 × List UInt8
abbrev Ens : Type := List En
def keys (l : Ens) : List (List UInt8) := l.map (·.1)
def rm (l : Ens) (k : List UInt8) : Ens := l.filter fun e => !(e.1 == k)
def cut (many : Nat) (l : Ens) : Ens := if many < l.length then l.drop 1 else l
def put (many : Nat) (l : Ens) (k b : List UInt8) : Ens := cut many (rm l k ++ [(k, b)])
def find (l : Ens) (k : List UInt8) : Option (List UInt8) := (l.find? fun e => e.1 == k).map (·.2)
def get (many : Nat) (l : Ens) (k : List UInt8) : Ens := match find l k with | some b => put many l k b | none => l
theorem mem_rm {l : Ens} {k : List UInt8} {e : En} : e ∈ rm l k ↔ e ∈ l ∧ e.1 ≠ k := by simp [rm]
theorem rm_le (l : Ens) (k : List UInt8) : (rm l k).length ≤ l.length := List.length_filter_le _ _
theorem rm_sub (l : Ens) (k : List UInt8) : (rm l k).Sublist l := List.filter_sublist
theorem rm_none {l : Ens} {k : List UInt8} (h : k ∉ keys l) : rm l k = l := by
  unfold rm
  rw [List.filter_eq_self]
  intro e he
  have : e.1 ≠ k := fun x => h (List.mem_map.2 ⟨e, he, x⟩)
  simpa using this
theorem rm_ge {l : Ens} (h : (keys l).Nodup) (k : List UInt8) : l.length ≤ (rm l k).length + 1 := by
  induction l with
  | nil => simp
  | cons x t ih =>
    obtain ⟨h1, h2⟩ := List.nodup_cons.1 h
    by_cases e : x.1 = k
    · have : rm (x :: t) k = rm t k := by unfold rm; rw [List.filter_cons_of_neg (by simp [e])]
      rw [this, rm_none (e ▸ h1)]
      simp
    · have : rm (x :: t) k = x :: rm t k := by unfold rm; rw [List.filter_cons_of_pos (by simp [e])]
      rw [this]
      have := ih h2
      simp
      omega
theorem keys_sub {a b : Ens} (h : a.Sublist b) : (keys a).Sublist (keys b) := h.map _
theorem rm_once {l : Ens} (h : (keys l).Nodup) (k : List UInt8) : (keys (rm l k)).Nodup := (keys_sub (rm_sub l k)).nodup h
theorem rm_key (l : Ens) (k : List UInt8) : k ∉ keys (rm l k) := by
  intro h
  obtain ⟨e, he, hk⟩ := List.mem_map.1 h
  exact (mem_rm.1 he).2 hk
structure Ok (many : Nat) (l : Ens) : Prop where
  few : l.length ≤ many
  once : (keys l).Nodup
theorem Ok.nil (many : Nat) : Ok many [] := ⟨Nat.zero_le _, List.nodup_nil⟩
theorem put_once {l : Ens} (h : (keys l).Nodup) (k b : List UInt8) : (keys (rm l k ++ [(k, b)])).Nodup := by
  unfold keys
  rw [List.map_append, List.nodup_append]
  refine ⟨rm_once h k, by simp, fun x hx y hy => ?_⟩
  simp at hy
  subst hy
  rintro rfl
  exact rm_key l x hx
theorem Ok.put {many : Nat} {l : Ens} (h : Ok many l) (k b : List UInt8) : Ok many (Cf.put many l k b) := by
  have hl : (rm l k ++ [(k, b)]).length ≤ many + 1 := by
    rw [List.length_append, List.length_singleton]
    have := rm_le l k
    have := h.few
    omega
  have ho := put_once h.once k b
  unfold Cf.put cut
  split
  · refine ⟨by rw [List.length_drop]; omega, (keys_sub (List.drop_sublist 1 _)).nodup ho⟩
  · exact ⟨by omega, ho⟩
theorem Ok.get {many : Nat} {l : Ens} (h : Ok many l) (k : List UInt8) : Ok many (Cf.get many l k) := by
  unfold Cf.get
  split
  · exact h.put _ _
  · exact h
theorem find_some {l : Ens} {k b : List UInt8} (h : find l k = some b) : (k, b) ∈ l := by
  unfold find at h
  cases hf : l.find? fun e => e.1 == k with
  | none => rw [hf] at h; cases h
  | some e =>
    rw [hf] at h
    have h1 := List.find?_some hf
    have h2 := List.mem_of_find?_eq_some hf
    have e1 : e.1 = k := by simpa using h1
    have e2 : e.2 = b := by simpa using h
    rw [← e1, ← e2]
    exact h2
theorem find_none {l : Ens} {k : List UInt8} (h : find l k = none) : k ∉ keys l := by
  unfold find at h
  intro hk
  obtain ⟨e, he, e1⟩ := List.mem_map.1 hk
  have h0 : (l.find? fun e => e.1 == k) = none := by
    cases hf : l.find? fun e => e.1 == k with
    | none => rfl
    | some x => rw [hf] at h; cases h
  have := List.find?_eq_none.1 h0 e he
  simp at this
  exact this e1
theorem find_mem {l : Ens} (ho : (keys l).Nodup) {k b : List UInt8} (h : (k, b) ∈ l) : find l k = some b := by
  cases hf : find l k with
  | none => exact absurd (List.mem_map.2 ⟨_, h, rfl⟩) (find_none hf)
  | some c =>
    have h2 := find_some hf
    obtain ⟨i, hi, ei⟩ := List.getElem_of_mem h
    obtain ⟨j, hj, ej⟩ := List.getElem_of_mem h2
    have hp := List.pairwise_iff_getElem.1 ho
    have hki : ∀ m (hm : m < l.length), (keys l)[m]'(by simpa [keys] using hm) = l[m].1 := fun m hm => by simp [keys]
    rcases Nat.lt_trichotomy i j with h3 | h3 | h3
    · exact absurd (by rw [hki i hi, hki j hj, ei, ej]) (hp i j (by simpa [keys] using hi) (by simpa [keys] using hj) h3)
    · subst h3
      rw [ei] at ej
      rw [(Prod.mk.inj ej).2]
    · exact absurd (by rw [hki i hi, hki j hj, ei, ej]) (hp j i (by simpa [keys] using hj) (by simpa [keys] using hi) h3)
theorem get_hit {many : Nat} {l : Ens} (h : Ok many l) {k b : List UInt8} (hf : find l k = some b) : Cf.get many l k = rm l k ++ [(k, b)] ∧ (Cf.get many l k).Perm l := by
  have hm := find_some hf
  have hl : (rm l k ++ [(k, b)]).Perm l := by
    refine (List.perm_ext_iff_of_nodup ?_ ?_).2 fun e => ?_
    · have := put_once h.once k b
      exact List.Pairwise.of_map (S := fun a b => a ≠ b) (f := fun e : En => e.1) (fun a b hab e => hab (by rw [e])) this
    · exact List.Pairwise.of_map (S := fun a b => a ≠ b) (f := fun e : En => e.1) (fun a b hab e => hab (by rw [e])) h.once
    · rw [List.mem_append, List.mem_singleton, mem_rm]
      constructor
      · rintro (h1 | rfl)
        · exact h1.1
        · exact hm
      · intro he
        by_cases e1 : e.1 = k
        · right
          have h1 : find l k = some e.2 := find_mem h.once (by rw [← e1]; exact he)
          rw [hf] at h1
          rw [Option.some.inj h1, ← e1]
        · exact .inl ⟨he, e1⟩
  have hlen := hl.length_eq
  have hg : Cf.get many l k = rm l k ++ [(k, b)] := by
    unfold Cf.get Cf.put cut
    rw [hf]
    simp only
    rw [if_neg (by rw [hlen]; have := h.few; omega)]
  exact ⟨hg, hg ▸ hl⟩
def recR : Ens → Ens
  | [] => []
  | x :: t => x :: rm (recR t) x.1
def kept (many : Nat) (A : Ens) : Ens := ((recR A.reverse).take many).reverse
theorem nodup_len {α : Type} [DecidableEq α] : ∀ {a b : List α}, a.Nodup → (∀ x ∈ a, x ∈ b) → a.length ≤ b.length
  | [], _, _, _ => Nat.zero_le _
  | x :: r, b, hd, hs => by
    obtain ⟨hx, hr⟩ := List.nodup_cons.1 hd
    have hxb : x ∈ b := hs x (by simp)
    have := nodup_len (a := r) (b := b.erase x) hr fun y hy => by
      have hne : y ≠ x := fun e => hx (e ▸ hy)
      exact (List.mem_erase_of_ne hne).2 (hs y (List.mem_cons_of_mem _ hy))
    rw [List.length_erase_of_mem hxb] at this
    have hp := List.length_pos_of_mem hxb
    simp
    omega
end Cf
end Go.Proofs.YtbgkfmodbofalaaGreatDoor
namespace Go.Proofs.YtbgkfmodbofalaaGreatDoor
open Go.Lib
theorem digits_step (n : Nat) : Lib.decDigits n = if n < 10 then [UInt8.ofNat (48 + n)] else Lib.decDigits (n / 10) ++ [UInt8.ofNat (48 + n % 10)] := by
  by_cases h : n < 10
  · rw [if_pos h, Lib.decDigits_one h]
  · rw [if_neg h, Lib.decDigits, dif_neg h]
theorem digits_range (n : Nat) : ∀ b ∈ Lib.decDigits n, 48 ≤ b.toNat ∧ b.toNat ≤ 57 := by
  induction n using Nat.strongRecOn with
  | _ n ih =>
    intro b hb
    rw [digits_step] at hb
    split at hb
    · rw [List.mem_singleton.1 hb]
      simp [UInt8.toNat_ofNat]
      omega
    · rename_i h
      rcases List.mem_append.1 hb with h1 | h1
      · exact ih (n / 10) (by omega) b h1
      · rw [List.mem_singleton.1 h1]
        simp [UInt8.toNat_ofNat]
        omega
theorem digit_inj {a b : Nat} (ha : a < 10) (hb : b < 10) (h : UInt8.ofNat (48 + a) = UInt8.ofNat (48 + b)) : a = b := by
  have := congrArg UInt8.toNat h
  simp [UInt8.toNat_ofNat] at this
  omega
theorem kdigits_ne (n : Nat) : Lib.decDigits n ≠ [] := by
  rw [digits_step]
  split <;> simp
theorem digits_inj : ∀ (a b : Nat), Lib.decDigits a = Lib.decDigits b → a = b := by
  intro a
  induction a using Nat.strongRecOn with
  | _ a ih =>
    intro b h
    rw [digits_step a, digits_step b] at h
    by_cases ha : a < 10
    · by_cases hb : b < 10
      · rw [if_pos ha, if_pos hb] at h
        exact digit_inj ha hb (by simpa using h)
      · rw [if_pos ha, if_neg hb] at h
        have hl := congrArg List.length h
        have := List.length_pos_iff.2 (kdigits_ne (b / 10))
        simp at hl
        exact absurd hl (kdigits_ne _)
    · by_cases hb : b < 10
      · rw [if_neg ha, if_pos hb] at h
        have hl := congrArg List.length h
        simp at hl
        exact absurd hl (kdigits_ne _)
      · rw [if_neg ha, if_neg hb] at h
        have hl : (Lib.decDigits (a / 10)).length = (Lib.decDigits (b / 10)).length := by
          have := congrArg List.length h
          simpa using this
        obtain ⟨h1, h2⟩ := List.append_inj h hl
        have e1 := ih (a / 10) (by omega) (b / 10) h1
        have e2 := digit_inj (a := a % 10) (b := b % 10) (by omega) (by omega) (by simpa using h2)
        omega
def Kp.piece (s : List UInt8) : List UInt8 := Lib.decDigits s.length ++ 58 :: s
def Kp.key (kind word : List UInt8) (ins : List (List UInt8)) : List UInt8 := Kp.piece kind ++ Kp.piece word ++ ins.flatMap Kp.piece
theorem colon_split : ∀ (a b r s : List UInt8), (58 : UInt8) ∉ a → (58 : UInt8) ∉ b → a ++ 58 :: r = b ++ 58 :: s → a = b ∧ r = s
  | [], [], r, s, _, _, h => ⟨rfl, by simpa using h⟩
  | [], y :: b, r, s, _, hb, h => by
    simp at h
    exact absurd (h.1 ▸ List.mem_cons_self) hb
  | x :: a, [], r, s, ha, _, h => by
    simp at h
    exact absurd (h.1 ▸ List.mem_cons_self) ha
  | x :: a, y :: b, r, s, ha, hb, h => by
    simp only [List.cons_append, List.cons.injEq] at h
    obtain ⟨e1, e2⟩ := colon_split a b r s (fun hm => ha (List.mem_cons_of_mem _ hm)) (fun hm => hb (List.mem_cons_of_mem _ hm)) h.2
    exact ⟨by rw [h.1, e1], e2⟩
theorem no58 (n : Nat) : (58 : UInt8) ∉ Lib.decDigits n := fun h => by
  have := digits_range n 58 h
  simp at this
theorem Kp.piece_inj {s s' r r' : List UInt8} (h : Kp.piece s ++ r = Kp.piece s' ++ r') : s = s' ∧ r = r' := by
  unfold Kp.piece at h
  rw [List.append_assoc, List.append_assoc, List.cons_append, List.cons_append] at h
  obtain ⟨h1, h2⟩ := colon_split _ _ _ _ (no58 _) (no58 _) h
  exact List.append_inj h2 (digits_inj _ _ h1)
theorem Kp.piece_ne (s : List UInt8) : Kp.piece s ≠ [] := by
  unfold Kp.piece
  simp
theorem Kp.flat_inj : ∀ (a b : List (List UInt8)), a.flatMap Kp.piece = b.flatMap Kp.piece → a = b
  | [], [], _ => rfl
  | [], y :: b, h => by
    rw [List.flatMap_nil, List.flatMap_cons] at h
    exact absurd (List.append_eq_nil_iff.1 h.symm).1 (Kp.piece_ne y)
  | x :: a, [], h => by
    rw [List.flatMap_nil, List.flatMap_cons] at h
    exact absurd (List.append_eq_nil_iff.1 h).1 (Kp.piece_ne x)
  | x :: a, y :: b, h => by
    rw [List.flatMap_cons, List.flatMap_cons] at h
    obtain ⟨h1, h2⟩ := Kp.piece_inj h
    rw [h1, Kp.flat_inj a b h2]
theorem Kp.key_inj {k w k' w' : List UInt8} {l l' : List (List UInt8)} : Kp.key k w l = Kp.key k' w' l' ↔ k = k' ∧ w = w' ∧ l = l' := by
  constructor
  · intro h
    unfold Kp.key at h
    rw [List.append_assoc, List.append_assoc] at h
    obtain ⟨h1, h2⟩ := Kp.piece_inj h
    obtain ⟨h3, h4⟩ := Kp.piece_inj h2
    exact ⟨h1, h3, Kp.flat_inj _ _ h4⟩
  · rintro ⟨rfl, rfl, rfl⟩
    rfl
end Go.Proofs.YtbgkfmodbofalaaGreatDoor
