/- A tree in memory: what a pointer to package tree's Tree leads to; New, above, all, Get. -/
import Derived.Test.YtigcogfjclohjaaGreatDoorPCheck
import Derived.Test.YtigcogfjclohjaaGreatDoorTreeSpec
import Derived.Test.YtigcogfjclohjaaGreatDoorShelf3
import Derived.Test.YtigcogfjclohjaaGreatDoorKeysIter
import Derived.Maps.OwnSet
import Derived.Maps.RangeWalk
import Derived.Sort.KeysCollected
namespace Go.Proofs.YtigcogfjclohjaaGreatDoor
open Go.RowKit Go.Shelf Go.Lib Go.Maps
open Tf (Fs)

/-- How a file's bytes read. -/
def fileElem : Value → Option (DataW Unit × List MemPlace)
  | .agg ⟨[.string s]⟩ => some (.lit (.string s.data.toList), [])
  | _ => none

theorem fileElem_mk (l : List UInt8) : fileElem (.agg #[.string (ba l)]) = some (.lit (.string l), []) := rfl

theorem fileElem_inv {v : Value} {z : DataW Unit × List MemPlace} (h : fileElem v = some z) : ∃ l : List UInt8, v = .agg #[.string (ba l)] ∧ z = (.lit (.string l), []) := by
  unfold fileElem at h
  split at h
  · cases h
    rename_i s
    exact ⟨s.data.toList, rfl, rfl⟩
  · cases h

theorem klaw : Keyed Tryz.prog 9 := string_keyed Tryz.underlying9
theorem kkey (p : List UInt8) (hp : p.length ≤ 1000000) : keyOf Tryz.prog 9 (.string (ba p)) = some (.string p) :=
  WideMaps.keyOf_string_mk Tryz.underlying9 (s := ba p) (by rw [ba_size]; unfold maxLen; omega)

abbrev Ptr (tb : Nat) : Value := .pointer (some ⟨tb, 0, none⟩)

/-- The map that a tree's one field holds. -/
def MapAt (B : Nat) (w : World) (tb : Nat) (o : Option Nat) (fs : Fs) : Prop :=
  match o with
  | none => fs = []
  | some bm => B ≤ bm ∧ bm ≠ tb ∧ w.ownsMap Tryz.prog 9 fileElem bm fs.length (Tf.datum fs)

/-- A tree: its block, and the map that it holds, lie from B on. -/
structure TreeAt (B : Nat) (w : World) (tb : Nat) (fs : Fs) (o : Option Nat) : Prop where
  low : B ≤ tb
  cell : w.cell? ⟨tb, 0, none⟩ = some (.map o)
  free : w.frozen? ⟨tb, 0, none⟩ = false
  isMap : MapAt B w tb o fs

theorem TreeAt.lt {B : Nat} {w : World} {tb : Nat} {fs : Fs} {o : Option Nat} (h : TreeAt B w tb fs o) : tb < w.heap.size := lt_of_cell h.cell

theorem ownsMap_below {w w' : World} {b n : Nat} {D : DataW Unit} {R : Value → Option (DataW Unit × List MemPlace)} (h : w.ownsMap Tryz.prog 9 R b n D) (hb : Below w.heap.size w w') : w'.ownsMap Tryz.prog 9 R b n D := by
  have hlt := h.lt
  obtain ⟨es, clock, h1, F, hs, hD⟩ := h
  exact ⟨es, clock, (hb.block b hlt).trans h1, F, hs, hD⟩

theorem TreeAt.below {B : Nat} {w w' : World} {tb : Nat} {fs : Fs} {o : Option Nat} (h : TreeAt B w tb fs o) (hb : Below w.heap.size w w') : TreeAt B w' tb fs o := by
  refine ⟨h.low, (hb.cell (p := ⟨tb, 0, none⟩) h.lt).trans h.cell, (hb.frozen (p := ⟨tb, 0, none⟩) h.lt).trans h.free, ?_⟩
  cases o with
  | none => exact h.isMap
  | some bm => exact ⟨h.isMap.1, h.isMap.2.1, ownsMap_below h.isMap.2.2 hb⟩

theorem TreeAt.mono {B B' : Nat} {w : World} {tb : Nat} {fs : Fs} {o : Option Nat} (h : TreeAt B w tb fs o) (hB : B' ≤ B) : TreeAt B' w tb fs o := by
  refine ⟨Nat.le_trans hB h.low, h.cell, h.free, ?_⟩
  cases o with
  | none => exact h.isMap
  | some bm => exact ⟨Nat.le_trans hB h.isMap.1, h.isMap.2⟩

theorem ownsMap_tight {w : World} {b n : Nat} {fs : Fs} {R : Value → Option (DataW Unit × List MemPlace)} (h : w.ownsMap Tryz.prog 9 R b n (Tf.datum fs)) : w.ownsMap Tryz.prog 9 R b fs.length (Tf.datum fs) := by
  obtain ⟨es, clock, h1, F, _, hD⟩ := h
  refine ⟨es, clock, h1, F, ?_, hD⟩
  have := congrArg Maps.size hD
  rw [Tf.datum_size] at this
  rw [this]
  simp [Maps.size, length_sorted]

theorem New_calls (w : World) : Calls Tryz.prog 15 #[] w fun e w' => e = .returned (Ptr w.heap.size) ∧ TreeAt w.heap.size w' w.heap.size [] none ∧ Below w.heap.size w w' := by
  go_enter Tryz.func15, Tryz.ntmps15
  go_wp2
  go_ret
  refine ⟨rfl, ⟨Nat.le_refl _, ?_, ?_, rfl⟩, (Below.refl _ w).alloc (Nat.le_refl _) _⟩
  · exact (Boxed.new w _ _).cell
  · exact (Boxed.new w _ _).frozen

theorem above_calls (a p : List UInt8) (ha : a.length ≤ 1000000) (w : World) : Calls Tryz.prog 63 #[.string (ba a), .string (ba p)] w fun e w' => e = .returned (.bool (Tf.above a p)) ∧ w' = w := by
  have H : Hid (∀ W, Calls Tryz.prog 89 #[.string (ba p), .string (ba (a ++ [47]))] W fun e w' => e = .returned (.bool (Tf.above a p)) ∧ w' = W) := fun W => Tryz.strings_HasPrefix (ba p) (ba (a ++ [47])) W
  have z : ((ba a).size : Int) ≤ 1000000 := by rw [ba_size]; omega
  go_enter Tryz.func63, Tryz.ntmps63
  go_wp2_with fail
  rw [show ba a ++ { data := #[47] } = ba (a ++ [47]) by rw [show (ByteArray.mk #[47]) = ba [47] from rfl, ba_append]]
  refine (H.out _).mono ?_
  rintro e w' ⟨rfl, rfl⟩
  go_wp2
  go_ret
  exact ⟨rfl, rfl⟩

theorem all_calls (tb : Nat) (o : Option Nat) (w : World) (hc : w.cell? ⟨tb, 0, none⟩ = some (.map o)) : Calls Tryz.prog 44 #[Ptr tb] w fun e w' => e = .returned (.map o) ∧ w' = w := by
  go_enter Tryz.func44, Tryz.ntmps44
  go_wp2
  go_ret
  exact ⟨rfl, rfl⟩
end Go.Proofs.YtigcogfjclohjaaGreatDoor
