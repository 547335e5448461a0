/- Package tree's tree and the document's answer's, side by side in one memory: what each act leaves. -/
import Derived.Test.YtigcogfjclohjaaGreatDoorMB
import Derived.Test.YtigcogfjclohjaaGreatDoorTreeGlob
import Derived.Test.YtigcogfjclohjaaGreatDoorCoded
namespace Go.Proofs.YtigcogfjclohjaaGreatDoor
open Go.RowKit Go.Shelf Go.Lib Go.Maps
open Tf (Fs)

/-- Both trees, with the same files, apart in memory. -/
structure Both (B : Nat) (w : World) (T M : Nat) (fs : Fs) (o : Option Nat) (v : Value) : Prop where
  t : TreeAt B w T fs o
  m : RTreeAt B w M fs v
  well : Tf.Well pathB fs
  tm : T ≠ M
  om : o ≠ some M
  vt : v.ownBlock ≠ some T
  ov : ∀ j, o = some j → v.ownBlock ≠ some j

theorem TreeAt.map_lt {B : Nat} {w : World} {tb : Nat} {fs : Fs} {o : Option Nat} (h : TreeAt B w tb fs o) {j : Nat} (e : o = some j) : j < w.heap.size := by
  subst e
  exact h.isMap.2.2.lt

theorem RTreeAt.row_lt {B : Nat} {w : World} {tb : Nat} {fs : Fs} {v : Value} (h : RTreeAt B w tb fs v) {j : Nat} (e : v.ownBlock = some j) : j < w.heap.size := by
  rcases h.row.2 with ⟨rfl, _⟩ | ⟨g, cap, cur, rfl, _, hg, _⟩
  · cases e
  · cases e
    exact (Array.getElem?_eq_some_iff.1 hg).1

theorem Both.below {B : Nat} {w w' : World} {T M : Nat} {fs : Fs} {o : Option Nat} {v : Value} (h : Both B w T M fs o v) (hb : Below w.heap.size w w') : Both B w' T M fs o v :=
  ⟨h.t.below hb, h.m.below hb, h.well, h.tm, h.om, h.vt, h.ov⟩

/-- Half way: the first tree has been written, the other one not yet. -/
structure Half (B : Nat) (w w1 : World) (T M : Nat) (fs fs' : Fs) (o o' : Option Nat) (v : Value) : Prop where
  t : TreeAt B w1 T fs' o'
  m : RTreeAt B w1 M fs v
  on : OldNew w o o'
  size : w.heap.size ≤ w1.heap.size

theorem Both.half {B : Nat} {w w1 : World} {T M : Nat} {fs fs' : Fs} {o o' : Option Nat} {v : Value} (h : Both B w T M fs o v) (ht : TreeAt B w1 T fs' o') (hon : OldNew w o o') (hk : Kept (tS T o) w w1) : Half B w w1 T M fs fs' o o' v :=
  ⟨ht, h.m.kept hk (fun e => e.elim (fun e => h.tm e.symm) h.om) (fun j e hs => hs.elim (fun e2 => h.vt (e2 ▸ e)) (fun e2 => h.ov j e2 e)), hon, hk.size⟩

theorem Half.both {B : Nat} {w w1 w2 : World} {T M : Nat} {fs fs' : Fs} {o o' : Option Nat} {v v' : Value} (hh : Half B w w1 T M fs fs' o o' v) (h : Both B w T M fs o v) (hm : RTreeAt B w2 M fs' v') (hon : RowON w1 v v') (hk : Kept (mS M v) w1 w2) (hw : Tf.Well pathB fs') : Both B w2 T M fs' o' v' := by
  have hM := h.m.lt
  have hT := h.t.lt
  have hs := hh.size
  have om' : o' ≠ some M := by
    rcases hh.on with rfl | ⟨j, rfl, hj⟩
    · exact h.om
    · intro e
      have := Option.some.inj e
      omega
  have ov1 : ∀ j, o' = some j → v.ownBlock ≠ some j := by
    intro j e e2
    rcases hh.on with rfl | ⟨i, rfl, hi⟩
    · exact h.ov j e e2
    · have := Option.some.inj e
      have := h.m.row_lt e2
      omega
  refine ⟨hh.t.kept hk (fun e => e.elim h.tm (fun e => h.vt e)) (fun j e hs => hs.elim (fun e2 => om' (e2 ▸ e)) (fun e2 => ov1 j e e2)), hm, hw, h.tm, om', ?_, ?_⟩
  · rcases hon with e | hn
    · rw [e]; exact h.vt
    · intro e
      have := hn T e
      omega
  · intro j e
    rcases hon with e2 | hn
    · rw [e2]; exact ov1 j e
    · intro e2
      have := hn j e2
      have := hh.t.map_lt e
      omega

end Go.Proofs.YtigcogfjclohjaaGreatDoor
