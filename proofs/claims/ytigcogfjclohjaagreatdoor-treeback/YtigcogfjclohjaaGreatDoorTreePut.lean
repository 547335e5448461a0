/- Walks of package tree's mayPut and Put. -/
import Derived.Test.YtigcogfjclohjaaGreatDoorTreeGet
namespace Go.Proofs.YtigcogfjclohjaaGreatDoor
open Go.RowKit Go.Shelf Go.Lib Go.Maps
open Tf (Fs)

/-- The errors that package tree hands back: the variables' cells. -/
structure TErr (w : World) (es : Nat → Value) : Prop where
  text : w.cell? ⟨0, 0, none⟩ = some (es 1)
  bound : w.cell? ⟨4, 0, none⟩ = some (es 2)
  shape : w.cell? ⟨1, 0, none⟩ = some (es 3)
  name : w.cell? ⟨5, 0, none⟩ = some (es 4)
  none6 : w.cell? ⟨2, 0, none⟩ = some (es 6)
  exist : w.cell? ⟨7, 0, none⟩ = some (es 7)
  full : w.cell? ⟨8, 0, none⟩ = some (es 8)
  faces : ∀ k, ∃ t u, es (k + 1) = .iface t u
  nil : es 0 = .nilIface

theorem TErr.below {w w' : World} {es : Nat → Value} (h : TErr w es) (hb : Below w.heap.size w w') : TErr w' es :=
  ⟨cell_below' h.text hb, cell_below' h.bound hb, cell_below' h.shape hb, cell_below' h.name hb, cell_below' h.none6 hb, cell_below' h.exist hb, cell_below' h.full hb, h.faces, h.nil⟩

/-- A key that a step hands over is a file's path. -/
theorem invK (key : Value) (kl : Lit) (h : keyOf Tryz.prog 9 key = some kl) : ∃ x, key = encStr x := by
  obtain ⟨x, hx, _⟩ := Maps.keyOf_str Tryz.underlying9 h
  exact ⟨x, hx⟩
theorem invV (v : Value) (y : DataW Unit × List MemPlace) (h : fileElem v = some y) : ∃ c : List UInt8, v = fileV c := by
  obtain ⟨l, rfl, _⟩ := fileElem_inv h
  exact ⟨l, rfl⟩

theorem hasP_of_at {fs : Fs} {x : List UInt8} {y : DataW Unit} (h : ∀ zd, (Tf.datum fs).atKey (.string x) zd = y) : Tf.hasP fs x = true := by
  rw [← Tf.datum_has]
  exact Maps.has_true_of_atKey h

/-- No file that has come stands above the path, or below it. -/
def Clear (fs : Fs) (p : List UInt8) (left : Lit → Bool) : Prop := ∀ f ∈ fs, left (.string f.1) = false → (Tf.above f.1 p || Tf.above p f.1) = false

theorem Clear.start (fs : Fs) (p : List UInt8) : Clear fs p (Maps.has (Tf.datum fs)) := by
  intro f hf h
  rw [Tf.datum_has] at h
  have : Tf.hasP fs f.1 = true := List.any_eq_true.2 ⟨f, hf, by simp⟩
  rw [this] at h
  cases h

theorem Clear.step {fs : Fs} {p x : List UInt8} {left : Lit → Bool} (h : Clear fs p left) (hx : (Tf.above x p || Tf.above p x) = false) : Clear fs p (fun z => left z && !z.sameKey (.string x)) := by
  intro f hf hl
  by_cases e : f.1 = x
  · rw [e]; exact hx
  · refine h f hf ?_
    have : (Lit.string f.1).sameKey (.string x) = false := by simp [Lit.sameKey, e]
    simpa [this] using hl

theorem Clear.done {fs : Fs} {p : List UInt8} {left : Lit → Bool} (h : Clear fs p left) (hl : ∀ kl, left kl = false) : Tf.clash fs p = false := by
  unfold Tf.clash
  rw [List.any_eq_false]
  intro f hf
  have := h f hf (hl _)
  simpa using this

theorem clash_of {fs : Fs} {p x : List UInt8} (hx : Tf.hasP fs x = true) (h : (Tf.above x p || Tf.above p x) = true) : Tf.clash fs p = true := by
  obtain ⟨f, hf, e⟩ := List.any_eq_true.1 hx
  obtain rfl : f.1 = x := by simpa using e
  exact List.any_eq_true.2 ⟨f, hf, h⟩

/-- The two ways ahead of the look at the files. -/
theorem mayPut_name {B : Nat} {w : World} {tb : Nat} {fs : Fs} {o : Option Nat} {es : Nat → Value} (_h : TreeAt B w tb fs o) (hE : TErr w es) (p b : List UInt8) (hp : p.length ≤ 1000000) (hn : pathB p = false) :
    Calls Tryz.prog 45 #[Ptr tb, .string (ba p), .string (ba b)] w fun e w' => e = .returned (es 4) ∧ Below w.heap.size w w' := by
  obtain ⟨t, u, e4⟩ := hE.faces 3
  have hn4 := hE.name
  rw [e4] at hn4 ⊢
  have HK : Hid (Calls Tryz.prog 62 #[.string (ba p)] w fun e w' => e = .returned (.iface t u) ∧ Below w.heap.size w w') := Check_no p hp hn w t u hn4
  clear hn hE
  go_enter Tryz.func45, Tryz.ntmps45
  go_wp2_with fail
  refine HK.out.mono ?_
  rintro e w1 ⟨rfl, g1⟩
  go_wp2
  go_ret
  exact ⟨rfl, g1⟩

theorem mayPut_bound {B : Nat} {w : World} {tb : Nat} {fs : Fs} {o : Option Nat} {es : Nat → Value} (_h : TreeAt B w tb fs o) (hE : TErr w es) (p b : List UInt8) (hp : p.length ≤ 1000000) (hn : pathB p = true) (hb : 2000 < b.length) :
    Calls Tryz.prog 45 #[Ptr tb, .string (ba p), .string (ba b)] w fun e w' => e = .returned (es 2) ∧ Below w.heap.size w w' := by
  obtain ⟨t, u, e4⟩ := hE.faces 1
  have hn4 := hE.bound
  rw [e4] at hn4 ⊢
  have HK : Hid (Calls Tryz.prog 62 #[.string (ba p)] w fun e w' => e = .returned .nilIface ∧ Below w.heap.size w w') := Check_yes p hp hn w
  have z : (2000 : Int) < (b.length : Int) := by omega
  clear hn hE hb
  go_enter Tryz.func45, Tryz.ntmps45
  go_wp2_with fail
  refine HK.out.mono ?_
  rintro e w1 ⟨rfl, g1⟩
  have hc := cell_below' hn4 g1
  go_wp2
  go_ret
  exact ⟨rfl, g1⟩

set_option maxRecDepth 100000 in
theorem mayPut_there {B : Nat} {w : World} {tb : Nat} {fs : Fs} {o : Option Nat} (h : TreeAt B w tb fs o) (p b : List UInt8) (hp : p.length ≤ 1000000) (hn : pathB p = true) (hb : b.length ≤ 2000) (ht : Tf.hasP fs p = true) :
    Calls Tryz.prog 45 #[Ptr tb, .string (ba p), .string (ba b)] w fun e w' => e = .returned .nilIface ∧ Below w.heap.size w w' := by
  have HK : Hid (Calls Tryz.prog 62 #[.string (ba p)] w fun e w' => e = .returned .nilIface ∧ Below w.heap.size w w') := Check_yes p hp hn w
  have z : (b.length : Int) ≤ 2000 := by omega
  have HL : Hid (∀ w', Below w.heap.size w w' → (Instr.lookup 86 (.map o) (.string (ba p)) true).run Tryz.prog w' = .ok (.tuple #[fileV ((Tf.get fs p).getD []), .bool true]) w') := fun w' g => by
    have := look_tree (h.below g) p hp
    rwa [ht] at this
  have hc := h.cell
  generalize (Tf.get fs p).getD [] = x at *
  clear hn hb ht h
  go_enter Tryz.func45, Tryz.ntmps45
  go_wp2_with fail
  refine HK.out.mono ?_
  rintro e w1 ⟨rfl, g1⟩
  have hl := HL.out w1 g1
  have hc1 := cell_below' hc g1
  go_wp2
  go_ret
  exact ⟨rfl, g1.alloc g1.size _⟩
end Go.Proofs.YtigcogfjclohjaaGreatDoor
