/- What package path's fitParts answers: the words for its walks. -/
import Derived.Test.YtpkkhabiheobnaaDoorFitName
import Derived.Deep.RegionWith
namespace Go.Proofs.YtpkkhabiheobnaaDoor
open Go.RowKit Go.Shelf Go.Lib

/-- A slice value that reads as texts. -/
def Row (w : World) (v : Value) (l : List (List UInt8)) : Prop :=
  ∃ g o cap, v = .slice (some ⟨g, o, none⟩) l.length cap ∧ l.length ≤ cap ∧ g < w.heap.size ∧ ∀ (j : Nat) (h : j < l.length), w.cell? ⟨g, o + j, none⟩ = some (.string (ba l[j]))

theorem Row.below {w w' : World} {v : Value} {l : List (List UInt8)} (h : Row w v l) (hb : Below w.heap.size w w') : Row w' v l := by
  obtain ⟨g, o, cap, h1, h2, h3, h4⟩ := h
  exact ⟨g, o, cap, h1, h2, Nat.lt_of_lt_of_le h3 hb.size, fun j hj => (hb.cell (p := ⟨g, o + j, none⟩) h3).trans (h4 j hj)⟩

/-- What fitParts answers, at such and such fuel. -/
def FitOk (f : Nat) : Prop := ∀ (pat names : List (List UInt8)) (pv nv : Value) (m : Int) (w : World), pat.length + names.length < f →
  (∀ x ∈ pat, x.length ≤ 1000000) → (∀ x ∈ names, x.length ≤ 1000000) → pat.length ≤ 1000 → names.length ≤ 1000 → w.cell? ⟨13, 0, none⟩ = some (.int .i64 m) → Row w pv pat → Row w nv names →
  Calls Tryd.prog 33 #[pv, nv] w fun e w' => e = .returned (.bool (fitL f pat names)) ∧ Below w.heap.size w w'
end Go.Proofs.YtpkkhabiheobnaaDoor
