/- coded at a sentinel and its number, and at nil and 0; the errors of package tree by their numbers. -/
import Derived.Test.YthokjegephlpmaaDoorCodeFault
namespace Go.Proofs.YthokjegephlpmaaDoor
open Go.RowKit

theorem codeOf_es {w : World} {es : Nat → Addr} (h : E12 w es) (k : Nat) (hk : k < 12) : codeOf es (es k) = (k : Int) + 1 :=
  codeOf_some hk rfl (fun j hj => h.inj j k (by omega) hk (by omega))

/-- coded at a sentinel and its number: true. -/
theorem coded_es (k : Nat) (hk : k < 12) (es : Nat → Addr) (w : World) (hE : E12 w es) :
    Calls Tryd.prog 17 #[.iface 130 (.pointer (some (es k))), .int .i64 ((k : Int) + 1)] w fun e w' => e = .returned (.bool true) ∧ Below w.heap.size w w' := by
  obtain ⟨c, t, hr⟩ := hE.rows k hk
  have := coded_ptr ((k : Int) + 1) (es k) es c t w hE hr
  rwa [codeOf_es hE k hk, show decide ((k : Int) + 1 = (k : Int) + 1) = true from decide_eq_true rfl] at this
theorem coded_none (w : World) : Calls Tryd.prog 17 #[.nilIface, .int .i64 0] w fun e w' => e = .returned (.bool true) ∧ Below w.heap.size w w' :=
  (coded_nil 0 w).mono fun _ _ ⟨he, hw⟩ => ⟨he, hw ▸ Below.refl _ _⟩

/-- The errors, by their numbers. -/
def erOf (es : Nat → Addr) : Nat → Value
  | 0 => .nilIface
  | k + 1 => .iface 130 (.pointer (some (es k)))

theorem coded_er (c : Nat) (hc : c = 0 ∨ ∃ k, k < 12 ∧ c = k + 1) (es : Nat → Addr) (w : World) (hE : E12 w es) :
    Calls Tryd.prog 17 #[erOf es c, .int .i64 (c : Int)] w fun e w' => e = .returned (.bool true) ∧ Below w.heap.size w w' := by
  rcases hc with rfl | ⟨k, hk, rfl⟩
  · exact coded_none w
  · exact coded_es k hk es w hE
end Go.Proofs.YthokjegephlpmaaDoor
