/- The errors by their numbers, for package tree. -/
import Derived.Test.YtigcogfjclohjaaGreatDoorCodedE
import Derived.Test.YtigcogfjclohjaaGreatDoorM2
namespace Go.Proofs.YtigcogfjclohjaaGreatDoor
open Go.RowKit Go.Shelf Go.Lib

theorem E12.terr {w : World} {es : Nat → Addr} (h : E12 w es) : TErr w (erOf es) :=
  ⟨h.c0, h.c1, h.c2, h.c3, h.c5, h.c6, h.c7, fun _ => ⟨_, _, rfl⟩, rfl⟩

end Go.Proofs.YtigcogfjclohjaaGreatDoor
