/- PathMatches, for all texts: Match tells what the document's answer tells. -/
import Derived.Test.YtpkkhabiheobnaaDoorMatchesW
import Derived.Test.YtpkkhabiheobnaaDoorMatch2
import Derived.Test.YtpkkhabiheobnaaDoorFitAll
import Derived.Test.YtpkkhabiheobnaaDoorMatchYes
namespace Go.Proofs.YtpkkhabiheobnaaDoor
open Go.RowKit Go.Shelf Go.Lib

theorem PathMatches_calls (a b : ByteArray) (m : Int) (es : Nat → Addr) (w : World) (hE : E12 w es) (hm : w.cell? ⟨13, 0, none⟩ = some (.int .i64 m)) :
    Calls Tryd.prog 6 #[.string a, .string b] w fun e w' => e = .returned (.bool true) ∧ Below w.heap.size w w' := by
  rcases Nat.lt_or_ge 100 a.size with h | h
  · exact Matches_long a b (.inl h) es w hE
  rcases Nat.lt_or_ge 100 b.size with h' | h'
  · exact Matches_long a b (.inr h') es w hE
  have e1 : a = ba a.data.toList := ba_eq rfl
  have e2 : b = ba b.data.toList := ba_eq rfl
  have l1 : a.data.toList.length ≤ 100 := by rw [e1, ba_size] at h; exact h
  have l2 : b.data.toList.length ≤ 100 := by rw [e2, ba_size] at h'; exact h'
  rw [e1, e2]
  generalize a.data.toList = p at *
  generalize b.data.toList = s at *
  have p1 : p.length ≤ 1000000 := by omega
  have s1 : s.length ≤ 1000000 := by omega
  have bad : ∀ W, Below w.heap.size w W → Calls Tryd.prog 10 #[.iface 54 (.pointer (some (es 3))), .int .i64 4] W fun e w' => e = .returned (.bool true) ∧ Below W.heap.size W w' := fun W hW => coded_es 3 (by omega) es W (hE.below hW)
  cases h1 : okR true p with
  | false =>
    exact Matches_walk p s l1 l2 false _ 4 es w hE (fun W hW => Match_noPat p s p1 h1 W _ _ (hE.below hW).c3) (fun W => MatchOf_noPat p s p1 s1 h1 W) bad
  | true =>
    cases h2 : okR false s with
    | false =>
      exact Matches_walk p s l1 l2 false _ 4 es w hE (fun W hW => Match_noPath p s p1 s1 h1 h2 W _ _ (hE.below hW).c3) (fun W => MatchOf_noPath p s p1 s1 h1 h2 W) bad
    | true =>
      exact Matches_walk p s l1 l2 _ .nilIface 0 es w hE (fun W hW => Match_yes (fitOk 20) p s p1 s1 h1 h2 m W (cell_below' hm hW)) (fun W => MatchOf_yes p s p1 s1 h1 h2 W) (fun W _ => coded_none W)
end Go.Proofs.YtpkkhabiheobnaaDoor
