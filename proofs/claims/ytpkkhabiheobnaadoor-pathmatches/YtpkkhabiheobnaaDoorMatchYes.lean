/- What the document's answer's MatchOf answers of a pattern and a path. -/
import Derived.Test.YtpkkhabiheobnaaDoorMatchTab
import Derived.Test.YtpkkhabiheobnaaDoorMatchOf
namespace Go.Proofs.YtpkkhabiheobnaaDoor
open Go.RowKit Go.Shelf Go.Lib

theorem MatchOf_yes (p s : List UInt8) (hp : p.length ≤ 1000000) (hs : s.length ≤ 1000000) (h1 : okR true p = true) (h2 : okR false s = true) (w : World) :
    Calls Tryd.prog 22 #[.string (ba p), .string (ba s)] w fun e w' => e = .returned (.tuple #[.bool (fitL 20 (Kf.parts p) (Kf.parts s)), .int .i64 0]) ∧ Below w.heap.size w w' := by
  obtain ⟨l1, n1⟩ := okR_parts' h1
  obtain ⟨l2, n2⟩ := okR_parts' h2
  refine MatchOf_walk (ba p) (ba s) (Kf.parts p) (Kf.parts s) (List.length_pos_iff.2 (Kf.parts_ne p)) l1 (List.length_pos_iff.2 (Kf.parts_ne s)) l2 (fun i k => fitL 20 ((Kf.parts p).take i) ((Kf.parts s).take k)) _
    (show fitL 20 ((Kf.parts p).take (Kf.parts p).length) ((Kf.parts s).take (Kf.parts s).length) = _ by rw [List.take_length, List.take_length]) ?_ (partsOf_yes true p hp h1) (partsOf_yes false s hs h2) ?_ w
  · refine table_of twoS fitN _ _ _ _ (fun i h => ?_) (fun i k h h' => ?_) _ (fun i k _ _ => fitL_Wd 20 _ _ (by simp; omega))
    · simp [twoS, h]
    · simp [h, h']
  · exact fun i k hi hk W => starOf_calls _ _ (Nat.le_trans (name_len (n1 _ (List.getElem_mem hi))) (by omega)) (Nat.le_trans (name_len (n2 _ (List.getElem_mem hk))) (by omega)) W
end Go.Proofs.YtpkkhabiheobnaaDoor
