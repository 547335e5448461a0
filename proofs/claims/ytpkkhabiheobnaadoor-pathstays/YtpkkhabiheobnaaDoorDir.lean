/- Walks of package path's Join, split, Dir and Last. -/
import Derived.Test.YtpkkhabiheobnaaDoorClean
namespace Go.Proofs.YtpkkhabiheobnaaDoor
open Go.RowKit Go.Shelf Go.Lib


set_option maxHeartbeats 1000000 in
theorem Join_calls (a b : List UInt8) (ha : a.length ≤ 1000000) (hb : b.length ≤ 1000000) (w : World) {aB aS aN aE : Addr} (hE : Errs w aB aS aN aE) :
    Calls Tryd.prog 15 #[.string (ba a), .string (ba b)] w fun e w' => e = .returned (cleanV aB aS aN aE (clean (a ++ 47 :: b))) ∧ Below w.heap.size w w' := by
  go_enter Tryd.func15, Tryd.ntmps15
  go_wp2_with fail
  rw [show ba a ++ { data := #[47] } ++ ba b = ba (a ++ 47 :: b) by rw [show (ByteArray.mk #[47]) = ba [47] from rfl, ba_append, ba_append]; simp]
  refine (Clean_calls (a ++ 47 :: b) _ hE).mono ?_
  rintro e w' ⟨rfl, hb'⟩
  have hform : ∃ x y, cleanV aB aS aN aE (clean (a ++ 47 :: b)) = .tuple #[x, y] := by
    cases clean (a ++ 47 :: b) <;> exact ⟨_, _, rfl⟩
  obtain ⟨x, y, hxy⟩ := hform
  rw [hxy]
  have HX : Hid (cleanV aB aS aN aE (clean (a ++ 47 :: b)) = .tuple #[x, y]) := hxy
  clear hxy
  go_wp2
  go_ret2
  exact ⟨ret_eq HX.out.symm, hb'⟩

/-- All but the last part, and the last part, of a text. -/
def splitL (s : List UInt8) : List UInt8 × List UInt8 :=
  if Lib.lastIndexByte (ba s) 47 < 0 then ([], s) else (s.take (Lib.lastIndexByte (ba s) 47).toNat, s.drop ((Lib.lastIndexByte (ba s) 47).toNat + 1))

theorem splitL_back (s : List UInt8) (h : (splitL s).1 ≠ []) : (splitL s).1 ++ 47 :: (splitL s).2 = s := by
  unfold splitL at h ⊢
  rcases Lib.lastIndexByte_spec (ba s) 47 with ⟨e, _⟩ | ⟨i, hi, e, hc, _⟩
  · rw [e] at h; simp at h
  · rw [e]
    have hi' : i < s.length := by rw [ba_size] at hi; exact hi
    rw [if_neg (by omega)]
    simp only [Int.toNat_natCast]
    have hs : s[i] = 47 := by
      have h1 : ((ba s).data[i]!) = s[i] := by
        show (s.toArray)[i]! = _
        rw [getElem!_pos _ _ (by simpa using hi')]
        simp
      rw [h1] at hc
      have h2 : s[i].toNat = 47 := by omega
      exact UInt8.toNat_inj.1 h2
    conv => rhs; rw [← List.take_append_drop i s, List.drop_eq_getElem_cons hi', hs]

set_option maxHeartbeats 1000000 in
theorem split_yes (s : List UInt8) (hs : s.length ≤ 1000000) (hp : pathB s = true) (w : World) :
    Calls Tryd.prog 31 #[.string (ba s)] w fun e w' => e = .returned (.tuple #[.string (ba (splitL s).1), .string (ba (splitL s).2)]) ∧ Below w.heap.size w w' := by
  have HP : Hid (pathB s = true) := hp
  have hz := ba_size s
  clear hp
  rcases Lib.lastIndexByte_spec (ba s) 47 with ⟨e, _⟩ | ⟨i, hi, e, _, _⟩
  · have hr : splitL s = ([], s) := by unfold splitL; rw [e]; simp
    rw [hr]
    have HE : Hid (Lib.lastIndexByte (ba s) 47 = -1) := e
    clear e hr
    go_enter Tryd.func31, Tryd.ntmps31
    go_wp2_with fail
    refine (Check_yes s hs HP.out _).mono ?_
    rintro e w1 ⟨rfl, hb⟩
    go_wp2_with fail
    refine (Tryd.strings_LastIndex_one (ba s) ⟨#[47]⟩ rfl (by rw [hz]; omega) _).mono ?_
    rintro e w2 ⟨rfl, rfl⟩
    rw [show Lib.lastIndexByte (ba s) (((ByteArray.mk #[47])[0]'(by decide)).toNat : Int) = -1 from HE.out]
    go_wp2
    go_ret2
    exact ⟨rfl, hb⟩
  · have hr : splitL s = (s.take i, s.drop (i + 1)) := by unfold splitL; rw [e, if_neg (by omega), Int.toNat_natCast]
    rw [hr]
    have e1 : (ba s).extract 0 i = ba (s.take i) := ba_eq (by rw [Lib.extract_data]; simp)
    have e2 : (ba s).extract (i + 1) (ba s).size = ba (s.drop (i + 1)) := ba_eq (by rw [Lib.extract_to_end])
    show Calls Tryd.prog 31 #[.string (ba s)] w fun e w' => e = .returned (.tuple #[.string (ba (s.take i)), .string (ba (s.drop (i + 1)))]) ∧ Below w.heap.size w w'
    rw [← e1, ← e2]
    have HC : Hid (∀ W, Calls Tryd.prog 17 #[.string (ba s)] W fun e w' => e = .returned .nilIface ∧ Below W.heap.size W w') := fun W => Check_yes s hs HP.out W
    have HE : Hid (Lib.lastIndexByte (ba s) 47 = (i : Int)) := e
    clear e hr e1 e2 HP
    generalize ba s = bs at *
    have hz' : bs.size ≤ 1000000 := by omega
    have c1 : (0 : Int) ≤ (i : Int) := by omega
    have c2 : (i : Int) ≤ (bs.size : Int) := by omega
    have c3 : (0 : Int) ≤ (i : Int) + 1 := by omega
    have c4 : (i : Int) + 1 ≤ (bs.size : Int) := by omega
    have c5 : (bs.size : Int) ≤ 1000000 := by omega
    clear hz
    go_enter Tryd.func31, Tryd.ntmps31
    go_wp2_with fail
    refine (HC.out _).mono ?_
    rintro e w1 ⟨rfl, hb⟩
    go_wp2_with fail
    refine (Tryd.strings_LastIndex_one bs ⟨#[47]⟩ rfl (by omega) _).mono ?_
    rintro e w2 ⟨rfl, rfl⟩
    rw [show Lib.lastIndexByte bs (((ByteArray.mk #[47])[0]'(by decide)).toNat : Int) = (i : Int) from HE.out]
    go_wp2
    go_region
    go_wp2
    go_ret2
    exact ⟨rfl, hb.drew⟩

theorem Dir_yes (s : List UInt8) (hs : s.length ≤ 1000000) (hp : pathB s = true) (w : World) :
    Calls Tryd.prog 19 #[.string (ba s)] w fun e w' => e = .returned (.string (ba (splitL s).1)) ∧ Below w.heap.size w w' := by
  go_enter Tryd.func19, Tryd.ntmps19
  go_wp2_with fail
  refine (split_yes s hs hp _).mono ?_
  rintro e w' ⟨rfl, hb⟩
  go_wp2
  go_ret
  exact ⟨rfl, hb⟩

theorem Last_yes (s : List UInt8) (hs : s.length ≤ 1000000) (hp : pathB s = true) (w : World) :
    Calls Tryd.prog 20 #[.string (ba s)] w fun e w' => e = .returned (.string (ba (splitL s).2)) ∧ Below w.heap.size w w' := by
  go_enter Tryd.func20, Tryd.ntmps20
  go_wp2_with fail
  refine (split_yes s hs hp _).mono ?_
  rintro e w' ⟨rfl, hb⟩
  go_wp2
  go_ret
  exact ⟨rfl, hb⟩
end Go.Proofs.YtpkkhabiheobnaaDoor
