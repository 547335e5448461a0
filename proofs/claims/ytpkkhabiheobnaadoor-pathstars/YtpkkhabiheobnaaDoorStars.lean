/- The walk of PathStars: a path fits itself, two stars, itself below and above them, and itself with a star behind. -/
import Derived.Test.YtpkkhabiheobnaaDoorFitAll
import Derived.Test.YtpkkhabiheobnaaDoorMatch2
import Derived.Test.YtpkkhabiheobnaaDoorStarsFacts
import Derived.Test.YtpkkhabiheobnaaDoorStays
namespace Go.Proofs.YtpkkhabiheobnaaDoor
open Go.RowKit Go.Shelf Go.Lib

abbrev yes2 : Value := .tuple #[.bool true, .nilIface]

theorem Match_fits (p s : List UInt8) (hp : p.length ≤ 1000000) (hs : s.length ≤ 1000000) (h2 : okR false s = true) (h : okR true p = true ∧ fitL 20 (Kf.parts p) (Kf.parts s) = true) (m : Int) (w : World) (hm : w.cell? ⟨13, 0, none⟩ = some (.int .i64 m)) :
    Hid (∀ W, Below w.heap.size w W → Calls Tryd.prog 21 #[.string (ba p), .string (ba s)] W fun e w' => e = .returned yes2 ∧ Below W.heap.size W w') := fun W hW => by
  have := Match_yes (fitOk 20) p s hp hs h.1 h2 m W (cell_below' hm hW)
  rw [h.2] at this
  exact this

set_option maxHeartbeats 4000000 in
theorem PathStars_path (s : List UInt8) (hs : s.length ≤ 100) (h : okR false s = true) (m : Int) (w : World) {aB aS aN aE : Addr} (hE : Errs w aB aS aN aE) (hm : w.cell? ⟨13, 0, none⟩ = some (.int .i64 m)) :
    Calls Tryd.prog 7 #[.string (ba s)] w fun e w' => e = .returned (.bool true) ∧ Below w.heap.size w w' := by
  have hs1 : s.length ≤ 1000000 := by omega
  have zs : (s.length : Int) ≤ 100 := by omega
  have HPd : Hid (∀ W, Below w.heap.size w W → Calls Tryd.prog 12 #[] W fun e w' => e = .returned (.bool true) ∧ Below W.heap.size W w') := fun W hW => pathed_calls W (hE.below hW)
  have HK : Hid (∀ W, Calls Tryd.prog 17 #[.string (ba s)] W fun e w' => e = .returned .nilIface ∧ Below W.heap.size W w') := fun W => Check_yes s hs1 (by rw [pathB_R]; exact h) W
  have HL : Hid (∀ W, Calls Tryd.prog 20 #[.string (ba s)] W fun e w' => e = .returned (.string (ba (splitL s).2)) ∧ Below W.heap.size W w') := fun W => Last_yes s hs1 (by rw [pathB_R]; exact h) W
  have HM1 := Match_fits s s hs1 hs1 h (st_self h) m w hm
  have HM2 := Match_fits [42, 42] s (by decide) hs1 h (st_any h) m w hm
  have HM3 := fun h5 => Match_fits ([42, 42, 47] ++ s) s (by simp; omega) hs1 h (st_ahead h h5) m w hm
  have HM4 := fun h5 => Match_fits (s ++ [47, 42, 42]) s (by simp; omega) hs1 h (st_behind h h5) m w hm
  have HM5 := fun h12 => Match_fits (s ++ [42]) s (by simp; omega) hs1 h (st_star h h12) m w hm
  have HC : Hid (∀ W, Calls Tryd.prog 23 #[.string (ba s), .int .u8 47] W fun e w' => ∃ a cap, e = .returned (.slice (some a) (Kf.parts s).length cap) ∧ Below W.heap.size W w') := fun W => by
    refine (rCut_calls s hs1 47 47 rfl W).mono ?_
    rintro e w' ⟨v, rfl, hrow, hB⟩
    rw [cutB_parts] at hrow
    obtain ⟨g, o, cap, rfl, _⟩ := row_of_owns hrow
    exact ⟨_, _, rfl, hB⟩
  have hn5 := (okR_parts h).1
  generalize (splitL s).2 = x at *
  generalize (Kf.parts s).length = n at *
  clear h hs
  have g0 : Below w.heap.size w w := Below.refl _ w
  go_enter Tryd.func7, Tryd.ntmps7
  go_wp2_with fail
  refine (HPd.out _ g0).mono ?_
  rintro e w1 ⟨rfl, g1⟩
  clear g0 HPd
  go_wp2_with fail
  refine (HK.out _).mono ?_
  rintro e w2 ⟨rfl, g2'⟩
  have g2 := g1.trans (g2'.mono g1.size)
  clear g2' g1 HK
  go_wp2_with fail
  refine (HM1.out _ g2).mono ?_
  rintro e w3 ⟨rfl, g3'⟩
  have g3 := g2.trans (g3'.mono g2.size)
  clear g3' g2 HM1
  go_wp2_with fail
  refine (HM2.out _ g3).mono ?_
  rintro e w4 ⟨rfl, g4'⟩
  have g4 := g3.trans (g4'.mono g3.size)
  clear g4' g3 HM2
  go_wp2_with fail
  refine (HC.out _).mono ?_
  rintro e w5 ⟨a, cap, rfl, g5'⟩
  have g5 := g4.trans (g5'.mono g4.size)
  clear g5' g4 HC
  rcases Nat.lt_or_ge n 5 with hn | hn
  · have zn : (n : Int) < 5 := by omega
    have H3 := HM3 hn
    have H4 := HM4 hn
    clear hn HM3 HM4
    go_wp2_with fail
    rw [show { data := #[42, 42, 47] } ++ ba s = ba ([42, 42, 47] ++ s) by rw [show (ByteArray.mk #[42, 42, 47]) = ba [42, 42, 47] from rfl, ba_append]]
    refine (H3.out _ g5).mono ?_
    rintro e w6 ⟨rfl, g6'⟩
    have g6 := g5.trans (g6'.mono g5.size)
    clear g6' g5 H3
    go_wp2_with fail
    rw [show ba s ++ { data := #[47, 42, 42] } = ba (s ++ [47, 42, 42]) by rw [show (ByteArray.mk #[47, 42, 42]) = ba [47, 42, 42] from rfl, ba_append]]
    refine (H4.out _ g6).mono ?_
    rintro e w7 ⟨rfl, g7'⟩
    have g7 := g6.trans (g7'.mono g6.size)
    clear g7' g6 H4
    go_wp2_with fail
    refine (HL.out _).mono ?_
    rintro e w9 ⟨rfl, g9'⟩
    have g9 := g7.trans (g9'.mono g7.size)
    clear g9' g7
    rcases Nat.lt_or_ge x.length 12 with hx | hx
    · have zx : (x.length : Int) < 12 := by omega
      have H5 := HM5 hx
      clear hx HM5
      go_wp2_with fail
      rw [show ba s ++ { data := #[42] } = ba (s ++ [42]) by rw [show (ByteArray.mk #[42]) = ba [42] from rfl, ba_append]]
      refine (H5.out _ g9).mono ?_
      rintro e w10 ⟨rfl, g10⟩
      go_wp2
      go_ret
      exact ⟨rfl, g9.trans (g10.mono g9.size)⟩
    · have zx : (12 : Int) ≤ (x.length : Int) := by omega
      clear hx HM5
      go_wp2
      go_ret
      exact ⟨rfl, g9⟩
  · have zn : (5 : Int) ≤ (n : Int) := by omega
    clear hn HM3 HM4
    go_wp2_with fail
    refine (HL.out _).mono ?_
    rintro e w9 ⟨rfl, g9'⟩
    have g9 := g5.trans (g9'.mono g5.size)
    clear g9' g5
    rcases Nat.lt_or_ge x.length 12 with hx | hx
    · have zx : (x.length : Int) < 12 := by omega
      have H5 := HM5 hx
      clear hx HM5
      go_wp2_with fail
      rw [show ba s ++ { data := #[42] } = ba (s ++ [42]) by rw [show (ByteArray.mk #[42]) = ba [42] from rfl, ba_append]]
      refine (H5.out _ g9).mono ?_
      rintro e w10 ⟨rfl, g10⟩
      go_wp2
      go_ret
      exact ⟨rfl, g9.trans (g10.mono g9.size)⟩
    · have zx : (12 : Int) ≤ (x.length : Int) := by omega
      clear hx HM5
      go_wp2
      go_ret
      exact ⟨rfl, g9⟩

theorem PathStars_calls (s : ByteArray) (m : Int) (w : World) {aB aS aN aE : Addr} (hE : Errs w aB aS aN aE) (hm : w.cell? ⟨13, 0, none⟩ = some (.int .i64 m)) :
    Calls Tryd.prog 7 #[.string s] w fun e w' => e = .returned (.bool true) ∧ Below w.heap.size w w' := by
  rcases Nat.lt_or_ge 100 s.size with h | h
  · have hz : (100 : Int) < (s.size : Int) := by omega
    go_enter Tryd.func7, Tryd.ntmps7
    go_wp2_with fail
    refine (pathed_calls w hE).mono ?_
    rintro e w1 ⟨rfl, g1⟩
    go_wp2
    go_ret
    exact ⟨rfl, g1⟩
  · have e1 : s = ba s.data.toList := ba_eq rfl
    have hl : s.data.toList.length ≤ 100 := by rw [e1, ba_size] at h; exact h
    rw [e1]
    generalize s.data.toList = l at *
    clear e1 h
    cases ho : okR false l with
    | true => exact PathStars_path l hl ho m w hE hm
    | false =>
      have zs : (l.length : Int) ≤ 100 := by omega
      have HK : Hid (∀ W, Below w.heap.size w W → Calls Tryd.prog 17 #[.string (ba l)] W fun e w' => e = .returned (.iface 54 (.pointer (some aN))) ∧ Below W.heap.size W w') := fun W hW => Check_no l (by omega) (by rw [pathB_R]; exact ho) W _ _ (hE.below hW).n
      clear ho hl
      go_enter Tryd.func7, Tryd.ntmps7
      go_wp2_with fail
      refine (pathed_calls w hE).mono ?_
      rintro e w1 ⟨rfl, g1⟩
      go_wp2_with fail
      refine (HK.out _ g1).mono ?_
      rintro e w2 ⟨rfl, g2⟩
      go_wp2
      go_ret
      exact ⟨rfl, g1.trans (g2.mono g1.size)⟩
end Go.Proofs.YtpkkhabiheobnaaDoor
