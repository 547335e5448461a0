/- The document's answer's SplitOf; package path's Dir and Last of what is no path. -/
import Derived.Test.YtpkkhabiheobnaaDoorRClean
import Derived.Test.YtpkkhabiheobnaaDoorDir
namespace Go.Proofs.YtpkkhabiheobnaaDoor
open Go.RowKit Go.Shelf Go.Lib

/-- All but the last part, and the last part, of a path; nothing of what is no path. -/
def splitR (s : List UInt8) : List UInt8 × List UInt8 := if okR false s = true then splitL s else ([], [])

theorem get_bang (bs : ByteArray) (k : Nat) (h : k < bs.size) : (bs.data[k]!) = bs[k] := by
  rw [getElem!_pos bs.data k h]
  rfl

theorem lastIdx_range (bs : ByteArray) (k : Nat) : Lib.lastIdx bs 47 k = -1 ∨ ∃ i : Nat, i < k ∧ Lib.lastIdx bs 47 k = (i : Int) := by
  rcases Lib.lastIdx_spec bs 47 k with ⟨h, _⟩ | ⟨i, h1, h2, _⟩
  · exact .inl h
  · exact .inr ⟨i, h1, h2⟩

set_option maxRecDepth 100000 in
set_option maxHeartbeats 2000000 in
theorem SplitOf_calls (s : List UInt8) (hs : s.length ≤ 1000000) (w : World) :
    Calls Tryd.prog 18 #[.string (ba s)] w fun e w' => e = .returned (.tuple #[.string (ba (splitR s).1), .string (ba (splitR s).2)]) ∧ Below w.heap.size w w' := by
  cases hp : okR false s with
  | false =>
    have hr : splitR s = ([], []) := by simp [splitR, hp]
    rw [hr]
    have HP : Hid (okR false s = false) := hp
    clear hr hp
    go_enter Tryd.func18, Tryd.ntmps18
    go_wp2_with fail
    have hc := IsPath_calls s hs w
    rw [HP.out] at hc
    refine hc.mono ?_
    rintro e w1 ⟨rfl, hb⟩
    clear hc
    go_wp2
    go_ret2
    exact ⟨rfl, hb⟩
  | true =>
    have hr : splitR s = splitL s := by simp [splitR, hp]
    rw [hr]
    have hc := IsPath_calls s hs w
    rw [hp] at hc
    have HR : Hid (splitL s = if Lib.lastIdx (ba s) 47 (ba s).size < 0 then ([], s) else (s.take (Lib.lastIdx (ba s) 47 (ba s).size).toNat, s.drop ((Lib.lastIdx (ba s) 47 (ba s).size).toNat + 1))) := rfl
    clear hr hp
    obtain ⟨bs, eb, T⟩ := txt s
    rw [eb] at HR hc ⊢
    clear eb
    have hsz : bs.size ≤ 1000000 := by rw [T.size]; exact hs
    have HI : Hid (Calls Tryd.prog 13 #[.string bs] w fun e w' => e = .returned (.bool true) ∧ Below w.heap.size w w') := hc
    clear hc
    go_enter Tryd.func18, Tryd.ntmps18
    go_wp2_with fail
    refine HI.out.mono ?_
    rintro e w1 ⟨rfl, hb⟩
    go_wp2
    go_loop [5, 6] (fun a i => ∃ k : Nat, k ≤ bs.size ∧ i = .int .i64 k ∧ a = .int .i64 (Lib.lastIdx bs 47 k)) (fun _ i => bs.size - (intOf i).toNat)
    case atStart => exact ⟨0, by omega, rfl, rfl⟩
    case round =>
      obtain ⟨k, hk, rfl, rfl⟩ := hrel
      by_cases hlt : k < bs.size
      · have hg := get_bang bs k hlt
        by_cases h47 : bs[k].toNat = 47
        · have hit : Lib.lastIdx bs 47 (k + 1) = k := Lib.lastIdx_hit bs 47 k (by rw [hg, h47]; rfl)
          have HH : Hid (Lib.lastIdx bs 47 (k + 1) = k) := hit
          clear hit hg
          go_wp2
          exact ⟨⟨k + 1, by omega, by go_num, by rw [HH.out]⟩, by simp [intOf]; omega⟩
        · have hms : Lib.lastIdx bs 47 (k + 1) = Lib.lastIdx bs 47 k := Lib.lastIdx_miss bs 47 k (by rw [hg]; omega)
          have HH : Hid (Lib.lastIdx bs 47 (k + 1) = Lib.lastIdx bs 47 k) := hms
          obtain ⟨c, hc⟩ : ∃ c : Nat, bs[k].toNat = c := ⟨_, rfl⟩
          have b47 : ((c : Int) == 47) = false := by simp; omega
          clear hms hg h47
          go_wp2
          exact ⟨⟨k + 1, by omega, by go_num, by rw [HH.out]⟩, by simp [intOf]; omega⟩
      · have hkk : k = bs.size := by omega
        have hge : (bs.size : Int) ≤ (k : Int) := by omega
        rcases lastIdx_range bs k with hm | ⟨i, hi, hm⟩
        · have hr : splitL s = ([], s) := by
            have := HR.out
            rw [← hkk, hm] at this
            simpa using this
          have H1 : Hid (splitL s = ([], s)) := hr
          have H2 : Hid (bs = ba s) := T.eq
          rw [hm]
          clear hm hr hkk
          go_wp2
          go_ret2
          exact ⟨by rw [H1.out, H2.out]; rfl, hb⟩
        · have hr : splitL s = (s.take i, s.drop (i + 1)) := by
            have := HR.out
            rw [← hkk, hm, if_neg (by omega), Int.toNat_natCast] at this
            exact this
          have H1 : Hid (splitL s = (s.take i, s.drop (i + 1))) := hr
          have H2 : Hid (bs.extract 0 i = ba (s.take i)) := by
            show bs.extract 0 i = ba (s.take i)
            rw [T.extract, List.drop_zero]
          have H3 : Hid (bs.extract (i + 1) bs.size = ba (s.drop (i + 1))) := by
            show bs.extract (i + 1) bs.size = ba (s.drop (i + 1))
            rw [T.extract, T.size, List.take_length]
          rw [hm]
          have c1 : (0 : Int) ≤ (i : Int) := by omega
          have c2 : (i : Int) ≤ (bs.size : Int) := by omega
          have c3 : (0 : Int) ≤ (i : Int) + 1 := by omega
          have c4 : (i : Int) + 1 ≤ (bs.size : Int) := by omega
          have c5 : (bs.size : Int) ≤ 1000000 := by omega
          clear hm hr hkk hk
          go_wp2
          go_region
          go_wp2
          go_ret2
          exact ⟨by rw [H1.out]; show _ = Ending.returned (.tuple #[.string (ba (s.take i)), .string (ba (s.drop (i + 1)))]); rw [← H2.out, ← H3.out]; rfl, hb.drew⟩
end Go.Proofs.YtpkkhabiheobnaaDoor
