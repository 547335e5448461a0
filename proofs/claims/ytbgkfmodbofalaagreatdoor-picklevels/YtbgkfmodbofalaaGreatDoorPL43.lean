import Derived.Test.YtbgkfmodbofalaaGreatDoorPL04
import Derived.Test.YtbgkfmodbofalaaGreatDoorPL42
import Derived.Test.YtbgkfmodbofalaaGreatDoorPL16
namespace Go.Proofs.YtbgkfmodbofalaaGreatDoor
open Go.RowKit Go.Shelf Go.Lib
def numR3 (d : List UInt8) : Option Nat := if d.length < 1 ∨ 3 < d.length ∨ (1 < d.length ∧ d[0]? = some 48) then none else Lib.decFrom 0 d
def numJ (d : List UInt8) : Int := match numR3 d with
  | some n => (n : Int)
  | none => -1
theorem numJ_no {d : List UInt8} (h : d.length < 1 ∨ 3 < d.length ∨ (1 < d.length ∧ d[0]? = some 48)) : numJ d = -1 := by
  unfold numJ numR3
  rw [if_pos h]
theorem numJ_dec {d : List UInt8} (h : ¬ (d.length < 1 ∨ 3 < d.length ∨ (1 < d.length ∧ d[0]? = some 48))) {n : Nat} (hd : Lib.decFrom 0 d = some n) : numJ d = (n : Int) := by
  unfold numJ numR3
  rw [if_neg h, hd]
theorem numJ_bad {d : List UInt8} {k : Nat} (hk : k < d.length) (h : Lib.digitVal d[k] = none) : numJ d = -1 := by
  unfold numJ numR3
  split
  · rename_i n hn
    split at hn
    · cases hn
    · obtain ⟨x, hx⟩ := Lib.digit_of_decFrom d 0 n hn k d[k] (List.getElem?_eq_getElem hk)
      rw [h] at hx
      cases hx
  · rfl
set_option maxRecDepth 100000 in
set_option maxHeartbeats 2000000 in
theorem NumberOf3_calls (d : List UInt8) (hd : d.length ≤ 1000000) (w : World) :
    Calls Tryz.prog 95 #[.string (ba d), .int .i64 3] w fun e w' => e = .returned (.int .i64 (numJ d)) ∧ w' = w := by
  obtain ⟨bs, eb, T⟩ := txt d
  rw [eb]
  clear eb
  have hsz : (bs.size : Int) ≤ 1000000 := by rw [T.size]; omega
  by_cases h1 : d.length < 1
  · rw [numJ_no (.inl h1)]
    have z1 : (bs.size : Int) < 1 := by rw [T.size]; omega
    clear T h1
    go_enter Tryz.func95, Tryz.ntmps95
    go_wp2
    go_ret
    exact ⟨rfl, rfl⟩
  by_cases h4 : 3 < d.length
  · rw [numJ_no (.inr (.inl h4))]
    have z1 : (1 : Int) ≤ (bs.size : Int) := by rw [T.size]; omega
    have z4 : (3 : Int) < (bs.size : Int) := by rw [T.size]; omega
    clear T h1 h4
    go_enter Tryz.func95, Tryz.ntmps95
    go_wp2
    go_ret
    exact ⟨rfl, rfl⟩
  have z1 : (1 : Int) ≤ (bs.size : Int) := by rw [T.size]; omega
  have z4 : (bs.size : Int) ≤ 3 := by rw [T.size]; omega
  have n0 : 0 < bs.size := by rw [T.size]; omega
  have hg0 := T.get 0 (by omega) n0
  by_cases h0 : 1 < d.length ∧ d[0]? = some 48
  · rw [numJ_no (.inr (.inr h0))]
    have z2 : (1 : Int) < (bs.size : Int) := by rw [T.size]; omega
    have hb : bs[0] = 48 := by
      rw [hg0]
      have := h0.2
      rw [List.getElem?_eq_getElem (by omega)] at this
      exact Option.some.inj this
    clear T h1 h4 h0 hg0
    go_enter Tryz.func95, Tryz.ntmps95
    go_wp2
    go_ret
    exact ⟨rfl, rfl⟩
  have hcond : ¬ (d.length < 1 ∨ 3 < d.length ∨ (1 < d.length ∧ d[0]? = some 48)) := by rintro (h | h | h); exact h1 h; exact h4 h; exact h0 h
  have hz : (1 : Int) < (bs.size : Int) → ((bs[0].toNat : Int) == 48) = false := fun h => by
    rw [T.size] at h
    cases hq : ((bs[0].toNat : Int) == 48) with
    | false => rfl
    | true =>
      exfalso
      refine h0 ⟨by omega, ?_⟩
      rw [List.getElem?_eq_getElem (by omega)]
      have := eq_of_beq hq
      rw [hg0] at this
      congr 1
      exact UInt8.toNat_inj.1 (by simp; omega)
  have HZ : Hid ((1 : Int) < (bs.size : Int) → ((bs[0].toNat : Int) == 48) = false) := hz
  have HC : Hid (¬ (d.length < 1 ∨ 3 < d.length ∨ (1 < d.length ∧ d[0]? = some 48))) := hcond
  obtain ⟨res, hres⟩ : ∃ res, numJ d = res := ⟨_, rfl⟩
  have HR : Hid (numJ d = res) := hres
  rw [hres]
  clear hz hcond hres h0
  clear hg0 h1 h4
  go_enter Tryz.func95, Tryz.ntmps95
  by_cases hone : (1 : Int) < (bs.size : Int)
  all_goals
    (try have hb0 := HZ.out hone)

    go_wp2
    go_loopw [5, 6] (fun n i wr => ∃ (k m : Nat), k ≤ d.length ∧ i = .int .i64 k ∧ n = .int .i64 m ∧ Lib.decFrom 0 (d.take k) = some m ∧ m < 10000 ∧ wr = w) (fun _ i _ => d.length - (intOf i).toNat)
    case atStart => exact ⟨0, 0, by omega, rfl, rfl, rfl, by omega, rfl⟩
    case round =>
      obtain ⟨k, m, hk, rfl, rfl, hdec, hm, rfl⟩ := hrel
      have HD : Hid (Lib.decFrom 0 (d.take k) = some m) := hdec
      clear hdec
      have zm : (m : Int) < 10000 := by omega
      have zm0 : (0 : Int) ≤ (m : Int) := by omega
      by_cases hlt : k < d.length
      · have hlt2 : k < bs.size := by rw [T.size]; exact hlt
        have c1 : (k : Int) < (bs.size : Int) := by rw [T.size]; omega
        have c0 : (0 : Int) ≤ (k : Int) := by omega
        have hget := T.get k hlt hlt2
        have hbad : ∀ (_ : ¬ (48 ≤ bs[k].toNat ∧ bs[k].toNat ≤ 57)), res = -1 := fun h => by
          rw [← HR.out]
          refine numJ_bad hlt ?_
          unfold Lib.digitVal
          rw [← hget, if_neg h]
        by_cases hlo : 48 ≤ bs[k].toNat
        · by_cases hhi : bs[k].toNat ≤ 57
          · have hdig : Lib.digitVal d[k] = some (bs[k].toNat - 48) := by
              unfold Lib.digitVal
              rw [← hget, if_pos ⟨hlo, hhi⟩]
            have hnext := Lib.decFrom_take d k 0 m d[k] _ HD.out (List.getElem?_eq_getElem hlt) hdig
            have hsmall : m * 10 + (bs[k].toNat - 48) < 10000 := by
              have h1 := Lib.decFrom_lt _ 0 _ hnext
              have h2 : 10 ^ (d.take (k + 1)).length ≤ 10 ^ 4 := Nat.pow_le_pow_right (by omega) (by rw [List.length_take, ← T.size]; omega)
              omega
            have HN : Hid (Lib.decFrom 0 (d.take (k + 1)) = some (m * 10 + (bs[k].toNat - 48))) := hnext
            clear hnext hdig hbad hget
            have y1 : (48 : Int) ≤ (bs[k].toNat : Int) := by omega
            have y2 : (bs[k].toNat : Int) ≤ 57 := by omega
            go_wp2
            go_roundw
            case rel => exact ⟨k + 1, m * 10 + (bs[k].toNat - 48), by omega, by go_num, by go_num, HN.out, hsmall, by first | rfl | trivial⟩
            case measure => simp [intOf]; omega
          · have e := hbad (by omega)
            have y2 : (57 : Int) < (bs[k].toNat : Int) := by omega
            have y1 : (48 : Int) ≤ (bs[k].toNat : Int) := by omega
            clear hbad hget
            go_wp2
            go_ret
            exact ⟨by rw [e]; rfl, rfl⟩
        · have e := hbad (by omega)
          have y1 : (bs[k].toNat : Int) < 48 := by omega
          clear hbad hget
          go_wp2
          go_ret
          exact ⟨by rw [e]; rfl, rfl⟩
      · have c1 : (bs.size : Int) ≤ (k : Int) := by rw [T.size]; omega
        obtain rfl : k = d.length := by omega
        have e : res = (m : Int) := by
          have := HD.out
          rw [List.take_length] at this
          rw [← HR.out, numJ_dec HC.out this]
        go_wp2
        go_ret
        exact ⟨by rw [e]; rfl, rfl⟩
theorem numM_numR3 (d : List UInt8) : numM 3 d = numR3 d := by
  by_cases h : 3 < d.length
  · unfold numM numR3
    rw [if_pos h, if_pos (.inr (.inl h))]
  · have e1 : numM 3 d = numM 4 d := by
      unfold numM
      rw [if_neg h, if_neg (by omega)]
    have e2 : Tf.numR d = numR3 d := by
      unfold Tf.numR numR3
      by_cases hc : d.length < 1 ∨ (1 < d.length ∧ d[0]? = some 48)
      · rw [if_pos (by rcases hc with hc | hc; exact .inl hc; exact .inr (.inr hc)), if_pos (by rcases hc with hc | hc; exact .inl hc; exact .inr (.inr hc))]
      · rw [if_neg (by rintro (hh | hh | hh); exact hc (.inl hh); omega; exact hc (.inr hh)), if_neg (by rintro (hh | hh | hh); exact hc (.inl hh); exact h hh; exact hc (.inr hh))]
    rw [e1, ← numT_numM, Tf.numT_numR, e2]
theorem numJ_many (d : List UInt8) : decide ((0 : Int) ≤ numJ d) = (numM 3 d).isSome := by
  rw [numM_numR3]
  unfold numJ
  cases numR3 d with
  | none => rfl
  | some n => simp
end Go.Proofs.YtbgkfmodbofalaaGreatDoor
