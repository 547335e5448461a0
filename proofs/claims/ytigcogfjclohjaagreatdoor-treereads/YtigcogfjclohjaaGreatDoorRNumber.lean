/- The document's answer's NumberOf: the walk. -/
import Derived.Test.YtigcogfjclohjaaGreatDoorCut
import Derived.Test.YtigcogfjclohjaaGreatDoorTreeFail
namespace Go.Proofs.YtigcogfjclohjaaGreatDoor
open Go.RowKit Go.Shelf Go.Lib

def numI (d : List UInt8) : Int := match Tf.numR d with
  | some n => (n : Int)
  | none => -1

theorem numI_no {d : List UInt8} (h : d.length < 1 ∨ 4 < d.length ∨ (1 < d.length ∧ d[0]? = some 48)) : numI d = -1 := by
  unfold numI Tf.numR
  rw [if_pos h]
theorem numI_dec {d : List UInt8} (h : ¬ (d.length < 1 ∨ 4 < d.length ∨ (1 < d.length ∧ d[0]? = some 48))) {n : Nat} (hd : Lib.decFrom 0 d = some n) : numI d = (n : Int) := by
  unfold numI Tf.numR
  rw [if_neg h, hd]
theorem numI_bad {d : List UInt8} {k : Nat} (hk : k < d.length) (h : Lib.digitVal d[k] = none) : numI d = -1 := by
  unfold numI Tf.numR
  split
  · rename_i n hn
    split at hn
    · cases hn
    · obtain ⟨x, hx⟩ := Lib.digit_of_decFrom d 0 n hn k d[k] (List.getElem?_eq_getElem hk)
      rw [h] at hx
      cases hx
  · rfl

set_option maxRecDepth 100000 in
set_option maxHeartbeats 2000000 in
theorem NumberOf_calls (d : List UInt8) (hd : d.length ≤ 1000000) (w : World) :
    Calls Tryz.prog 39 #[.string (ba d), .int .i64 4] w fun e w' => e = .returned (.int .i64 (numI d)) ∧ w' = w := by
  obtain ⟨bs, eb, T⟩ := txt d
  rw [eb]
  clear eb
  have hsz : (bs.size : Int) ≤ 1000000 := by rw [T.size]; omega
  by_cases h1 : d.length < 1
  · rw [numI_no (.inl h1)]
    have z1 : (bs.size : Int) < 1 := by rw [T.size]; omega
    clear T h1
    go_enter Tryz.func39, Tryz.ntmps39
    go_wp2
    go_ret
    exact ⟨rfl, rfl⟩
  by_cases h4 : 4 < d.length
  · rw [numI_no (.inr (.inl h4))]
    have z1 : (1 : Int) ≤ (bs.size : Int) := by rw [T.size]; omega
    have z4 : (4 : Int) < (bs.size : Int) := by rw [T.size]; omega
    clear T h1 h4
    go_enter Tryz.func39, Tryz.ntmps39
    go_wp2
    go_ret
    exact ⟨rfl, rfl⟩
  have z1 : (1 : Int) ≤ (bs.size : Int) := by rw [T.size]; omega
  have z4 : (bs.size : Int) ≤ 4 := by rw [T.size]; omega
  have n0 : 0 < bs.size := by rw [T.size]; omega
  have hg0 := T.get 0 (by omega) n0
  by_cases h0 : 1 < d.length ∧ d[0]? = some 48
  · rw [numI_no (.inr (.inr h0))]
    have z2 : (1 : Int) < (bs.size : Int) := by rw [T.size]; omega
    have hb : bs[0] = 48 := by
      rw [hg0]
      have := h0.2
      rw [List.getElem?_eq_getElem (by omega)] at this
      exact Option.some.inj this
    clear T h1 h4 h0 hg0
    go_enter Tryz.func39, Tryz.ntmps39
    go_wp2
    go_ret
    exact ⟨rfl, rfl⟩
  have hcond : ¬ (d.length < 1 ∨ 4 < d.length ∨ (1 < d.length ∧ d[0]? = some 48)) := by rintro (h | h | h); exact h1 h; exact h4 h; exact h0 h
  have hz : (1 : Int) < (bs.size : Int) → ((bs[0].toNat : Int) == 48) = false := fun h => by
    rw [T.size] at h
    cases hq : ((bs[0].toNat : Int) == 48) with
    | false => rfl
    | true =>
      exfalso
      refine h0 ⟨by omega, ?_⟩
      rw [List.getElem?_eq_getElem (by omega)]
      have := eq_of_beq hq
      rw [hg0] at this
      congr 1
      exact UInt8.toNat_inj.1 (by simp; omega)
  have HZ : Hid ((1 : Int) < (bs.size : Int) → ((bs[0].toNat : Int) == 48) = false) := hz
  have HC : Hid (¬ (d.length < 1 ∨ 4 < d.length ∨ (1 < d.length ∧ d[0]? = some 48))) := hcond
  obtain ⟨res, hres⟩ : ∃ res, numI d = res := ⟨_, rfl⟩
  have HR : Hid (numI d = res) := hres
  rw [hres]
  clear hz hcond hres h0
  clear hg0 h1 h4
  go_enter Tryz.func39, Tryz.ntmps39
  by_cases hone : (1 : Int) < (bs.size : Int)
  all_goals
    (try have hb0 := HZ.out hone)

    go_wp2
    go_loopw [5, 6] (fun n i wr => ∃ (k m : Nat), k ≤ d.length ∧ i = .int .i64 k ∧ n = .int .i64 m ∧ Lib.decFrom 0 (d.take k) = some m ∧ m < 10000 ∧ wr = w) (fun _ i _ => d.length - (intOf i).toNat)
    case atStart => exact ⟨0, 0, by omega, rfl, rfl, rfl, by omega, rfl⟩
    case round =>
      obtain ⟨k, m, hk, rfl, rfl, hdec, hm, rfl⟩ := hrel
      have HD : Hid (Lib.decFrom 0 (d.take k) = some m) := hdec
      clear hdec
      have zm : (m : Int) < 10000 := by omega
      have zm0 : (0 : Int) ≤ (m : Int) := by omega
      by_cases hlt : k < d.length
      · have hlt2 : k < bs.size := by rw [T.size]; exact hlt
        have c1 : (k : Int) < (bs.size : Int) := by rw [T.size]; omega
        have c0 : (0 : Int) ≤ (k : Int) := by omega
        have hget := T.get k hlt hlt2
        have hbad : ∀ (_ : ¬ (48 ≤ bs[k].toNat ∧ bs[k].toNat ≤ 57)), res = -1 := fun h => by
          rw [← HR.out]
          refine numI_bad hlt ?_
          unfold Lib.digitVal
          rw [← hget, if_neg h]
        by_cases hlo : 48 ≤ bs[k].toNat
        · by_cases hhi : bs[k].toNat ≤ 57
          · have hdig : Lib.digitVal d[k] = some (bs[k].toNat - 48) := by
              unfold Lib.digitVal
              rw [← hget, if_pos ⟨hlo, hhi⟩]
            have hnext := Lib.decFrom_take d k 0 m d[k] _ HD.out (List.getElem?_eq_getElem hlt) hdig
            have hsmall : m * 10 + (bs[k].toNat - 48) < 10000 := by
              have h1 := Lib.decFrom_lt _ 0 _ hnext
              have h2 : 10 ^ (d.take (k + 1)).length ≤ 10 ^ 4 := Nat.pow_le_pow_right (by omega) (by rw [List.length_take, ← T.size]; omega)
              omega
            have HN : Hid (Lib.decFrom 0 (d.take (k + 1)) = some (m * 10 + (bs[k].toNat - 48))) := hnext
            clear hnext hdig hbad hget
            have y1 : (48 : Int) ≤ (bs[k].toNat : Int) := by omega
            have y2 : (bs[k].toNat : Int) ≤ 57 := by omega
            go_wp2
            go_roundw
            case rel => exact ⟨k + 1, m * 10 + (bs[k].toNat - 48), by omega, by go_num, by go_num, HN.out, hsmall, by first | rfl | trivial⟩
            case measure => simp [intOf]; omega
          · have e := hbad (by omega)
            have y2 : (57 : Int) < (bs[k].toNat : Int) := by omega
            have y1 : (48 : Int) ≤ (bs[k].toNat : Int) := by omega
            clear hbad hget
            go_wp2
            go_ret
            exact ⟨by rw [e]; rfl, rfl⟩
        · have e := hbad (by omega)
          have y1 : (bs[k].toNat : Int) < 48 := by omega
          clear hbad hget
          go_wp2
          go_ret
          exact ⟨by rw [e]; rfl, rfl⟩
      · have c1 : (bs.size : Int) ≤ (k : Int) := by rw [T.size]; omega
        obtain rfl : k = d.length := by omega
        have e : res = (m : Int) := by
          have := HD.out
          rw [List.take_length] at this
          rw [← HR.out, numI_dec HC.out this]
        go_wp2
        go_ret
        exact ⟨by rw [e]; rfl, rfl⟩
end Go.Proofs.YtigcogfjclohjaaGreatDoor
