/- The document's answer's isName: the walk. -/
import Derived.Test.YtigcogfjclohjaaGreatDoorCut
namespace Go.Proofs.YtigcogfjclohjaaGreatDoor
open Go.RowKit Go.Shelf Go.Lib

/-- May a byte stand in a name (with stars)? -/
def byteOk (stars : Bool) (c : Nat) : Bool := letter c || (stars && c == 42)
def nameR (stars : Bool) (s : List UInt8) : Bool := !(decide (s = [])) && decide (s.length ≤ 12) && !(decide (s = [46])) && !(decide (s = [46, 46])) && s.all (fun b => byteOk stars b.toNat)

set_option maxRecDepth 100000 in
set_option maxHeartbeats 4000000 in
theorem rname_round (stars : Bool) (bs : ByteArray) (s : List UInt8) (T : Txt bs s) (hs : s.length ≤ 12) (h1 : ¬ s = []) (h3 : ¬ s = [46]) (h4 : ¬ s = [46, 46]) (w : World) :
    Calls Tryz.prog 71 #[.string bs, .bool stars] w fun e w' => e = .returned (.bool (s.all (fun b => byteOk stars b.toNat))) ∧ ∃ q, w' = w.drewN q := by
  have hz := T.size
  have hpos : 0 < s.length := List.length_pos_iff.2 h1
  have c0 : ¬ (bs.size : Int) < 1 := by omega
  have c1 : (bs.size : Int) ≤ 12 := by omega
  have e1 : bs.toList = s := by rw [T.eq, ba_toList]
  have c3 : (bs.toList == [46]) = false := by rw [e1]; simpa using h3
  have c4 : (bs.toList == [46, 46]) = false := by rw [e1]; simpa using h4
  have c0' : (1 : Int) ≤ (bs.size : Int) := by omega
  clear e1 h1 h3 h4
  go_enter Tryz.func71, Tryz.ntmps71
  go_wp2
  go_loopw [5] (fun i wr => ∃ k : Nat, k ≤ s.length ∧ i = .int .i64 k ∧ (s.take k).all (fun b => byteOk stars b.toNat) = true ∧ ∃ q, wr = w.drewN q) (fun i _ => s.length - (intOf i).toNat)
  case atStart => exact ⟨0, by omega, rfl, by simp, 0, rfl⟩
  case round =>
    obtain ⟨k, hk, rfl, hall, q, rfl⟩ := hrel
    have HA : Hid ((s.take k).all (fun b => byteOk stars b.toNat) = true) := hall
    clear hall
    by_cases hlt : k < s.length
    · have hlt2 : k < bs.size := by omega
      obtain ⟨c, hc⟩ : ∃ c : Nat, bs[k].toNat = c := ⟨_, rfl⟩
      have hsk : s[k].toNat = c := by rw [← hc, T.get k hlt hlt2]
      have hok : byteOk stars c = true → (s.take (k + 1)).all (fun b => byteOk stars b.toNat) = true := fun h => by
        rw [List.take_succ_eq_append_getElem hlt, List.all_append, HA.out]; simp [hsk, h]
      have hno : byteOk stars c = false → s.all (fun b => byteOk stars b.toNat) = false := fun h => by
        rw [List.all_eq_false]; exact ⟨s[k], List.getElem_mem hlt, by rw [hsk, h]; simp⟩
      have HOK : Hid (byteOk stars c = true → (s.take (k + 1)).all (fun b => byteOk stars b.toNat) = true) := hok
      have HNO : Hid (byteOk stars c = false → s.all (fun b => byteOk stars b.toNat) = false) := hno
      clear hok hno hsk HA
      by_cases hA : 97 ≤ c ∧ c ≤ 122
      · have a1 : (97 : Int) ≤ (c : Int) := by omega
        have a2 : (c : Int) ≤ 122 := by omega
        have hl : byteOk stars c = true := by simp [byteOk, letter]; omega
        have HK : Hid ((s.take (k + 1)).all (fun b => byteOk stars b.toNat) = true) := HOK.out hl
        clear hl HOK HNO hA
        go_wp2
        exact ⟨⟨k + 1, by omega, by go_num, HK.out, q, rfl⟩, by simp [intOf]; omega⟩
      by_cases hB : 48 ≤ c ∧ c ≤ 57
      · have a0 : ¬ (97 : Int) ≤ (c : Int) := by omega
        have a1 : (48 : Int) ≤ (c : Int) := by omega
        have a2 : (c : Int) ≤ 57 := by omega
        have hl : byteOk stars c = true := by simp [byteOk, letter]; omega
        have HK : Hid ((s.take (k + 1)).all (fun b => byteOk stars b.toNat) = true) := HOK.out hl
        clear hl HOK HNO hA hB
        go_wp2
        exact ⟨⟨k + 1, by omega, by go_num, HK.out, q, rfl⟩, by simp [intOf]; omega⟩
      by_cases h45 : c = 45
      · subst h45
        have HK : Hid ((s.take (k + 1)).all (fun b => byteOk stars b.toNat) = true) := HOK.out (by simp [byteOk, letter])
        clear HOK HNO hA hB
        go_wp2
        exact ⟨⟨k + 1, by omega, by go_num, HK.out, q, rfl⟩, by simp [intOf]; omega⟩
      by_cases h46 : c = 46
      · subst h46
        have HK : Hid ((s.take (k + 1)).all (fun b => byteOk stars b.toNat) = true) := HOK.out (by simp [byteOk, letter])
        clear HOK HNO hA hB
        go_wp2
        exact ⟨⟨k + 1, by omega, by go_num, HK.out, q, rfl⟩, by simp [intOf]; omega⟩
      by_cases h95 : c = 95
      · subst h95
        have HK : Hid ((s.take (k + 1)).all (fun b => byteOk stars b.toNat) = true) := HOK.out (by simp [byteOk, letter])
        clear HOK HNO hA hB
        go_wp2
        exact ⟨⟨k + 1, by omega, by go_num, HK.out, q, rfl⟩, by simp [intOf]; omega⟩
      have b45 : ((c : Int) == 45) = false := by simp; omega
      have b46 : ((c : Int) == 46) = false := by simp; omega
      have b95 : ((c : Int) == 95) = false := by simp; omega
      have hll : letter c = false := by simp [letter]; omega
      cases stars with
      | true =>
        by_cases h42 : c = 42
        · subst h42
          have HK : Hid ((s.take (k + 1)).all (fun b => byteOk true b.toNat) = true) := HOK.out (by simp [byteOk])
          clear HOK HNO hA hB b45 b46 b95 hll h45 h46 h95
          go_wp2
          exact ⟨⟨k + 1, by omega, by go_num, HK.out, q, rfl⟩, by simp [intOf]; omega⟩
        · have b42 : ((c : Int) == 42) = false := by simp; omega
          have HK : Hid (s.all (fun b => byteOk true b.toNat) = false) := HNO.out (by simp [byteOk, hll, h42])
          have hr : (97 ≤ c ∧ 122 < c) ∨ (c < 97 ∧ 48 ≤ c ∧ 57 < c) ∨ c < 48 := by omega
          clear HOK HNO hA hB hll h45 h46 h95 h42
          rcases hr with ⟨r1, r2⟩ | ⟨r1, r2, r3⟩ | r1
          · have d1 : (97 : Int) ≤ (c : Int) := by omega
            have d2 : decide ((c : Int) ≤ 122) = false := by simp; omega
            have d3 : (48 : Int) ≤ (c : Int) := by omega
            have d4 : decide ((c : Int) ≤ 57) = false := by simp; omega
            go_wp2
            go_ret
            exact ⟨ret_bool HK.out.symm, q, rfl⟩
          · have d1 : decide ((97 : Int) ≤ (c : Int)) = false := by simp; omega
            have d3 : (48 : Int) ≤ (c : Int) := by omega
            have d4 : decide ((c : Int) ≤ 57) = false := by simp; omega
            go_wp2
            go_ret
            exact ⟨ret_bool HK.out.symm, q, rfl⟩
          · have d1 : decide ((97 : Int) ≤ (c : Int)) = false := by simp; omega
            have d3 : decide ((48 : Int) ≤ (c : Int)) = false := by simp; omega
            go_wp2
            go_ret
            exact ⟨ret_bool HK.out.symm, q, rfl⟩
      | false =>
        have HK : Hid (s.all (fun b => byteOk false b.toNat) = false) := HNO.out (by simp [byteOk, hll])
        have hr : (97 ≤ c ∧ 122 < c) ∨ (c < 97 ∧ 48 ≤ c ∧ 57 < c) ∨ c < 48 := by omega
        clear HOK HNO hA hB hll h45 h46 h95
        rcases hr with ⟨r1, r2⟩ | ⟨r1, r2, r3⟩ | r1
        · have d1 : (97 : Int) ≤ (c : Int) := by omega
          have d2 : decide ((c : Int) ≤ 122) = false := by simp; omega
          have d3 : (48 : Int) ≤ (c : Int) := by omega
          have d4 : decide ((c : Int) ≤ 57) = false := by simp; omega
          go_wp2
          go_ret
          exact ⟨ret_bool HK.out.symm, q, rfl⟩
        · have d1 : decide ((97 : Int) ≤ (c : Int)) = false := by simp; omega
          have d3 : (48 : Int) ≤ (c : Int) := by omega
          have d4 : decide ((c : Int) ≤ 57) = false := by simp; omega
          go_wp2
          go_ret
          exact ⟨ret_bool HK.out.symm, q, rfl⟩
        · have d1 : decide ((97 : Int) ≤ (c : Int)) = false := by simp; omega
          have d3 : decide ((48 : Int) ≤ (c : Int)) = false := by simp; omega
          go_wp2
          go_ret
          exact ⟨ret_bool HK.out.symm, q, rfl⟩
    · have hge : (bs.size : Int) ≤ (k : Int) := by omega
      have HK : Hid (s.all (fun b => byteOk stars b.toNat) = true) := by
        have := HA.out
        rw [List.take_of_length_le (by omega)] at this
        exact this
      clear HA
      go_wp2
      go_ret
      exact ⟨ret_bool HK.out.symm, q, rfl⟩
end Go.Proofs.YtigcogfjclohjaaGreatDoor
