/- The walks of package act's count, and of the functions of its kinds: join, count, write; and of the words that they take. -/
import Derived.Test.YtigcogfjclohjaaGreatDoorASort
namespace Go.Proofs.YtigcogfjclohjaaGreatDoor
open Go.RowKit Go.Shelf Go.Lib
open Go.Sort (grow Holds putRow)

/-- How many bytes. -/
def Af.bytes (ls : List (List UInt8)) : Nat := (ls.map List.length).sum
/-- What count makes. -/
def Af.count (ls : List (List UInt8)) : List UInt8 := Lib.decDigits (Af.all ls).length ++ 32 :: (Lib.decDigits (Af.bytes ls) ++ [10])
theorem bytes_take {ls : List (List UInt8)} {k : Nat} (hk : k < ls.length) : Af.bytes (ls.take (k + 1)) = Af.bytes (ls.take k) + ls[k].length := by
  unfold Af.bytes
  rw [List.take_succ_eq_append_getElem hk, List.map_append, List.sum_append]
  simp only [List.map_cons, List.map_nil, List.sum_cons, List.sum_nil, Nat.add_zero]
theorem digits_len2 (n : Nat) (h : n ≤ 1000000000) : (Lib.decDigits n).length ≤ 21 := by
  have := Lib.itoa_length_le (n : Int) (by omega) (by omega)
  rwa [Lib.itoa_nonneg] at this
theorem bytes_le {ls : List (List UInt8)} (h : ∀ x ∈ ls, x.length ≤ 100000) : ∀ k, k ≤ ls.length → Af.bytes (ls.take k) ≤ k * 100000
  | 0, _ => by simp [Af.bytes]
  | k + 1, hk => by
    have ih := bytes_le h k (by omega)
    rw [bytes_take (by omega)]
    have h2 := h _ (List.getElem_mem (show k < ls.length by omega))
    omega
theorem itoa_calls (n : Nat) (hn : n ≤ 1000000000) {w W : World} (hP : Pow w) (hW : Below w.heap.size w W) : Calls Tryz.prog 42 #[.int .i64 n] W fun e w' => e = .returned (.string (ba (Lib.decDigits n))) ∧ Below W.heap.size W w' := by
  refine (Tryz.strconv_Itoa (n : Int) (by omega) (by omega) W (pow_below hP hW)).mono ?_
  rintro e w' ⟨rfl, k, os, rfl⟩
  rw [Lib.itoa_nonneg]
  exact ⟨rfl, below_grow W k os⟩

set_option maxRecDepth 100000 in
set_option maxHeartbeats 4000000 in
theorem count_calls (v : Value) (ls : List (List UInt8)) (hn : ls.length ≤ 1000) (hx : ∀ x ∈ ls, x.length ≤ 100000) (m : Int) (w : World) (hrow : TRow w v ls) (hm : w.cell? ⟨14, 0, none⟩ = some (.int .i64 m)) (hP : Pow w) :
    Calls Tryz.prog 109 #[v] w fun e w' => e = .returned (.string (ba (Af.count ls))) ∧ Below w.heap.size w w' := by
  have HA := hid1 (allLines_calls v ls hn hx m w hrow hm)
  have HI := hid1 (fun (n : Nat) (hn : n ≤ 1000000000) (W : World) (hW : Below w.heap.size w W) => itoa_calls n hn hP hW)
  have hal : (Af.all ls).length ≤ 100000000 := by
    have := all_len hx ls.length (Nat.le_refl _)
    rw [List.take_length] at this
    omega
  have hby := bytes_le hx
  have HQ : Hid (Af.count ls = Lib.decDigits (Af.all ls).length ++ 32 :: (Lib.decDigits (Af.bytes ls) ++ [10])) := rfl
  generalize Af.count ls = out at *
  obtain ⟨pa, cap, rfl, hcap, hin⟩ := hrow
  have hR : Hid (∀ k (hk : k < ls.length), ∃ g, pa = some ⟨g, 0, none⟩ ∧ w.cell? ⟨g, k, none⟩ = some (.string (ba ls[k]))) := fun k hk => by
    obtain ⟨g, cur, rfl, hg, hcur⟩ := hin (by intro e; rw [e] at hk; simp at hk)
    exact ⟨g, rfl, cell_of_row hg (hcur k hk)⟩
  have hzn : (ls.length : Int) ≤ 1000 := by omega
  clear hin hm hP
  go_enter Tryz.func109, Tryz.ntmps109
  go_wp2
  go_loopw [3, 8] (fun b i wr => ∃ k : Nat, k ≤ ls.length ∧ i = .int .i64 k ∧ b = .int .i64 (Af.bytes (ls.take k)) ∧ wr = w) (fun _ i _ => ls.length - (intOf i).toNat)
  case atStart => exact ⟨0, Nat.zero_le _, rfl, rfl, rfl⟩
  case round =>
    obtain ⟨k, hk, rfl, rfl, rfl⟩ := hrel
    by_cases hlt : k < ls.length
    · have c1 : (k : Int) < (ls.length : Int) := by omega
      have c0 : (0 : Int) ≤ (k : Int) := by omega
      obtain ⟨g, rfl, hcell⟩ := hR.out k hlt
      have HB : Hid (Af.bytes (ls.take (k + 1)) = Af.bytes (ls.take k) + ls[k].length) := bytes_take hlt
      have hb1 := hby (k + 1) (by omega)
      rw [HB.out] at hb1
      generalize ls[k] = x at *
      generalize Af.bytes (ls.take k) = b at *
      have z1 : (0 : Int) ≤ (b : Int) := by omega
      have z2 : (b : Int) + (x.length : Int) ≤ 100000000 := by omega
      have z3 : (0 : Int) ≤ (x.length : Int) := by omega
      have hsz : ((ba x).size : Int) = (x.length : Int) := by rw [ba_size]
      go_wp2
      go_roundw
      case rel => exact ⟨k + 1, by omega, by go_num, by rw [HB.out]; go_num, trivial⟩
      case measure => simp [intOf]; omega
    · have c1 : (ls.length : Int) ≤ (k : Int) := by omega
      obtain rfl : k = ls.length := by omega
      have hb1 := hby ls.length (Nat.le_refl _)
      rw [List.take_length] at hb1 ⊢
      go_wp2_with fail
      refine Calls.mono HA.out ?_
      rintro e w1 ⟨v1, rfl, hown, g1⟩
      obtain ⟨p1, cap1, rfl, _, _⟩ := TRow.of_owns hown
      have H1 := HI.out (Af.all ls).length (by omega) w1 g1
      have hdA := digits_len2 (Af.all ls).length (by omega)
      have hdB := digits_len2 (Af.bytes ls) (by omega)
      have zA : ((ba (Lib.decDigits (Af.all ls).length)).size : Int) ≤ 21 := by rw [ba_size]; omega
      have zB : ((ba (Lib.decDigits (Af.bytes ls))).size : Int) ≤ 21 := by rw [ba_size]; omega
      clear hown HA
      generalize Af.all ls = A at *
      generalize Af.bytes ls = b at *
      go_wp2_with fail
      refine Calls.mono H1 ?_
      rintro e w2 ⟨rfl, g2⟩
      have G2 := g1.trans (g2.mono g1.size)
      have H2 := HI.out b (by omega) w2 G2
      clear H1
      go_wp2_with fail
      refine Calls.mono H2 ?_
      rintro e w3 ⟨rfl, g3⟩
      have ecat : ba (Lib.decDigits A.length) ++ { data := #[32] } ++ ba (Lib.decDigits b) ++ { data := #[10] } = ba out := by
        rw [show (ByteArray.mk #[32]) = ba [32] from rfl, show (ByteArray.mk #[10]) = ba [10] from rfl, HQ.out]
        simp only [ba_append]
        simp
      clear H2
      go_wp2
      go_ret
      exact ⟨rfl, G2.trans (g3.mono G2.size)⟩

set_option maxHeartbeats 2000000 in
theorem kcount_calls (word : ByteArray) (v : Value) (ls : List (List UInt8)) (hn : ls.length ≤ 1000) (hx : ∀ x ∈ ls, x.length ≤ 100000) (m : Int) (w : World) (hrow : TRow w v ls) (hm : w.cell? ⟨14, 0, none⟩ = some (.int .i64 m)) (hP : Pow w) :
    Calls Tryz.prog 108 #[.string word, v] w fun e w' => e = .returned (.string (ba (Af.count ls))) ∧ Below w.heap.size w w' := by
  have HA := hid1 (count_calls v ls hn hx m w hrow hm hP)
  clear hm hP hrow
  go_enter Tryz.func108, Tryz.ntmps108
  go_wp2_with fail
  refine Calls.mono HA.out ?_
  rintro e w1 ⟨rfl, g1⟩
  go_wp2
  go_ret
  exact ⟨rfl, g1⟩

theorem join_list (xs : List (List UInt8)) : (xs.map ba).map (·.data.toList) = xs := by
  rw [List.map_map]
  conv => rhs; rw [← List.map_id xs]
  exact List.map_congr_left fun x _ => rfl
set_option maxHeartbeats 2000000 in
theorem kjoin_calls (wd : List UInt8) (v : Value) (ls : List (List UInt8)) (hn : ls.length ≤ 1000) (hl : (Lib.join ls wd).length ≤ 1000000000) (w : World) (hrow : TRow w v ls) :
    Calls Tryz.prog 100 #[.string (ba wd), v] w fun e w' => e = .returned (.string (ba (Lib.join ls wd))) ∧ Below w.heap.size w w' := by
  have HJ : Hid (Calls Tryz.prog 101 #[v, .string (ba wd)] w fun e w' => e = .returned (.string (ba (Lib.join ls wd))) ∧ Below w.heap.size w w') := by
    obtain ⟨pa, cap, rfl, hcap, hin⟩ := hrow
    by_cases h0 : ls = []
    · subst h0
      refine hid1 ((Any.strings_Join_none Tryz.lays156 Tryz.Builder_Extra_156 pa cap (ba wd) w).mono ?_)
      rintro e w' ⟨rfl, rfl⟩
      exact ⟨rfl, Below.refl _ _⟩
    · obtain ⟨g, cur, rfl, hg, hcur⟩ := hin h0
      have := Tryz.strings_Join g 0 cap (ls.map ba) (ba wd) w (fun j x hj => by
        have hjl : j < ls.length := by simpa using (List.getElem?_eq_some_iff.1 hj).1
        rw [List.getElem?_map, List.getElem?_eq_getElem hjl] at hj
        simp at hj
        rw [Nat.zero_add, ← hj]
        exact cell_of_row hg (hcur j hjl)) (Array.getElem?_eq_some_iff.1 hg).1 (by simp; omega) (by simpa using hcap) (by rw [join_list]; show (Lib.join ls wd).length ≤ _; omega)
      rw [join_list, List.length_map] at this
      exact this
  clear hrow
  go_enter Tryz.func100, Tryz.ntmps100
  go_wp2_with fail
  refine Calls.mono HJ.out ?_
  rintro e w1 ⟨rfl, g1⟩
  go_wp2
  go_ret
  exact ⟨rfl, g1⟩

set_option maxHeartbeats 2000000 in
theorem kwrite_calls (word : ByteArray) (v : Value) (w : World) :
    Calls Tryz.prog 99 #[.string word, v] w fun e w' => e = .returned (.string word) ∧ Below w.heap.size w w' := by
  go_enter Tryz.func99, Tryz.ntmps99
  go_wp2
  go_ret
  exact ⟨rfl, Below.refl _ _⟩
set_option maxHeartbeats 2000000 in
theorem anyWord_calls (word : ByteArray) (w : World) :
    Calls Tryz.prog 98 #[.string word] w fun e w' => e = .returned (.bool true) ∧ Below w.heap.size w w' := by
  go_enter Tryz.func98, Tryz.ntmps98
  go_wp2
  go_ret
  exact ⟨rfl, Below.refl _ _⟩

set_option maxRecDepth 100000 in
set_option maxHeartbeats 2000000 in
theorem among_calls (wd : List UInt8) (words : List (List UInt8)) (b g : Nat) (w : World) (hb : w.cell? ⟨b, 0, none⟩ = some (.slice (some ⟨g, 0, none⟩) words.length words.length)) (hw : words.length ≤ 1000)
    (hc : ∀ j (hj : j < words.length), w.cell? ⟨g, j, none⟩ = some (.string (ba words[j]))) :
    Calls Tryz.prog 140 #[.string (ba wd), .pointer (some ⟨b, 0, none⟩)] w fun e w' => e = .returned (.bool (decide (wd ∈ words))) ∧ Below w.heap.size w w' := by
  have HC : Hid (Calls Tryz.prog 141 #[.slice (some ⟨g, 0, none⟩) words.length words.length, .string (ba wd)] w fun e w' => e = .returned (.bool (decide (wd ∈ words))) ∧ w' = w) := by
    have := Tryz.slices_Contains_string g 0 words.length words.length (words.map ba) (ba wd) w (by simp) (by omega) (fun j hj => by
      have hjl : j < words.length := by simpa using hj
      rw [Nat.zero_add, hc j hjl]
      simp [hjl])
    rw [List.take_of_length_le (by simp)] at this
    have e : Lib.containsS (words.map ba) (ba wd) = decide (wd ∈ words) := by
      rw [Bool.eq_iff_iff, Lib.containsS_iff, decide_eq_true_iff]
      simp only [List.mem_map]
      constructor
      · rintro ⟨x, hx, e⟩
        have : x = wd := by
          have := congrArg (·.data.toList) e
          simpa [ba] using this
        rw [← this]
        exact hx
      · exact fun h => ⟨wd, h, rfl⟩
    rw [e] at this
    exact this
  generalize decide (wd ∈ words) = r at *
  clear hc
  go_enter Tryz.func140, Tryz.ntmps140
  go_wp2_with fail
  refine Calls.mono HC.out ?_
  rintro e w1 ⟨rfl, rfl⟩
  go_wp2
  go_ret
  exact ⟨rfl, Below.refl _ _⟩
end Go.Proofs.YtigcogfjclohjaaGreatDoor
