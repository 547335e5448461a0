/- The library's functions over slices of numbers: the walks. -/
import Derived.Test.YtmeplgihnlpjcaaGreatDoorMG2

namespace Go.Proofs.YtmeplgihnlpjcaaGreatDoor
open Go.RowKit Go.Shelf Go.Lib

set_option maxRecDepth 100000 in
set_option maxHeartbeats 4000000 in
/-- slices.Index over numbers. -/
theorem slIndexI_calls {w : World} (v : Value) (l : List Nat) (x : Nat) (hrow : NIRow w v l) (hl : l.length ≤ 1000000) :
    Calls Tryz.prog 70 #[v, nv x] w fun e w' => ∃ r : Int, e = .returned (.int .i64 r) ∧ w' = w ∧ ((r = -1 ∧ x ∉ l) ∨ ∃ k : Nat, r = k ∧ x ∈ l) := by
  obtain ⟨p, cap, rfl, hin⟩ := hrow
  have HI := hid1 hin
  clear hin
  have zl : (l.length : Int) ≤ 1000000 := by omega
  go_enter Tryz.func70, Tryz.ntmps70
  go_wp2
  go_loopw [8] (fun i wr => ∃ k : Nat, k ≤ l.length ∧ i = .int .i64 k ∧ x ∉ l.take k ∧ w = wr) (fun i _ => l.length - (intOf i).toNat)
  case atStart => exact ⟨0, Nat.zero_le _, rfl, by simp, rfl⟩
  case round =>
    obtain ⟨k, hk, rfl, hz, rfl⟩ := hrel
    have HZ := hid1 hz
    clear hz
    have c0 : (0 : Int) ≤ (k : Int) := by omega
    by_cases hlt : k < l.length
    · have c1 : (k : Int) < (l.length : Int) := by omega
      obtain ⟨g', o, rfl, hg, hcur⟩ := HI.out (by intro e; rw [e] at hlt; simp at hlt)
      have hcell := hcur k hlt
      have HT : Hid (l[k] ≠ x → x ∉ l.take (k + 1)) := hid1 fun hne => by
        rw [List.take_succ_eq_append_getElem hlt]
        simp only [List.mem_append, List.mem_singleton, not_or]
        exact ⟨HZ.out, fun e => hne e.symm⟩
      have HP : Hid (l[k] = x → x ∈ l) := hid1 fun he => he ▸ List.getElem_mem hlt
      clear hcur HI HZ
      generalize l[k] = y at *
      by_cases he : y = x
      · subst he
        have HPP := hid1 (HP.out rfl)
        clear HP HT
        go_wp2
        go_ret
        exact ⟨_, rfl, rfl, .inr ⟨k, rfl, HPP.out⟩⟩
      · have e0 : ¬ x = y := fun e => he e.symm
        have e1 : ((x : Int) == (y : Int)) = false := by simp; omega
        have HTT := hid1 (HT.out he)
        clear HP HT
        go_wp2
        exact ⟨⟨k + 1, by omega, by go_num, HTT.out, trivial⟩, by simp [intOf]; omega⟩
    · have c1 : (l.length : Int) ≤ (k : Int) := by omega
      have HN : Hid (x ∉ l) := hid1 (by
        have := HZ.out
        rwa [List.take_of_length_le (by omega)] at this)
      clear HI HZ
      go_wp2
      go_ret
      exact ⟨_, rfl, rfl, .inl ⟨rfl, HN.out⟩⟩

set_option maxRecDepth 100000 in
set_option maxHeartbeats 4000000 in
/-- slices.Contains over numbers. -/
theorem slContainsI_calls {w : World} (v : Value) (l : List Nat) (x : Nat) (hrow : NIRow w v l) (hl : l.length ≤ 1000000) :
    Calls Tryz.prog 48 #[v, nv x] w fun e w' => e = .returned (.bool (decide (x ∈ l))) ∧ w' = w := by
  have HC := hid1 (slIndexI_calls v l x hrow hl)
  obtain ⟨p, cap, rfl, hin⟩ := hrow
  clear hin
  have HD : Hid (∀ b : Bool, (b = true ↔ x ∈ l) → decide (x ∈ l) = b) := hid1 fun b hb => by
    rw [Bool.eq_iff_iff, hb]
    simp
  generalize decide (x ∈ l) = d at *
  go_enter Tryz.func48, Tryz.ntmps48
  go_wp2_with fail
  refine HC.out.mono ?_
  rintro e w1 ⟨r, rfl, rfl, h⟩
  rcases h with ⟨rfl, h⟩ | ⟨k, rfl, h⟩
  · obtain rfl := HD.out false (by simp [h])
    clear HD HC h
    go_wp2
    go_ret
    exact ⟨rfl, rfl⟩
  · have z : (0 : Int) ≤ (k : Int) := by omega
    obtain rfl := HD.out true (by simp [h])
    clear HD HC h
    go_wp2
    go_ret
    exact ⟨rfl, rfl⟩

set_option maxRecDepth 100000 in
set_option maxHeartbeats 4000000 in
/-- slices.IndexFunc over numbers. -/
theorem indexFuncI_calls {w : World} (v : Value) (l : List Nat) (hrow : NIRow w v l) (hl : l.length ≤ 1000000) (f : Nat) (caps : Array Value) (eg : ∀ args w, (callFunc f args).run Tryz.prog w = .ok (.enter f args) w) (b : Nat → Bool)
    (HS : Hid (∀ x ∈ l, ∀ W, Below w.heap.size w W → Calls Tryz.prog f (#[nv x] ++ caps) W fun e w' => e = .returned (.bool (b x)) ∧ Below W.heap.size W w')) :
    Calls Tryz.prog 44 #[v, .func (.func f) #[] caps] w fun e w' => ∃ r : Int, e = .returned (.int .i64 r) ∧ Below w.heap.size w w' ∧ ((r = -1 ∧ ∀ x ∈ l, b x = false) ∨ ∃ k : Nat, r = k ∧ ∃ h : k < l.length, b l[k] = true ∧ ∀ x ∈ l.take k, b x = false) := by
  obtain ⟨p, cap, rfl, hin⟩ := hrow
  have HI := hid1 hin
  clear hin
  have zl : (l.length : Int) ≤ 1000000 := by omega
  go_enter Tryz.func44, Tryz.ntmps44
  go_wp2
  go_loopw [8] (fun i wr => ∃ k : Nat, k ≤ l.length ∧ i = .int .i64 k ∧ (∀ x ∈ l.take k, b x = false) ∧ Below w.heap.size w wr) (fun i _ => l.length - (intOf i).toNat)
  case atStart => exact ⟨0, Nat.zero_le _, rfl, by simp, Below.refl _ _⟩
  case round =>
    obtain ⟨k, hk, rfl, hz, hB⟩ := hrel
    have HZ := hid1 hz
    clear hz
    have c0 : (0 : Int) ≤ (k : Int) := by omega
    by_cases hlt : k < l.length
    · have c1 : (k : Int) < (l.length : Int) := by omega
      obtain ⟨g', o, rfl, hg, hcur⟩ := HI.out (by intro e; rw [e] at hlt; simp at hlt)
      have d0 := (hB.cell (p := ⟨g', o + k, none⟩) hg).trans (hcur k hlt)
      have HC := HS.out l[k] (List.getElem_mem hlt) wr hB
      have HN : Hid (b l[k] = false → ∀ x ∈ l.take (k + 1), b x = false) := hid1 fun h x hx => by
        rw [List.take_succ_eq_append_getElem hlt] at hx
        rcases List.mem_append.1 hx with h1 | h1
        · exact HZ.out x h1
        · rw [List.mem_singleton.1 h1]; exact h
      have HP : Hid (b l[k] = true → ∃ j : Nat, (k : Int) = j ∧ ∃ h : j < l.length, b l[j] = true ∧ ∀ x ∈ l.take j, b x = false) := hid1 fun h => ⟨k, rfl, hlt, h, HZ.out⟩
      clear hcur HI HS HZ
      generalize l[k] = y at *
      cases hc : b y with
      | false =>
        rw [hc] at HC
        have HN2 := hid1 (HN.out hc)
        clear hc HN HP
        go_wp2_with fail
        refine Calls.mono HC ?_
        rintro e w1 ⟨rfl, hb1⟩
        clear HC
        go_wp2
        exact ⟨⟨k + 1, by omega, by go_num, HN2.out, below_then hB hb1⟩, by simp [intOf]; omega⟩
      | true =>
        rw [hc] at HC
        have HE := hid1 (HP.out hc)
        clear hc HN HP
        go_wp2_with fail
        refine Calls.mono HC ?_
        rintro e w1 ⟨rfl, hb1⟩
        clear HC
        go_wp2
        go_ret
        exact ⟨_, rfl, below_then hB hb1, .inr HE.out⟩
    · have c1 : (l.length : Int) ≤ (k : Int) := by omega
      have HN : Hid (∀ x ∈ l, b x = false) := hid1 fun x hx => HZ.out x (by rwa [List.take_of_length_le (by omega)])
      clear HI HS HZ
      go_wp2
      go_ret
      exact ⟨_, rfl, hB, .inl ⟨rfl, HN.out⟩⟩

set_option maxRecDepth 100000 in
set_option maxHeartbeats 4000000 in
/-- slices.ContainsFunc over numbers. -/
theorem containsFuncI_calls {w : World} (v : Value) (l : List Nat) (hrow : NIRow w v l) (hl : l.length ≤ 1000000) (f : Nat) (caps : Array Value) (eg : ∀ args w, (callFunc f args).run Tryz.prog w = .ok (.enter f args) w) (b : Nat → Bool)
    (HS : Hid (∀ x ∈ l, ∀ W, Below w.heap.size w W → Calls Tryz.prog f (#[nv x] ++ caps) W fun e w' => e = .returned (.bool (b x)) ∧ Below W.heap.size W w')) :
    Calls Tryz.prog 68 #[v, .func (.func f) #[] caps] w fun e w' => e = .returned (.bool (l.any b)) ∧ Below w.heap.size w w' := by
  have HC := hid1 (indexFuncI_calls v l hrow hl f caps eg b HS)
  obtain ⟨p, cap, rfl, hin⟩ := hrow
  clear hin HS
  have HD : Hid (∀ d : Bool, (d = true ↔ ∃ x ∈ l, b x = true) → l.any b = d) := hid1 fun d hd => by
    rw [Bool.eq_iff_iff, hd, List.any_eq_true]
  generalize l.any b = d at *
  go_enter Tryz.func68, Tryz.ntmps68
  go_wp2_with fail
  refine HC.out.mono ?_
  rintro e w1 ⟨r, rfl, hb, h⟩
  rcases h with ⟨rfl, h⟩ | ⟨k, rfl, hk, h, _⟩
  · obtain rfl := HD.out false (by
      simp
      intro x hx
      simpa using h x hx)
    clear HD HC h
    go_wp2
    go_ret
    exact ⟨rfl, hb⟩
  · have z : (0 : Int) ≤ (k : Int) := by omega
    obtain rfl := HD.out true (by
      simp
      exact ⟨_, List.getElem_mem hk, h⟩)
    clear HD HC h
    go_wp2
    go_ret
    exact ⟨rfl, hb⟩

set_option maxRecDepth 100000 in
set_option maxHeartbeats 4000000 in
theorem grmeet1_calls {w : World} (x : Nat) (b : Nat) (v : Value) (l : List Nat) (hb : w.cell? ⟨b, 0, none⟩ = some v) (hrow : NIRow w v l) (hl : l.length ≤ 1000000) :
    Calls Tryz.prog 69 #[nv x, .pointer (some ⟨b, 0, none⟩)] w fun e w' => e = .returned (.bool (decide (x ∈ l))) ∧ Below w.heap.size w w' := by
  have HC := hid1 (slContainsI_calls v l x hrow hl)
  obtain ⟨p, cap, rfl, hin⟩ := hrow
  clear hin
  generalize decide (x ∈ l) = d at *
  go_enter Tryz.func69, Tryz.ntmps69
  go_wp2_with fail
  refine HC.out.mono ?_
  rintro e w1 ⟨rfl, rfl⟩
  clear HC
  go_wp2
  go_ret
  exact ⟨rfl, Below.refl _ _⟩

set_option maxRecDepth 100000 in
set_option maxHeartbeats 4000000 in
/-- Have two lists a number in common? -/
theorem grmeet_calls {w : World} (va vb : Value) (la lb : List Nat) (ha : NIRow w va la) (hb : NIRow w vb lb) (hla : la.length ≤ 1000000) (hlb : lb.length ≤ 1000000) :
    Calls Tryz.prog 46 #[va, vb] w fun e w' => e = .returned (.bool (la.any fun x => decide (x ∈ lb))) ∧ Below w.heap.size w w' := by
  have hB0 : Below w.heap.size w (w.alloc (.cells #[vb] 25)) := (Below.refl _ w).alloc (Nat.le_refl _) _
  have hv0 : (w.alloc (.cells #[vb] 25)).cell? ⟨w.heap.size, 0, none⟩ = some vb := by simp
  have HC := hid1 (containsFuncI_calls (w := w.alloc (.cells #[vb] 25)) va la (ha.below hB0) hla 69 #[.pointer (some ⟨w.heap.size, 0, none⟩)] (enters_of Tryz.func69 (by kernel_rfl) rfl) (fun x => decide (x ∈ lb))
    (hid1 fun x _ W g => grmeet1_calls x w.heap.size vb lb (cell_below' hv0 g) ((hb.below hB0).below g) hlb))
  obtain ⟨pa, ca, rfl, -⟩ := ha
  obtain ⟨pb, cb, rfl, -⟩ := hb
  clear hv0
  generalize (la.any fun x => decide (x ∈ lb)) = d at *
  go_enter Tryz.func46, Tryz.ntmps46
  go_wp2_with fail
  refine HC.out.mono ?_
  rintro e w1 ⟨rfl, g⟩
  have g1 := below_then hB0 g
  clear HC
  go_wp2
  go_ret
  exact ⟨rfl, g1⟩

/-- A list with a number that is in it once. -/
def withN (l : List Nat) (x : Nat) : List Nat := if x ∈ l then l else l ++ [x]
theorem withN_mem (l : List Nat) (x y : Nat) : y ∈ withN l x ↔ y ∈ l ∨ y = x := by
  unfold withN
  split
  · rename_i h
    constructor
    · exact .inl
    · rintro (h1 | rfl)
      · exact h1
      · exact h
  · simp
theorem withN_once {l : List Nat} (h : l.Nodup) (x : Nat) : (withN l x).Nodup := by
  unfold withN
  split
  · exact h
  · rename_i hx
    rw [List.nodup_append]
    exact ⟨h, by simp, fun a ha b hb => by
      rw [List.mem_singleton.1 hb]
      rintro rfl
      exact hx ha⟩
theorem withN_take (l : List Nat) (x k : Nat) (hk : k ≤ l.length) : (withN l x).take k = l.take k := by
  unfold withN
  split
  · rfl
  · rw [List.take_append_of_le_length hk]
theorem withN_len (l : List Nat) (x : Nat) : l.length ≤ (withN l x).length := by
  unfold withN
  split
  · exact Nat.le_refl _
  · simp
end Go.Proofs.YtmeplgihnlpjcaaGreatDoor
