/- What is clean stays so: the plain facts, the closed fact 'pathed', and the walk of PathStays. -/
import Derived.Test.YtpkkhabiheobnaaDoorDir
namespace Go.Proofs.YtpkkhabiheobnaaDoor
open Go.RowKit Go.Shelf Go.Lib

theorem parts_both (a b : List UInt8) : Kf.parts (a ++ 47 :: b) = Kf.parts a ++ Kf.parts b := by
  induction a with
  | nil => simp [Kf.parts]
  | cons c r ih =>
    simp only [List.cons_append, Kf.parts]
    by_cases hc : c = 47
    · rw [if_pos hc, if_pos hc, ih]; rfl
    · rw [if_neg hc, if_neg hc, ih]
      cases h : Kf.parts r with
      | nil => exact absurd h (Kf.parts_ne r)
      | cons p ps => rfl

theorem name_facts {p : List UInt8} (h : nameK letter (ba p) = true) : p ≠ [] ∧ p.length ≤ 12 ∧ p ≠ [46] ∧ p ≠ [46, 46] := by
  unfold nameK at h
  rw [ba_toList, ba_size] at h
  simp at h
  exact ⟨h.1.1.1.1, h.1.1.1.2, h.1.1.2, h.1.2⟩

theorem path_facts {t : List UInt8} (h : pathB t = true) : (Kf.parts t).length ≤ 5 ∧ ∀ p ∈ Kf.parts t, p ≠ [] ∧ p.length ≤ 12 ∧ p ≠ [46] ∧ p ≠ [46, 46] := by
  unfold pathB allB at h
  rw [Bool.and_eq_true, decide_eq_true_iff, List.all_eq_true] at h
  exact ⟨h.1, fun p hp => name_facts (h.2 p hp)⟩

theorem fold_names : ∀ (l a : List (List UInt8)), (∀ p ∈ l, p ≠ [] ∧ p.length ≤ 12 ∧ p ≠ [46] ∧ p ≠ [46, 46]) → l.foldl Kf.step (some a) = some (a ++ l)
  | [], a, _ => by simp
  | p :: r, a, h => by
    obtain ⟨h1, _, h2, h3⟩ := h p (by simp)
    rw [List.foldl_cons, show Kf.step (some a) p = some (a ++ [p]) by simp [Kf.step, h1, h2, h3], fold_names r _ (fun q hq => h q (by simp [hq]))]
    simp

theorem left_path {t : List UInt8} (h : pathB t = true) : Kf.left (Kf.parts t) = some (Kf.parts t) := by
  have := fold_names (Kf.parts t) [] (path_facts h).2
  simpa [Kf.left] using this

theorem tot_names : ∀ (l : List (List UInt8)), (∀ p ∈ l, p ≠ [] ∧ p.length ≤ 12 ∧ p ≠ [46] ∧ p ≠ [46, 46]) → Kf.tot l ≤ 13 * l.length
  | [], _ => by simp [Kf.tot]
  | p :: r, h => by
    have h1 := (h p (by simp)).2.1
    have := tot_names r (fun q hq => h q (by simp [hq]))
    simp [Kf.tot] at this ⊢
    omega

theorem path_len {t : List UInt8} (h : pathB t = true) : t.length ≤ 64 := by
  have h1 := path_facts h
  have h2 := tot_names _ h1.2
  have h3 := Kf.tot_parts t
  have h4 := h1.1
  omega

theorem clean_path {t : List UInt8} (h : pathB t = true) : clean t = .ok t := by
  have hl := path_len h
  unfold clean
  rw [if_neg (by omega), left_path h]
  simp only
  rw [if_neg (Kf.parts_ne t), Kf.join_parts, if_pos h]

theorem clean_up {t : List UInt8} (h : pathB t = true) : clean (t ++ 47 :: [120, 47, 46, 46]) = .ok t := by
  have hl := path_len h
  have hp : Kf.parts (t ++ 47 :: [120, 47, 46, 46]) = Kf.parts t ++ [[120], [46, 46]] := by rw [parts_both]; rfl
  have hf : Kf.left (Kf.parts t ++ [[120], [46, 46]]) = some (Kf.parts t) := by
    unfold Kf.left
    rw [List.foldl_append, show List.foldl Kf.step (some []) (Kf.parts t) = some (Kf.parts t) from left_path h]
    simp [Kf.step]
  unfold clean
  rw [if_neg (by simp; omega), hp, hf]
  simp only
  rw [if_neg (Kf.parts_ne t), Kf.join_parts, if_pos h]

theorem clean_ok {s t : List UInt8} (h : clean s = .ok t) : pathB t = true := by
  unfold clean at h
  split at h
  · cases h
  · split at h
    · cases h
    · split at h
      · cases h
      · split at h
        · cases h; assumption
        · cases h

theorem pathed_clean : clean [97, 47, 46, 47, 98, 47, 46, 46, 47, 99] = .ok [97, 47, 99] := by kernel_rfl
theorem pathed_split : splitL [97, 47, 99] = ([97], [99]) := by kernel_rfl
theorem pathed_path : pathB [97, 47, 99] = true := by kernel_rfl

set_option maxHeartbeats 1000000 in
theorem pathed_calls (w : World) {aB aS aN aE : Addr} (hE : Errs w aB aS aN aE) :
    Calls Tryd.prog 12 #[] w fun e w' => e = .returned (.bool true) ∧ Below w.heap.size w w' := by
  go_enter Tryd.func12, Tryd.ntmps12
  go_wp2_with fail
  have hc := Clean_calls [97, 47, 46, 47, 98, 47, 46, 46, 47, 99] w hE
  rw [pathed_clean] at hc
  refine hc.mono ?_
  rintro e w1 ⟨rfl, hb⟩
  clear hc
  simp only [cleanV]
  go_wp2_with fail
  have hl := Last_yes [97, 47, 99] (by decide) pathed_path w1
  rw [pathed_split] at hl
  refine hl.mono ?_
  rintro e w2 ⟨rfl, hb2⟩
  clear hl
  go_wp2
  go_ret
  exact ⟨rfl, hb.trans (hb2.mono hb.size)⟩

set_option maxHeartbeats 1000000 in
theorem PathStays_long (s : ByteArray) (hs : 250 < s.size) (w : World) {aB aS aN aE : Addr} (hE : Errs w aB aS aN aE) :
    Calls Tryd.prog 5 #[.string s] w fun e w' => e = .returned (.bool true) ∧ Below w.heap.size w w' := by
  have hz : (250 : Int) < (s.size : Int) := by omega
  go_enter Tryd.func5, Tryd.ntmps5
  go_wp2_with fail
  refine (pathed_calls w hE).mono ?_
  rintro e w1 ⟨rfl, hb⟩
  go_wp2
  go_ret
  exact ⟨rfl, hb⟩

set_option maxHeartbeats 2000000 in
theorem PathStays_short (s : List UInt8) (hs : s.length ≤ 250) (w : World) {aB aS aN aE : Addr} (hE : Errs w aB aS aN aE) :
    Calls Tryd.prog 5 #[.string (ba s)] w fun e w' => e = .returned (.bool true) ∧ Below w.heap.size w w' := by
  have hz : ((ba s).size : Int) ≤ 250 := by rw [ba_size]; omega
  have hz' : (s.length : Int) ≤ 250 := by omega
  go_enter Tryd.func5, Tryd.ntmps5
  go_wp2_with fail
  refine (pathed_calls w hE).mono ?_
  rintro e w1 ⟨rfl, hb1⟩
  have hE1 := hE.below hb1
  go_wp2_with fail
  refine (Clean_calls s w1 hE1).mono ?_
  rintro e w2 ⟨rfl, hb2'⟩
  have hb2 := hb1.trans (hb2'.mono hb1.size)
  have hE2 := hE1.below hb2'
  clear hE1 hb2' hE hb1
  cases hcl : clean s with
  | error k =>
    simp only [cleanV, errV]
    generalize (if k = 2 then aB else if k = 3 then aS else if k = 6 then aE else aN) = ak
    clear hcl
    go_wp2
    go_ret
    exact ⟨rfl, hb2⟩
  | ok t =>
    have hp := clean_ok hcl
    have hlen := path_len hp
    have HP : Hid (pathB t = true) := hp
    clear hcl hp
    simp only [cleanV]
    go_wp2_with fail
    have hc := Clean_calls t w2 hE2
    rw [clean_path HP.out] at hc
    refine hc.mono ?_
    rintro e w3 ⟨rfl, hb3'⟩
    have hb3 := hb2.trans (hb3'.mono hb2.size)
    have hE3 := hE2.below hb3'
    clear hc hE2 hb3' hb2
    simp only [cleanV]
    go_wp2_with fail
    refine (Check_yes t (by omega) HP.out _).mono ?_
    rintro e w4 ⟨rfl, hb4'⟩
    have hb4 := hb3.trans (hb4'.mono hb3.size)
    have hE4 := hE3.below hb4'
    clear hE3 hb4' hb3
    go_wp2_with fail
    refine (Dir_yes t (by omega) HP.out _).mono ?_
    rintro e w5 ⟨rfl, hb5'⟩
    have hb5 := hb4.trans (hb5'.mono hb4.size)
    have hE5 := hE4.below hb5'
    clear hE4 hb5' hb4
    have HB : Hid ((splitL t).1 ≠ [] → (splitL t).1 ++ 47 :: (splitL t).2 = t) := splitL_back t
    have HD : Hid (∀ W, Calls Tryd.prog 19 #[.string (ba t)] W fun e w' => e = .returned (.string (ba (splitL t).1)) ∧ Below W.heap.size W w') := fun W => Dir_yes t (by omega) HP.out W
    have HL : Hid (∀ W, Calls Tryd.prog 20 #[.string (ba t)] W fun e w' => e = .returned (.string (ba (splitL t).2)) ∧ Below W.heap.size W w') := fun W => Last_yes t (by omega) HP.out W
    generalize (splitL t).1 = d at *
    generalize (splitL t).2 = l at *
    by_cases hd : d = []
    · subst hd
      clear HB HD HL
      go_wp2_with fail
      have hj := Join_calls t [120, 47, 46, 46] (by omega) (by decide) w5 hE5
      rw [clean_up HP.out] at hj
      refine hj.mono ?_
      rintro e w6 ⟨rfl, hb6⟩
      clear hj
      simp only [cleanV]
      go_wp2
      go_ret
      exact ⟨rfl, hb5.trans (hb6.mono hb5.size)⟩
    · have hd' : d.isEmpty = false := by simpa using hd
      have hdl : d.length + 1 + l.length = t.length := by
        have := congrArg List.length (HB.out hd)
        simp at this; omega
      have hd1 : d.length ≤ 1000000 := by omega
      have hl1 : l.length ≤ 1000000 := by omega
      clear hdl
      go_wp2_with fail
      refine (HD.out _).mono ?_
      rintro e w6 ⟨rfl, hb6'⟩
      have hb6 := hb5.trans (hb6'.mono hb5.size)
      have hE6 := hE5.below hb6'
      clear hE5 hb6' hb5
      go_wp2_with fail
      refine (HL.out _).mono ?_
      rintro e w7 ⟨rfl, hb7'⟩
      have hb7 := hb6.trans (hb7'.mono hb6.size)
      have hE7 := hE6.below hb7'
      clear hE6 hb7' hb6
      go_wp2_with fail
      rw [show ba d ++ { data := #[47] } ++ ba l = ba t by rw [show (ByteArray.mk #[47]) = ba [47] from rfl, ba_append, ba_append, ← HB.out hd]; simp]
      have hj := Join_calls t [120, 47, 46, 46] (by omega) (by decide) w7 hE7
      rw [clean_up HP.out] at hj
      refine hj.mono ?_
      rintro e w8 ⟨rfl, hb8⟩
      clear hj
      simp only [cleanV]
      go_wp2
      go_ret
      exact ⟨rfl, hb7.trans (hb8.mono hb7.size)⟩

theorem PathStays_calls (s : ByteArray) (w : World) {aB aS aN aE : Addr} (hE : Errs w aB aS aN aE) :
    Calls Tryd.prog 5 #[.string s] w fun e w' => e = .returned (.bool true) ∧ Below w.heap.size w w' := by
  rcases Nat.lt_or_ge 250 s.size with h | h
  · exact PathStays_long s h w hE
  · have e : s = ba s.data.toList := ba_eq rfl
    rw [e]
    exact PathStays_short s.data.toList (by rw [e, ba_size] at h; exact h) w hE
end Go.Proofs.YtpkkhabiheobnaaDoor
