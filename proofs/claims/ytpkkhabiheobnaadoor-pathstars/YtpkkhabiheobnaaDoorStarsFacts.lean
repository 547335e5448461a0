/- Plain facts for PathStars: which patterns are well, and fit. -/
import Derived.Test.YtpkkhabiheobnaaDoorStarsSpec
namespace Go.Proofs.YtpkkhabiheobnaaDoor
open Go.RowKit Go.Shelf Go.Lib

theorem okR_of {b : Bool} {s : List UInt8} {l : List (List UInt8)} (e : Kf.parts s = l) (h : l.length ≤ 5) (h' : ∀ p ∈ l, nameR b p = true) : okR b s = true := by
  unfold okR
  rw [e]
  simp only [Bool.and_eq_true, List.all_eq_true, decide_eq_true_eq]
  exact ⟨h, h'⟩

theorem noSlash {s : List UInt8} {k : Nat} (h : ∀ j, k ≤ j → j < (ba s).size → (((ba s).data[j]!).toNat : Int) ≠ 47) : (47 : UInt8) ∉ s.drop k := by
  intro hm
  obtain ⟨j, hj, e⟩ := List.getElem_of_mem hm
  have hj' : k + j < s.length := by simp at hj; omega
  refine h (k + j) (by omega) (by rw [ba_size]; exact hj') ?_
  have h1 : ((ba s).data[k + j]!) = s[k + j] := by
    show (s.toArray)[k + j]! = _
    rw [getElem!_pos _ _ (by simpa using hj')]
    simp
  rw [h1]
  rw [List.getElem_drop] at e
  rw [e]
  rfl

theorem split_last (s : List UInt8) : ∃ l, Kf.parts s = l ++ [(splitL s).2] ∧ Kf.parts (s ++ [42]) = l ++ [(splitL s).2 ++ [42]] := by
  have hb := splitL_back s
  rcases Lib.lastIndexByte_spec (ba s) 47 with ⟨e, h⟩ | ⟨i, hi, e, hc, h⟩
  · have hs : (splitL s).2 = s := by unfold splitL; rw [e]; rfl
    have hn : (47 : UInt8) ∉ s := by simpa using noSlash (k := 0) (fun j _ hj => h j hj)
    refine ⟨[], ?_, ?_⟩
    · rw [hs, Kf.parts_one s hn]; rfl
    · rw [hs, Kf.parts_one (s ++ [42]) (by simp [hn])]; rfl
  · have hn : (47 : UInt8) ∉ s.drop (i + 1) := noSlash (fun j hj hj' => h j (by omega) hj')
    have hi' : i < s.length := by rw [ba_size] at hi; exact hi
    have h1 : ((ba s).data[i]!) = s[i] := by
      show (s.toArray)[i]! = _
      rw [getElem!_pos _ _ (by simpa using hi')]
      simp
    rw [h1] at hc
    have h2 : s[i] = 47 := UInt8.toNat_inj.1 (by have : s[i].toNat = 47 := by omega
                                                 exact this)
    have hs : (splitL s).2 = s.drop (i + 1) := by
      unfold splitL
      rw [e, if_neg (by omega)]
      rfl
    have e1 : s = s.take i ++ 47 :: s.drop (i + 1) := by
      conv => lhs; rw [← List.take_append_drop i s, List.drop_eq_getElem_cons hi', h2]
    rw [hs]
    refine ⟨Kf.parts (s.take i), ?_, ?_⟩
    · conv => lhs; rw [e1]
      rw [parts_both, Kf.parts_one _ hn]
    · conv => lhs; rw [e1]
      rw [List.append_assoc, List.cons_append, parts_both, Kf.parts_one (s.drop (i + 1) ++ [42]) (fun hm => by rcases List.mem_append.1 hm with hm | hm; exact hn hm; exact absurd (List.mem_singleton.1 hm) (by decide))]

theorem st_self {s : List UInt8} (h : okR false s = true) : okR true s = true ∧ fitL 20 (Kf.parts s) (Kf.parts s) = true := by
  obtain ⟨h1, h2⟩ := okR_parts h
  exact ⟨okR_mono s h, fitL_self _ 20 (fun p hp => name_noStar p (h2 p hp)) (by omega)⟩
theorem parts_stars : Kf.parts [42, 42] = [[42, 42]] := by decide
theorem st_any {s : List UInt8} (h : okR false s = true) : okR true [42, 42] = true ∧ fitL 20 (Kf.parts [42, 42]) (Kf.parts s) = true := by
  obtain ⟨h1, h2⟩ := okR_parts h
  refine ⟨by decide, ?_⟩
  rw [parts_stars]
  exact fitL_any _ 20 (by omega)
theorem stars_name : nameR true [42, 42] = true := by decide
theorem st_ahead {s : List UInt8} (h : okR false s = true) (h5 : (Kf.parts s).length < 5) : okR true ([42, 42, 47] ++ s) = true ∧ fitL 20 (Kf.parts ([42, 42, 47] ++ s)) (Kf.parts s) = true := by
  obtain ⟨h1, h2⟩ := okR_parts h
  have e : Kf.parts ([42, 42, 47] ++ s) = [42, 42] :: Kf.parts s := by
    have := parts_both [42, 42] s
    rw [parts_stars] at this
    exact this
  refine ⟨okR_of e (by simp; omega) ?_, ?_⟩
  · intro p hp
    rcases List.mem_cons.1 hp with rfl | hp
    · exact stars_name
    · exact nameR_mono p (h2 p hp)
  · rw [e]
    exact fitL_ahead _ 20 (fun p hp => name_noStar p (h2 p hp)) (by omega)
theorem st_behind {s : List UInt8} (h : okR false s = true) (h5 : (Kf.parts s).length < 5) : okR true (s ++ [47, 42, 42]) = true ∧ fitL 20 (Kf.parts (s ++ [47, 42, 42])) (Kf.parts s) = true := by
  obtain ⟨h1, h2⟩ := okR_parts h
  have e : Kf.parts (s ++ [47, 42, 42]) = Kf.parts s ++ [[42, 42]] := by
    have := parts_both s [42, 42]
    rw [parts_stars] at this
    exact this
  refine ⟨okR_of e (by simp; omega) ?_, ?_⟩
  · intro p hp
    rcases List.mem_append.1 hp with hp | hp
    · exact nameR_mono p (h2 p hp)
    · rw [List.mem_singleton.1 hp]
      exact stars_name
  · rw [e]
    exact fitL_behind _ 20 (fun p hp => name_noStar p (h2 p hp)) (by omega)
theorem st_star {s : List UInt8} (h : okR false s = true) (h12 : (splitL s).2.length < 12) : okR true (s ++ [42]) = true ∧ fitL 20 (Kf.parts (s ++ [42])) (Kf.parts s) = true := by
  obtain ⟨h1, h2⟩ := okR_parts h
  obtain ⟨l, e1, e2⟩ := split_last s
  generalize (splitL s).2 = x at *
  rw [e1] at h1 h2 ⊢
  have hx := h2 x (by simp)
  refine ⟨okR_of e2 (by simpa using h1) ?_, ?_⟩
  · intro p hp
    rcases List.mem_append.1 hp with hp | hp
    · exact nameR_mono p (h2 p (by simp [hp]))
    · rw [List.mem_singleton.1 hp]
      have hx' := nameR_mono x hx
      unfold nameR at hx' ⊢
      simp only [Bool.and_eq_true, List.all_eq_true, decide_eq_true_eq, Bool.not_eq_true', decide_eq_false_iff_not] at hx' ⊢
      refine ⟨⟨⟨⟨by simp, by simp; omega⟩, fun e => ?_⟩, fun e => ?_⟩, fun b hb => ?_⟩
      · have := congrArg List.getLast? e
        simp at this
      · have := congrArg List.getLast? e
        simp at this
      · rcases List.mem_append.1 hb with hb | hb
        · exact hx'.2 b hb
        · rw [List.mem_singleton.1 hb]
          decide
  · rw [e2]
    refine fitL_star l x 20 (fun q hq => name_noStar q (h2 q (by simp [hq]))) (name_noStar x hx) ?_
    simp at h1
    omega
end Go.Proofs.YtpkkhabiheobnaaDoor
