/- The law's acted, the document's answer's LinesOf, and plain facts for the laws of chapter 3. -/
import Derived.Test.YtigcogfjclohjaaGreatDoorAKinds
import Derived.Test.YtigcogfjclohjaaGreatDoorTreeSpec
namespace Go.Proofs.YtigcogfjclohjaaGreatDoor
open Go.RowKit Go.Shelf Go.Lib
open Go.Sort (grow Holds putRow)

set_option maxRecDepth 100000 in
set_option maxHeartbeats 4000000 in
theorem rLinesOf_calls (s : List UInt8) (hs : s.length ≤ 1000000) (w : World) :
    Calls Tryz.prog 29 #[.string (ba s)] w fun e w' => ∃ v, e = .returned v ∧ TRow w' v (Af.lines s) ∧ Below w.heap.size w w' := by
  obtain ⟨o, l, hc, hl⟩ := Af.lines_of_cut s
  have HS := hid1 (rCut_calls s hs 10 10 rfl w)
  have hol : o.length ≤ 1000000 := by
    have := cutB_len 10 s
    rw [hc] at this
    simp at this
    omega
  rw [hc] at HS
  have HL : Hid (Af.lines s = (if l = [] then o else o ++ [l])) := hl
  clear hl hc
  generalize Af.lines s = L at *
  go_enter Tryz.func29, Tryz.ntmps29
  go_wp2_with fail
  refine Calls.mono HS.out ?_
  rintro e w3 ⟨v, rfl, hown, hB3⟩
  obtain ⟨pa, cap, rfl, hcap, hin⟩ := TRow.of_owns hown
  obtain ⟨g, cur, rfl, hg, hcur⟩ := hin (by simp)
  have hcz := cell_of_row hg (hcur o.length (by simp))
  rw [List.getElem_append_right (by omega)] at hcz
  simp only [Nat.sub_self, List.getElem_cons_zero] at hcz
  simp only [List.length_append, List.length_cons, List.length_nil] at hcap ⊢
  have hcurA : ∀ j (hj : j < o.length), cur[j]? = some (.string (ba o[j])) := fun j hj => by
    have := hcur j (by simp; omega)
    rwa [List.getElem_append_left hj] at this
  clear HS hown hin
  have z1 : (o.length : Int) ≤ 1000000 := by omega
  by_cases he : l = []
  · subst he
    have hL : L = o := by rw [HL.out, if_pos rfl]
    subst hL
    clear HL hcur
    go_wp2
    go_ret
    exact ⟨_, rfl, ⟨_, _, rfl, by omega, fun _ => ⟨g, cur, rfl, hg, hcurA⟩⟩, hB3⟩
  · have d1 : l.isEmpty = false := empty_not he
    have hL : L = o ++ [l] := by rw [HL.out, if_neg he]
    subst hL
    clear HL
    go_wp2
    go_ret
    exact ⟨_, rfl, ⟨some ⟨g, 0, none⟩, cap, by simp, by simp; omega, fun _ => ⟨g, cur, rfl, hg, hcur⟩⟩, hB3⟩

theorem trow_new (W : World) (l : List (List UInt8)) : TRow (W.alloc (.cells (l.map sv).toArray 9)) (.slice (some ⟨W.heap.size, 0, none⟩) l.length l.length) l := by
  refine ⟨_, l.length, rfl, Nat.le_refl _, fun _ => ⟨W.heap.size, (l.map sv).toArray, rfl, ?_, fun j hj => ?_⟩⟩
  · show (W.heap.push _)[W.heap.size]? = _
    simp
  · simp [hj]

set_option maxRecDepth 100000 in
set_option maxHeartbeats 4000000 in
theorem acted_calls {w : World} {es el : Value} (hA : AW w es el) :
    Calls Tryz.prog 27 #[] w fun e w' => e = .returned (.bool true) ∧ Below w.heap.size w w' := by
  have g0 : Below w.heap.size w (w.alloc (.cells #[.string ⟨#[97]⟩, .string ⟨#[98]⟩] 9)) := (Below.refl _ w).alloc (Nat.le_refl _) _
  have HJ : Hid (Calls Tryz.prog 28 #[.string ⟨#[106, 111, 105, 110]⟩, .string ⟨#[43]⟩, .slice (some ⟨w.heap.size, 0, none⟩) 2 2] (w.alloc (.cells #[.string ⟨#[97]⟩, .string ⟨#[98]⟩] 9)) fun e w' => e = .returned (.tuple #[.string ⟨#[97, 43, 98]⟩, .nilIface]) ∧ Below (w.alloc (.cells #[.string ⟨#[97]⟩, .string ⟨#[98]⟩] 9)).heap.size (w.alloc (.cells #[.string ⟨#[97]⟩, .string ⟨#[98]⟩] 9)) w') := by
    have := Run_join (hA.stays g0) [43] (by simp) _ [[97], [98]] (trow_new w [[97], [98]]) (by simp) (by simp) (by decide)
    rw [told2_ok (by decide)] at this
    exact this
  clear hA
  go_enter Tryz.func27, Tryz.ntmps27
  go_wp2_with fail
  refine Calls.mono HJ.out ?_
  rintro e w1 ⟨rfl, g1⟩
  go_wp2
  go_ret
  exact ⟨rfl, g0.trans (g1.mono g0.size)⟩

theorem not_less {x y : List UInt8} (h : y ≤ x) : Op.bytesLess x y = false := by
  rw [Tf.less_before]
  rw [Bool.eq_false_iff]
  intro e
  exact List.not_lt.2 h ((Tf.before_lt x y).1 e)
theorem srt_at (l : List (List UInt8)) (i : Nat) (h : i + 1 < (Af.srt l).length) : Op.bytesLess (Af.srt l)[i + 1] (Af.srt l)[i] = false :=
  not_less (List.pairwise_iff_getElem.1 (Af.srt_sorted l) i (i + 1) (by omega) h (by omega))

theorem compact_pre (S : List (List UInt8)) : ∀ (d i : Nat), i + d = S.length → ∃ t, Lib.compact S = compactUpTo S.toArray i ++ t
  | 0, i, h => ⟨[], by rw [Lib.compact, List.append_nil, ← h]; rfl⟩
  | d + 1, i, h => by
    obtain ⟨t, ht⟩ := compact_pre S d (i + 1) (by omega)
    rw [Af.compact_succ, List.append_assoc] at ht
    exact ⟨_, ht⟩
theorem compact_keep (S : List (List UInt8)) (i : Nat) (h : i < S.length) (hk : keeps S.toArray i = true) : compactUpTo S.toArray (i + 1) = compactUpTo S.toArray i ++ [S[i]] ∧ (compactUpTo S.toArray i).length < (Lib.compact S).length ∧ ∀ hx : (compactUpTo S.toArray i).length < (Lib.compact S).length, (Lib.compact S)[(compactUpTo S.toArray i).length] = S[i] := by
  have e : compactUpTo S.toArray (i + 1) = compactUpTo S.toArray i ++ [S[i]] := by
    rw [Af.compact_succ, if_pos hk]
    simp [h]
  obtain ⟨t, ht⟩ := compact_pre S (S.length - (i + 1)) (i + 1) (by omega)
  rw [e] at ht
  refine ⟨e, by rw [ht]; simp, fun hx => ?_⟩
  simp only [ht, List.append_assoc]
  rw [List.getElem_append_right (Nat.le_refl _)]
  simp
theorem compact_skip (S : List (List UInt8)) (i : Nat) (hk : keeps S.toArray i = false) : compactUpTo S.toArray (i + 1) = compactUpTo S.toArray i := by
  rw [Af.compact_succ, hk]
  simp
theorem keeps_zero (S : List (List UInt8)) : keeps S.toArray 0 = true := by simp [keeps]
theorem keeps_succ (S : List (List UInt8)) (i : Nat) (h : i + 1 < S.length) : keeps S.toArray (i + 1) = !(S[i + 1] == S[i]) := by
  have h' : i < S.length := by omega
  unfold keeps
  simp [h, h']
  by_cases e : S[i + 1] = S[i] <;> simp [e]

theorem cut_digits (d r : List UInt8) (h : (32 : UInt8) ∉ d) : ∃ t, cutB 32 (d ++ 32 :: r) = d :: t := by
  induction d with
  | nil => exact ⟨cutB 32 r, by simp [cutB]⟩
  | cons c d ih =>
    have hc : c ≠ 32 := fun e => h (by simp [e])
    obtain ⟨t, ht⟩ := ih (fun e => h (by simp [e]))
    exact ⟨t, by simp [cutB, hc, ht]⟩
end Go.Proofs.YtigcogfjclohjaaGreatDoor
