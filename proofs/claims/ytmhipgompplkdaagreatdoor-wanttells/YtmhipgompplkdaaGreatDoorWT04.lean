import Derived.Test.YtmhipgompplkdaaGreatDoorWT03
import Derived.Lib.Split
import Derived.Lib.SplitLaws
import Derived.Lib.CountLaws
import Derived.Lib.IndexBytes
namespace Go.Proofs.YtmhipgompplkdaaGreatDoor
open Go.RowKit Go.Shelf Go.Lib
theorem cutB_none (c : UInt8) : ∀ (s : List UInt8), Lib.indexByte s c = -1 → cutB c s = [s]
  | [], _ => rfl
  | x :: r, h => by
    unfold Lib.indexByte at h
    by_cases hc : x = c
    · simp [hc] at h
    · have hb : (x == c) = false := by simp [hc]
      rw [hb] at h
      by_cases h1 : Lib.indexByte r c = -1
      · have := cutB_none c r h1
        simp [cutB, hc, this]
      · have hge := Lib.indexByte_ge r c
        simp [h1] at h
        omega
theorem cutB_some (c : UInt8) : ∀ (s : List UInt8) (i : Nat), Lib.indexByte s c = (i : Int) → cutB c s = s.take i :: cutB c (s.drop (i + 1)) ∧ i < s.length
  | [], i, h => by simp [Lib.indexByte] at h
  | x :: r, i, h => by
    unfold Lib.indexByte at h
    by_cases hc : x = c
    · simp [hc] at h
      obtain rfl : i = 0 := by omega
      simp [cutB, hc]
    · have hb : (x == c) = false := by simp [hc]
      rw [hb] at h
      by_cases h1 : Lib.indexByte r c = -1
      · simp [h1] at h
      · have hge := Lib.indexByte_ge r c
        simp [h1] at h
        obtain ⟨j, rfl⟩ : ∃ j, i = j + 1 := ⟨i - 1, by omega⟩
        obtain ⟨e1, e2⟩ := cutB_some c r j (by omega)
        refine ⟨?_, by simp; omega⟩
        simp [cutB, hc, e1]
theorem splitK_cut (c : UInt8) : ∀ (k : Nat) (s : List UInt8), s.length ≤ k → Lib.splitK [c] 0 (Lib.count s [c]) s = cutB c s
  | k, s, hk => by
    have hge := Lib.indexByte_ge s c
    by_cases h : Lib.indexByte s c = -1
    · have h' : Lib.index s [c] = -1 := by rw [Lib.index_one]; exact h
      rw [Lib.count_miss h', cutB_none c s h]
      rfl
    · obtain ⟨i, hi⟩ : ∃ i : Nat, Lib.indexByte s c = (i : Int) := ⟨(Lib.indexByte s c).toNat, by omega⟩
      have h' : Lib.index s [c] = (i : Int) := by rw [Lib.index_one]; exact hi
      obtain ⟨e1, e2⟩ := cutB_some c s i hi
      cases k with
      | zero => omega
      | succ k =>
        have hc := Lib.count_hit (sub := [c]) (by simp) h'
        rw [hc, e1, Nat.add_comm 1]
        unfold Lib.splitK
        rw [h']
        have hne : ((i : Int) == -1) = false := by simp
        rw [hne]
        simp only [Bool.false_eq_true, if_false, Int.toNat_natCast, Nat.add_zero, List.length_cons, List.length_nil, Nat.zero_add]
        rw [splitK_cut c k (s.drop (i + 1)) (by simp; omega)]
theorem splitB_cut (c : UInt8) (s : List UInt8) : Lib.splitB (ba [c]) 0 (Lib.countB (ba s) (ba [c])) (ba s) = (cutB c s).map ba := by
  have h1 := Lib.splitB_data (ba [c]) 0 (Lib.countB (ba s) (ba [c])) (ba s)
  have h2 : Lib.splitK [c] 0 (Lib.count s [c]) s = cutB c s := splitK_cut c _ s (Nat.le_refl _)
  have h3 : (Lib.splitB (ba [c]) 0 (Lib.countB (ba s) (ba [c])) (ba s)).map (·.data.toList) = cutB c s := h1.trans h2
  rw [← h3, List.map_map]
  conv => lhs; rw [← List.map_id (Lib.splitB (ba [c]) 0 (Lib.countB (ba s) (ba [c])) (ba s))]
  exact List.map_congr_left fun x _ => rfl
theorem count_cut (c : UInt8) (s : List UInt8) : Lib.countB (ba s) (ba [c]) + 1 = (cutB c s).length := by
  have := Lib.splitB_all (ba [c]) (by rw [ba_size]; simp) 0 _ (ba s) rfl
  rw [splitB_cut] at this
  simpa using this.symm
end Go.Proofs.YtmhipgompplkdaaGreatDoor
