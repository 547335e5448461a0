import Derived.Test.YtbgkfmodbofalaaGreatDoorPL03
import Derived.Lib.Split
import Derived.Lib.SplitLaws
import Derived.Lib.CountLaws
import Derived.Lib.IndexBytes
namespace Go.Proofs.YtbgkfmodbofalaaGreatDoor
open Go.RowKit Go.Shelf Go.Lib
def cutB (b : UInt8) : List UInt8 → List (List UInt8)
  | [] => [[]]
  | c :: r => if c = b then [] :: cutB b r else match cutB b r with
    | [] => [[c]]
    | p :: ps => (c :: p) :: ps
theorem cutB_parts (s : List UInt8) : cutB 47 s = Kf.parts s := by
  induction s with
  | nil => rfl
  | cons c r ih => simp only [cutB, Kf.parts, ih]; rfl
theorem cutB_ne (b : UInt8) (s : List UInt8) : cutB b s ≠ [] := by
  cases s with
  | nil => simp [cutB]
  | cons c r =>
    unfold cutB
    split
    · simp
    · split <;> simp
theorem cutB_hit (b : UInt8) (t : List UInt8) : cutB b (t ++ [b]) = cutB b t ++ [[]] := by
  induction t with
  | nil => simp [cutB]
  | cons c r ih =>
    simp only [List.cons_append, cutB, ih]
    split
    · simp
    · cases h : cutB b r with
      | nil => exact absurd h (cutB_ne b r)
      | cons p ps => simp
theorem cutB_miss (b x : UInt8) (hx : x ≠ b) (t : List UInt8) : ∀ (o : List (List UInt8)) (l : List UInt8), cutB b t = o ++ [l] → cutB b (t ++ [x]) = o ++ [l ++ [x]] := by
  induction t with
  | nil =>
    intro o l h
    have h' : o ++ [l] = [] ++ [[]] := h.symm
    obtain ⟨rfl, e⟩ := List.append_inj' h' rfl
    simp at e
    subst e
    simp [cutB, hx]
  | cons c r ih =>
    intro o l h
    simp only [List.cons_append, cutB] at h ⊢
    by_cases hc : c = b
    · rw [if_pos hc] at h ⊢
      cases o with
      | nil =>
        simp at h
        exact absurd h.2 (cutB_ne b r)
      | cons q o =>
        simp at h
        obtain ⟨rfl, h⟩ := h
        rw [ih o l h]
        simp
    · rw [if_neg hc] at h ⊢
      cases hr : cutB b r with
      | nil => exact absurd hr (cutB_ne b r)
      | cons p ps =>
        rw [hr] at h
        simp only at h
        cases o with
        | nil =>
          simp at h
          obtain ⟨rfl, rfl⟩ := h
          have := ih [] p (by simpa using hr)
          rw [this]
          simp
        | cons q o =>
          simp at h
          obtain ⟨rfl, rfl⟩ := h
          have := ih (p :: o) l (by simpa using hr)
          rw [this]
          simp
structure Txt (bs : ByteArray) (s : List UInt8) : Prop where
  eq : bs = ba s
theorem txt (s : List UInt8) : ∃ bs, ba s = bs ∧ Txt bs s := ⟨_, rfl, ⟨rfl⟩⟩
theorem Txt.size {bs : ByteArray} {s : List UInt8} (h : Txt bs s) : bs.size = s.length := by rw [h.eq]; exact ba_size s
theorem Txt.get {bs : ByteArray} {s : List UInt8} (h : Txt bs s) (i : Nat) (h1 : i < s.length) (h2 : i < bs.size) : bs[i] = s[i] := by
  obtain ⟨rfl⟩ := h
  simp [ba]
  rfl
theorem Txt.extract {bs : ByteArray} {s : List UInt8} (h : Txt bs s) (f k : Nat) : bs.extract f k = ba ((s.take k).drop f) := by
  rw [h.eq]
  exact ba_eq (by rw [Lib.extract_data]; simp [List.drop_take])
theorem below_appended {w wr w1 : World} {n₀ : Nat} {e : TypeId} {size : Nat} {v : Value} {k : Nat} {xs : List Value} {tmp : Obj}
    (hB : Below n₀ w wr) (hn : n₀ ≤ wr.heap.size) (hrow : wr.ownsRow n₀ e size v k xs) (hgrow : (wr.alloc tmp).grownBy w1 v.ownBlock) : Below n₀ w w1 := by
  refine (hB.alloc hn tmp).grown hgrow (by simp; omega) fun j ej => ?_
  rcases hrow.2 with ⟨rfl, _⟩ | ⟨g, cap, cur, rfl, hb, _, _⟩
  · simp [Value.ownBlock] at ej
  · obtain rfl : g = j := by simpa [Value.ownBlock] using ej
    exact hb
set_option maxRecDepth 100000 in
set_option maxHeartbeats 2000000 in
theorem rCut_calls (s : List UInt8) (hs : s.length ≤ 1000000) (b : UInt8) (n : Int) (hn : n = (b.toNat : Int)) (w : World) :
    Calls Tryz.prog 113 #[.string (ba s), .int .u8 n] w fun e w' => ∃ v, e = .returned v ∧ w'.ownsRow w.heap.size 9 1 v (cutB b s).length ((cutB b s).map sv) ∧ Below w.heap.size w w' := by
  obtain ⟨i0, hi, hz0, hz1, hz2⟩ := info_parts Tryz.infoStr
  obtain ⟨bs, eb, T⟩ := txt s
  rw [eb]
  clear eb
  have hsz : bs.size ≤ 1000000 := by rw [T.size]; exact hs
  go_enter Tryz.func113, Tryz.ntmps113
  go_wp2
  go_loopw [5, 6, 7] (fun out fr i wr => ∃ (k f : Nat) (o : List (List UInt8)), k ≤ s.length ∧ f ≤ k ∧ i = .int .i64 k ∧ fr = .int .i64 f ∧ cutB b (s.take k) = o ++ [(s.take k).drop f] ∧ o.length ≤ k ∧ wr.ownsRow w.heap.size 9 1 out o.length (o.map sv) ∧ Below w.heap.size w wr) (fun _ _ i _ => s.length - (intOf i).toNat)
  case atStart => exact ⟨0, 0, [], by omega, by omega, rfl, rfl, by simp [cutB], by simp, World.ownsRow_nil _ _ _ _, Below.refl _ _⟩
  case round =>
    obtain ⟨k, f, o, hk, hf, rfl, rfl, hcut, hol, hrow, hB⟩ := hrel
    have HC : Hid (cutB b (s.take k) = o ++ [(s.take k).drop f]) := hcut
    clear hcut
    by_cases hlt : k < s.length
    · have hlt2 : k < bs.size := by rw [T.size]; exact hlt
      have hfb : f ≤ bs.size := by omega
      have hkb : k ≤ bs.size := by omega
      have hml : o.length + 1 ≤ maxLen := by unfold maxLen; omega
      have hbz : w.heap.size ≤ wr.heap.size := hB.size
      have HN : Hid (n = (b.toNat : Int)) := hn
      clear hn
      go_wp2_with (at_builtin; refine wpList_append_own _ rfl _ _ 45 rfl w.heap.size 9 i0 (.string ⟨#[]⟩) 1 16 Tryz.underlying45 hi hz0 hz1 hz2 rfl (by decide) _ _ _ rfl (hrow.alloc _) ⟨wr.heap.size, 0, none⟩ 1 1 [.string (bs.extract f k)] rfl rfl (cell_one_new _ _ _) (by simp [Value.oneCell']) hml (by omega) (by simp; omega) ?_; intro v' w1 hown' hgrow _)
      · have e1 : ((bs[k].toNat : Int) == n) = true := by assumption
        have e2 : s[k] = b := by
          rw [T.get k hlt hlt2, HN.out] at e1
          have := eq_of_beq e1
          exact UInt8.toNat_inj.1 (by omega)
        have e3 : cutB b (s.take (k + 1)) = (o ++ [(s.take k).drop f]) ++ [(s.take (k + 1)).drop (k + 1)] := by
          rw [List.drop_of_length_le (i := k + 1) (by simp; omega), List.take_succ_eq_append_getElem hlt, e2, cutB_hit, HC.out]
        have e4 : .string (bs.extract f k) = sv ((s.take k).drop f) := by rw [T.extract]
        refine ⟨⟨k + 1, k + 1, o ++ [(s.take k).drop f], by omega, by omega, by go_num, by go_num, e3, by simp; omega, ?_, ?_⟩, by simp [intOf]; omega⟩
        · rw [e4] at hown'
          simpa using hown'
        · exact below_appended hB hbz hrow hgrow
      · have e1 : ((bs[k].toNat : Int) == n) = false := by assumption
        have e2 : s[k] ≠ b := by
          rw [T.get k hlt hlt2, HN.out] at e1
          intro e
          rw [e] at e1
          simp at e1
        have e3 : cutB b (s.take (k + 1)) = o ++ [(s.take (k + 1)).drop f] := by
          rw [List.take_succ_eq_append_getElem hlt, cutB_miss b s[k] e2 _ o _ HC.out, List.drop_append_of_le_length (by simp; omega)]
        exact ⟨⟨k + 1, f, o, by omega, by omega, by go_num, rfl, e3, by omega, hrow, hB⟩, by simp [intOf]; omega⟩
    · have hkk : k = s.length := by omega
      have hfb : f ≤ bs.size := by rw [T.size]; omega
      have hml : o.length + 1 ≤ maxLen := by unfold maxLen; omega
      have hbz : w.heap.size ≤ wr.heap.size := hB.size
      have hge : (bs.size : Int) ≤ (k : Int) := by rw [T.size]; omega
      have HK : Hid (k = s.length) := hkk
      clear hn hkk
      go_wp2_with (at_builtin; refine wpList_append_own _ rfl _ _ 45 rfl w.heap.size 9 i0 (.string ⟨#[]⟩) 1 16 Tryz.underlying45 hi hz0 hz1 hz2 rfl (by decide) _ _ _ rfl (hrow.alloc _) ⟨wr.heap.size, 0, none⟩ 1 1 [.string (bs.extract f bs.size)] rfl rfl (cell_one_new _ _ _) (by simp [Value.oneCell']) hml (by omega) (by simp; omega) ?_; intro v' w1 hown' hgrow _)
      go_ret
      have e3 : cutB b s = o ++ [s.drop f] := by
        have := HC.out
        rw [HK.out, List.take_length] at this
        exact this
      have e4 : .string (bs.extract f bs.size) = sv (s.drop f) := by rw [T.extract, T.size, List.take_length]
      refine ⟨_, rfl, ?_, below_appended hB hbz hrow hgrow⟩
      rw [e3]
      rw [e4] at hown'
      simpa using hown'
end Go.Proofs.YtbgkfmodbofalaaGreatDoor
namespace Go.Proofs.YtbgkfmodbofalaaGreatDoor
open Go.RowKit Go.Shelf Go.Lib
theorem cutB_none (c : UInt8) : ∀ (s : List UInt8), Lib.indexByte s c = -1 → cutB c s = [s]
  | [], _ => rfl
  | x :: r, h => by
    unfold Lib.indexByte at h
    by_cases hc : x = c
    · simp [hc] at h
    · have hb : (x == c) = false := by simp [hc]
      rw [hb] at h
      by_cases h1 : Lib.indexByte r c = -1
      · have := cutB_none c r h1
        simp [cutB, hc, this]
      · have hge := Lib.indexByte_ge r c
        simp [h1] at h
        omega
theorem cutB_some (c : UInt8) : ∀ (s : List UInt8) (i : Nat), Lib.indexByte s c = (i : Int) → cutB c s = s.take i :: cutB c (s.drop (i + 1)) ∧ i < s.length
  | [], i, h => by simp [Lib.indexByte] at h
  | x :: r, i, h => by
    unfold Lib.indexByte at h
    by_cases hc : x = c
    · simp [hc] at h
      obtain rfl : i = 0 := by omega
      simp [cutB, hc]
    · have hb : (x == c) = false := by simp [hc]
      rw [hb] at h
      by_cases h1 : Lib.indexByte r c = -1
      · simp [h1] at h
      · have hge := Lib.indexByte_ge r c
        simp [h1] at h
        obtain ⟨j, rfl⟩ : ∃ j, i = j + 1 := ⟨i - 1, by omega⟩
        obtain ⟨e1, e2⟩ := cutB_some c r j (by omega)
        refine ⟨?_, by simp; omega⟩
        simp [cutB, hc, e1]
theorem splitK_cut (c : UInt8) : ∀ (k : Nat) (s : List UInt8), s.length ≤ k → Lib.splitK [c] 0 (Lib.count s [c]) s = cutB c s
  | k, s, hk => by
    have hge := Lib.indexByte_ge s c
    by_cases h : Lib.indexByte s c = -1
    · have h' : Lib.index s [c] = -1 := by rw [Lib.index_one]; exact h
      rw [Lib.count_miss h', cutB_none c s h]
      rfl
    · obtain ⟨i, hi⟩ : ∃ i : Nat, Lib.indexByte s c = (i : Int) := ⟨(Lib.indexByte s c).toNat, by omega⟩
      have h' : Lib.index s [c] = (i : Int) := by rw [Lib.index_one]; exact hi
      obtain ⟨e1, e2⟩ := cutB_some c s i hi
      cases k with
      | zero => omega
      | succ k =>
        have hc := Lib.count_hit (sub := [c]) (by simp) h'
        rw [hc, e1, Nat.add_comm 1]
        unfold Lib.splitK
        rw [h']
        have hne : ((i : Int) == -1) = false := by simp
        rw [hne]
        simp only [Bool.false_eq_true, if_false, Int.toNat_natCast, Nat.add_zero, List.length_cons, List.length_nil, Nat.zero_add]
        rw [splitK_cut c k (s.drop (i + 1)) (by simp; omega)]
theorem splitB_cut (c : UInt8) (s : List UInt8) : Lib.splitB (ba [c]) 0 (Lib.countB (ba s) (ba [c])) (ba s) = (cutB c s).map ba := by
  have h1 := Lib.splitB_data (ba [c]) 0 (Lib.countB (ba s) (ba [c])) (ba s)
  have h2 : Lib.splitK [c] 0 (Lib.count s [c]) s = cutB c s := splitK_cut c _ s (Nat.le_refl _)
  have h3 : (Lib.splitB (ba [c]) 0 (Lib.countB (ba s) (ba [c])) (ba s)).map (·.data.toList) = cutB c s := h1.trans h2
  rw [← h3, List.map_map]
  conv => lhs; rw [← List.map_id (Lib.splitB (ba [c]) 0 (Lib.countB (ba s) (ba [c])) (ba s))]
  exact List.map_congr_left fun x _ => rfl
theorem count_cut (c : UInt8) (s : List UInt8) : Lib.countB (ba s) (ba [c]) + 1 = (cutB c s).length := by
  have := Lib.splitB_all (ba [c]) (by rw [ba_size]; simp) 0 _ (ba s) rfl
  rw [splitB_cut] at this
  simpa using this.symm
end Go.Proofs.YtbgkfmodbofalaaGreatDoor
