/- The document's answer's Cut: a text parted by a byte: the plain facts and the walk. -/
import Derived.Test.YtigcogfjclohjaaGreatDoorPRows
namespace Go.Proofs.YtigcogfjclohjaaGreatDoor
open Go.RowKit Go.Shelf Go.Lib

/-- A text parted by a byte. -/
def cutB (b : UInt8) : List UInt8 → List (List UInt8)
  | [] => [[]]
  | c :: r => if c = b then [] :: cutB b r else match cutB b r with
    | [] => [[c]]
    | p :: ps => (c :: p) :: ps
theorem cutB_parts (s : List UInt8) : cutB 47 s = Kf.parts s := by
  induction s with
  | nil => rfl
  | cons c r ih => simp only [cutB, Kf.parts, ih]; rfl
theorem cutB_ne (b : UInt8) (s : List UInt8) : cutB b s ≠ [] := by
  cases s with
  | nil => simp [cutB]
  | cons c r =>
    unfold cutB
    split
    · simp
    · split <;> simp
theorem cutB_hit (b : UInt8) (t : List UInt8) : cutB b (t ++ [b]) = cutB b t ++ [[]] := by
  induction t with
  | nil => simp [cutB]
  | cons c r ih =>
    simp only [List.cons_append, cutB, ih]
    split
    · simp
    · cases h : cutB b r with
      | nil => exact absurd h (cutB_ne b r)
      | cons p ps => simp
theorem cutB_miss (b x : UInt8) (hx : x ≠ b) (t : List UInt8) : ∀ (o : List (List UInt8)) (l : List UInt8), cutB b t = o ++ [l] → cutB b (t ++ [x]) = o ++ [l ++ [x]] := by
  induction t with
  | nil =>
    intro o l h
    have h' : o ++ [l] = [] ++ [[]] := h.symm
    obtain ⟨rfl, e⟩ := List.append_inj' h' rfl
    simp at e
    subst e
    simp [cutB, hx]
  | cons c r ih =>
    intro o l h
    simp only [List.cons_append, cutB] at h ⊢
    by_cases hc : c = b
    · rw [if_pos hc] at h ⊢
      cases o with
      | nil =>
        simp at h
        exact absurd h.2 (cutB_ne b r)
      | cons q o =>
        simp at h
        obtain ⟨rfl, h⟩ := h
        rw [ih o l h]
        simp
    · rw [if_neg hc] at h ⊢
      cases hr : cutB b r with
      | nil => exact absurd hr (cutB_ne b r)
      | cons p ps =>
        rw [hr] at h
        simp only at h
        cases o with
        | nil =>
          simp at h
          obtain ⟨rfl, rfl⟩ := h
          have := ih [] p (by simpa using hr)
          rw [this]
          simp
        | cons q o =>
          simp at h
          obtain ⟨rfl, rfl⟩ := h
          have := ih (p :: o) l (by simpa using hr)
          rw [this]
          simp

/-- A text's bytes, behind a name that the walk does not open. -/
structure Txt (bs : ByteArray) (s : List UInt8) : Prop where
  eq : bs = ba s
theorem txt (s : List UInt8) : ∃ bs, ba s = bs ∧ Txt bs s := ⟨_, rfl, ⟨rfl⟩⟩
theorem Txt.size {bs : ByteArray} {s : List UInt8} (h : Txt bs s) : bs.size = s.length := by rw [h.eq]; exact ba_size s
theorem Txt.get {bs : ByteArray} {s : List UInt8} (h : Txt bs s) (i : Nat) (h1 : i < s.length) (h2 : i < bs.size) : bs[i] = s[i] := by
  obtain ⟨rfl⟩ := h
  simp [ba]
  rfl
theorem Txt.extract {bs : ByteArray} {s : List UInt8} (h : Txt bs s) (f k : Nat) : bs.extract f k = ba ((s.take k).drop f) := by
  rw [h.eq]
  exact ba_eq (by rw [Lib.extract_data]; simp [List.drop_take])

theorem below_appended {w wr w1 : World} {n₀ : Nat} {e : TypeId} {size : Nat} {v : Value} {k : Nat} {xs : List Value} {tmp : Obj}
    (hB : Below n₀ w wr) (hn : n₀ ≤ wr.heap.size) (hrow : wr.ownsRow n₀ e size v k xs) (hgrow : (wr.alloc tmp).grownBy w1 v.ownBlock) : Below n₀ w w1 := by
  refine (hB.alloc hn tmp).grown hgrow (by simp; omega) fun j ej => ?_
  rcases hrow.2 with ⟨rfl, _⟩ | ⟨g, cap, cur, rfl, hb, _, _⟩
  · simp [Value.ownBlock] at ej
  · obtain rfl : g = j := by simpa [Value.ownBlock] using ej
    exact hb

set_option maxRecDepth 100000 in
set_option maxHeartbeats 2000000 in
theorem rCut_calls (s : List UInt8) (hs : s.length ≤ 1000000) (b : UInt8) (n : Int) (hn : n = (b.toNat : Int)) (w : World) :
    Calls Tryz.prog 30 #[.string (ba s), .int .u8 n] w fun e w' => ∃ v, e = .returned v ∧ w'.ownsRow w.heap.size 9 1 v (cutB b s).length ((cutB b s).map sv) ∧ Below w.heap.size w w' := by
  obtain ⟨i0, hi, hz0, hz1, hz2⟩ := info_parts Tryz.infoStr
  obtain ⟨bs, eb, T⟩ := txt s
  rw [eb]
  clear eb
  have hsz : bs.size ≤ 1000000 := by rw [T.size]; exact hs
  go_enter Tryz.func30, Tryz.ntmps30
  go_wp2
  go_loopw [5, 6, 7] (fun out fr i wr => ∃ (k f : Nat) (o : List (List UInt8)), k ≤ s.length ∧ f ≤ k ∧ i = .int .i64 k ∧ fr = .int .i64 f ∧ cutB b (s.take k) = o ++ [(s.take k).drop f] ∧ o.length ≤ k ∧ wr.ownsRow w.heap.size 9 1 out o.length (o.map sv) ∧ Below w.heap.size w wr) (fun _ _ i _ => s.length - (intOf i).toNat)
  case atStart => exact ⟨0, 0, [], by omega, by omega, rfl, rfl, by simp [cutB], by simp, World.ownsRow_nil _ _ _ _, Below.refl _ _⟩
  case round =>
    obtain ⟨k, f, o, hk, hf, rfl, rfl, hcut, hol, hrow, hB⟩ := hrel
    have HC : Hid (cutB b (s.take k) = o ++ [(s.take k).drop f]) := hcut
    clear hcut
    by_cases hlt : k < s.length
    · have hlt2 : k < bs.size := by rw [T.size]; exact hlt
      have hfb : f ≤ bs.size := by omega
      have hkb : k ≤ bs.size := by omega
      have hml : o.length + 1 ≤ maxLen := by unfold maxLen; omega
      have hbz : w.heap.size ≤ wr.heap.size := hB.size
      have HN : Hid (n = (b.toNat : Int)) := hn
      clear hn
      go_wp2_with (at_builtin; refine wpList_append_own _ rfl _ _ 41 rfl w.heap.size 9 i0 (.string ⟨#[]⟩) 1 16 Tryz.underlying41 hi hz0 hz1 hz2 rfl (by decide) _ _ _ rfl (hrow.alloc _) ⟨wr.heap.size, 0, none⟩ 1 1 [.string (bs.extract f k)] rfl rfl (cell_one_new _ _ _) (by simp [Value.oneCell']) hml (by omega) (by simp; omega) ?_; intro v' w1 hown' hgrow _)
      · have e1 : ((bs[k].toNat : Int) == n) = true := by assumption
        have e2 : s[k] = b := by
          rw [T.get k hlt hlt2, HN.out] at e1
          have := eq_of_beq e1
          exact UInt8.toNat_inj.1 (by omega)
        have e3 : cutB b (s.take (k + 1)) = (o ++ [(s.take k).drop f]) ++ [(s.take (k + 1)).drop (k + 1)] := by
          rw [List.drop_of_length_le (i := k + 1) (by simp; omega), List.take_succ_eq_append_getElem hlt, e2, cutB_hit, HC.out]
        have e4 : .string (bs.extract f k) = sv ((s.take k).drop f) := by rw [T.extract]
        refine ⟨⟨k + 1, k + 1, o ++ [(s.take k).drop f], by omega, by omega, by go_num, by go_num, e3, by simp; omega, ?_, ?_⟩, by simp [intOf]; omega⟩
        · rw [e4] at hown'
          simpa using hown'
        · exact below_appended hB hbz hrow hgrow
      · have e1 : ((bs[k].toNat : Int) == n) = false := by assumption
        have e2 : s[k] ≠ b := by
          rw [T.get k hlt hlt2, HN.out] at e1
          intro e
          rw [e] at e1
          simp at e1
        have e3 : cutB b (s.take (k + 1)) = o ++ [(s.take (k + 1)).drop f] := by
          rw [List.take_succ_eq_append_getElem hlt, cutB_miss b s[k] e2 _ o _ HC.out, List.drop_append_of_le_length (by simp; omega)]
        exact ⟨⟨k + 1, f, o, by omega, by omega, by go_num, rfl, e3, by omega, hrow, hB⟩, by simp [intOf]; omega⟩
    · have hkk : k = s.length := by omega
      have hfb : f ≤ bs.size := by rw [T.size]; omega
      have hml : o.length + 1 ≤ maxLen := by unfold maxLen; omega
      have hbz : w.heap.size ≤ wr.heap.size := hB.size
      have hge : (bs.size : Int) ≤ (k : Int) := by rw [T.size]; omega
      have HK : Hid (k = s.length) := hkk
      clear hn hkk
      go_wp2_with (at_builtin; refine wpList_append_own _ rfl _ _ 41 rfl w.heap.size 9 i0 (.string ⟨#[]⟩) 1 16 Tryz.underlying41 hi hz0 hz1 hz2 rfl (by decide) _ _ _ rfl (hrow.alloc _) ⟨wr.heap.size, 0, none⟩ 1 1 [.string (bs.extract f bs.size)] rfl rfl (cell_one_new _ _ _) (by simp [Value.oneCell']) hml (by omega) (by simp; omega) ?_; intro v' w1 hown' hgrow _)
      go_ret
      have e3 : cutB b s = o ++ [s.drop f] := by
        have := HC.out
        rw [HK.out, List.take_length] at this
        exact this
      have e4 : .string (bs.extract f bs.size) = sv (s.drop f) := by rw [T.extract, T.size, List.take_length]
      refine ⟨_, rfl, ?_, below_appended hB hbz hrow hgrow⟩
      rw [e3]
      rw [e4] at hown'
      simpa using hown'
end Go.Proofs.YtigcogfjclohjaaGreatDoor
