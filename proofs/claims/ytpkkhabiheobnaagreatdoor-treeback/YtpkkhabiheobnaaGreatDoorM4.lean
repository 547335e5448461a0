/- Small laws on rows of texts that a call makes. -/
import Derived.Test.YtpkkhabiheobnaaGreatDoorM1
import Derived.WalkSmall
namespace Go.Proofs.YtpkkhabiheobnaaGreatDoor
open Go.RowKit Go.Shelf Go.Lib

theorem Tryz.infoStr : (Tryz.prog.info? 9).map (fun i => (i.zero, i.size, i.bytes)) = some (some (.string ⟨#[]⟩), 1, 16) := by kernel_rfl

theorem boxed_appended {W w1 : World} {n₀ B B' : Nat} {t e : TypeId} {size : Nat} {u v v' : Value} {k : Nat} {xs : List Value} {tmp : Obj}
    (h : Boxed W B' t u) (ht : t ≠ e) (hrow : W.ownsRow n₀ e size v k xs) (hgrow : (W.alloc tmp).grownBy w1 v.ownBlock) (hne : B' ≠ B) : Boxed (w1.setCell ⟨B, 0, none⟩ v') B' t u :=
  ((h.alloc tmp).kept hgrow (h.not_row ht hrow)).other hne v'

abbrev sv (x : List UInt8) : Value := Value.string (ba x)
theorem ret_eq {a b : Value} (h : a = b) : Ending.returned a = .returned b := by rw [h]
theorem owns_cells {w : World} {base : Nat} {g cap : Nat} {a : List (List UInt8)} (h : w.ownsRow base 9 1 (.slice (some ⟨g, 0, none⟩) a.length cap) a.length (a.map sv)) :
    (∀ (j : Nat) x, (a.map ba)[j]? = some x → w.cell? ⟨g, 0 + j, none⟩ = some (.string x)) ∧ g < w.heap.size ∧ a.length ≤ cap := by
  rcases h.2 with ⟨h', _⟩ | ⟨g', cap', cur, hv, _, hg, hn, _, hsz, ht⟩
  · cases h'
  · cases hv
    refine ⟨fun j x hj => ?_, (Array.getElem?_eq_some_iff.1 hg).1, hn⟩
    have hjl : j < a.length := by
      have := (List.getElem?_eq_some_iff.1 hj).1
      simpa using this
    have h1 : (cur.toList.take (a.length * 1))[j]? = some (.string x) := by
      rw [ht]
      rw [List.getElem?_map] at hj ⊢
      cases ha : a[j]? with
      | none => rw [ha] at hj; simp at hj
      | some y => rw [ha] at hj; simp at hj; subst hj; rfl
    rw [List.getElem?_take_of_lt (by omega)] at h1
    simp only [World.cell?, hg, Nat.zero_add]
    simpa using h1

end Go.Proofs.YtpkkhabiheobnaaGreatDoor
/- The document's answer's Cut: a text parted by a byte: the plain facts and the walk. -/
namespace Go.Proofs.YtpkkhabiheobnaaGreatDoor
open Go.RowKit Go.Shelf Go.Lib

/-- A text parted by a byte. -/
def cutB (b : UInt8) : List UInt8 → List (List UInt8)
  | [] => [[]]
  | c :: r => if c = b then [] :: cutB b r else match cutB b r with
    | [] => [[c]]
    | p :: ps => (c :: p) :: ps
theorem cutB_parts (s : List UInt8) : cutB 47 s = Kf.parts s := by
  induction s with
  | nil => rfl
  | cons c r ih => simp only [cutB, Kf.parts, ih]; rfl
theorem cutB_ne (b : UInt8) (s : List UInt8) : cutB b s ≠ [] := by
  cases s with
  | nil => simp [cutB]
  | cons c r =>
    unfold cutB
    split
    · simp
    · split <;> simp
theorem cutB_hit (b : UInt8) (t : List UInt8) : cutB b (t ++ [b]) = cutB b t ++ [[]] := by
  induction t with
  | nil => simp [cutB]
  | cons c r ih =>
    simp only [List.cons_append, cutB, ih]
    split
    · simp
    · cases h : cutB b r with
      | nil => exact absurd h (cutB_ne b r)
      | cons p ps => simp
theorem cutB_miss (b x : UInt8) (hx : x ≠ b) (t : List UInt8) : ∀ (o : List (List UInt8)) (l : List UInt8), cutB b t = o ++ [l] → cutB b (t ++ [x]) = o ++ [l ++ [x]] := by
  induction t with
  | nil =>
    intro o l h
    have h' : o ++ [l] = [] ++ [[]] := h.symm
    obtain ⟨rfl, e⟩ := List.append_inj' h' rfl
    simp at e
    subst e
    simp [cutB, hx]
  | cons c r ih =>
    intro o l h
    simp only [List.cons_append, cutB] at h ⊢
    by_cases hc : c = b
    · rw [if_pos hc] at h ⊢
      cases o with
      | nil =>
        simp at h
        exact absurd h.2 (cutB_ne b r)
      | cons q o =>
        simp at h
        obtain ⟨rfl, h⟩ := h
        rw [ih o l h]
        simp
    · rw [if_neg hc] at h ⊢
      cases hr : cutB b r with
      | nil => exact absurd hr (cutB_ne b r)
      | cons p ps =>
        rw [hr] at h
        simp only at h
        cases o with
        | nil =>
          simp at h
          obtain ⟨rfl, rfl⟩ := h
          have := ih [] p (by simpa using hr)
          rw [this]
          simp
        | cons q o =>
          simp at h
          obtain ⟨rfl, rfl⟩ := h
          have := ih (p :: o) l (by simpa using hr)
          rw [this]
          simp

/-- A text's bytes, behind a name that the walk does not open. -/
structure Txt (bs : ByteArray) (s : List UInt8) : Prop where
  eq : bs = ba s
theorem txt (s : List UInt8) : ∃ bs, ba s = bs ∧ Txt bs s := ⟨_, rfl, ⟨rfl⟩⟩
theorem Txt.size {bs : ByteArray} {s : List UInt8} (h : Txt bs s) : bs.size = s.length := by rw [h.eq]; exact ba_size s
theorem Txt.get {bs : ByteArray} {s : List UInt8} (h : Txt bs s) (i : Nat) (h1 : i < s.length) (h2 : i < bs.size) : bs[i] = s[i] := by
  obtain ⟨rfl⟩ := h
  simp [ba]
  rfl
theorem Txt.extract {bs : ByteArray} {s : List UInt8} (h : Txt bs s) (f k : Nat) : bs.extract f k = ba ((s.take k).drop f) := by
  rw [h.eq]
  exact ba_eq (by rw [Lib.extract_data]; simp [List.drop_take])

theorem below_appended {w wr w1 : World} {n₀ : Nat} {e : TypeId} {size : Nat} {v : Value} {k : Nat} {xs : List Value} {tmp : Obj}
    (hB : Below n₀ w wr) (hn : n₀ ≤ wr.heap.size) (hrow : wr.ownsRow n₀ e size v k xs) (hgrow : (wr.alloc tmp).grownBy w1 v.ownBlock) : Below n₀ w w1 := by
  refine (hB.alloc hn tmp).grown hgrow (by simp; omega) fun j ej => ?_
  rcases hrow.2 with ⟨rfl, _⟩ | ⟨g, cap, cur, rfl, hb, _, _⟩
  · simp [Value.ownBlock] at ej
  · obtain rfl : g = j := by simpa [Value.ownBlock] using ej
    exact hb

set_option maxRecDepth 100000 in
set_option maxHeartbeats 2000000 in
theorem rCut_calls (s : List UInt8) (hs : s.length ≤ 1000000) (b : UInt8) (n : Int) (hn : n = (b.toNat : Int)) (w : World) :
    Calls Tryz.prog 57 #[.string (ba s), .int .u8 n] w fun e w' => ∃ v, e = .returned v ∧ w'.ownsRow w.heap.size 9 1 v (cutB b s).length ((cutB b s).map sv) ∧ Below w.heap.size w w' := by
  obtain ⟨i0, hi, hz0, hz1, hz2⟩ := info_parts Tryz.infoStr
  obtain ⟨bs, eb, T⟩ := txt s
  rw [eb]
  clear eb
  have hsz : bs.size ≤ 1000000 := by rw [T.size]; exact hs
  go_enter Tryz.func57, Tryz.ntmps57
  go_wp2
  go_loopw [5, 6, 7] (fun out fr i wr => ∃ (k f : Nat) (o : List (List UInt8)), k ≤ s.length ∧ f ≤ k ∧ i = .int .i64 k ∧ fr = .int .i64 f ∧ cutB b (s.take k) = o ++ [(s.take k).drop f] ∧ o.length ≤ k ∧ wr.ownsRow w.heap.size 9 1 out o.length (o.map sv) ∧ Below w.heap.size w wr) (fun _ _ i _ => s.length - (intOf i).toNat)
  case atStart => exact ⟨0, 0, [], by omega, by omega, rfl, rfl, by simp [cutB], by simp, World.ownsRow_nil _ _ _ _, Below.refl _ _⟩
  case round =>
    obtain ⟨k, f, o, hk, hf, rfl, rfl, hcut, hol, hrow, hB⟩ := hrel
    have HC : Hid (cutB b (s.take k) = o ++ [(s.take k).drop f]) := hcut
    clear hcut
    by_cases hlt : k < s.length
    · have hlt2 : k < bs.size := by rw [T.size]; exact hlt
      have hfb : f ≤ bs.size := by omega
      have hkb : k ≤ bs.size := by omega
      have hml : o.length + 1 ≤ maxLen := by unfold maxLen; omega
      have hbz : w.heap.size ≤ wr.heap.size := hB.size
      have HN : Hid (n = (b.toNat : Int)) := hn
      clear hn
      go_wp2_with (at_builtin; refine wpList_append_own _ rfl _ _ 41 rfl w.heap.size 9 i0 (.string ⟨#[]⟩) 1 16 Tryz.underlying41 hi hz0 hz1 hz2 rfl (by decide) _ _ _ rfl (hrow.alloc _) ⟨wr.heap.size, 0, none⟩ 1 1 [.string (bs.extract f k)] rfl rfl (cell_one_new _ _ _) (by simp [Value.oneCell']) hml (by omega) (by simp; omega) ?_; intro v' w1 hown' hgrow _)
      · have e1 : ((bs[k].toNat : Int) == n) = true := by assumption
        have e2 : s[k] = b := by
          rw [T.get k hlt hlt2, HN.out] at e1
          have := eq_of_beq e1
          exact UInt8.toNat_inj.1 (by omega)
        have e3 : cutB b (s.take (k + 1)) = (o ++ [(s.take k).drop f]) ++ [(s.take (k + 1)).drop (k + 1)] := by
          rw [List.drop_of_length_le (i := k + 1) (by simp; omega), List.take_succ_eq_append_getElem hlt, e2, cutB_hit, HC.out]
        have e4 : .string (bs.extract f k) = sv ((s.take k).drop f) := by rw [T.extract]
        refine ⟨⟨k + 1, k + 1, o ++ [(s.take k).drop f], by omega, by omega, by go_num, by go_num, e3, by simp; omega, ?_, ?_⟩, by simp [intOf]; omega⟩
        · rw [e4] at hown'
          simpa using hown'
        · exact below_appended hB hbz hrow hgrow
      · have e1 : ((bs[k].toNat : Int) == n) = false := by assumption
        have e2 : s[k] ≠ b := by
          rw [T.get k hlt hlt2, HN.out] at e1
          intro e
          rw [e] at e1
          simp at e1
        have e3 : cutB b (s.take (k + 1)) = o ++ [(s.take (k + 1)).drop f] := by
          rw [List.take_succ_eq_append_getElem hlt, cutB_miss b s[k] e2 _ o _ HC.out, List.drop_append_of_le_length (by simp; omega)]
        exact ⟨⟨k + 1, f, o, by omega, by omega, by go_num, rfl, e3, by omega, hrow, hB⟩, by simp [intOf]; omega⟩
    · have hkk : k = s.length := by omega
      have hfb : f ≤ bs.size := by rw [T.size]; omega
      have hml : o.length + 1 ≤ maxLen := by unfold maxLen; omega
      have hbz : w.heap.size ≤ wr.heap.size := hB.size
      have hge : (bs.size : Int) ≤ (k : Int) := by rw [T.size]; omega
      have HK : Hid (k = s.length) := hkk
      clear hn hkk
      go_wp2_with (at_builtin; refine wpList_append_own _ rfl _ _ 41 rfl w.heap.size 9 i0 (.string ⟨#[]⟩) 1 16 Tryz.underlying41 hi hz0 hz1 hz2 rfl (by decide) _ _ _ rfl (hrow.alloc _) ⟨wr.heap.size, 0, none⟩ 1 1 [.string (bs.extract f bs.size)] rfl rfl (cell_one_new _ _ _) (by simp [Value.oneCell']) hml (by omega) (by simp; omega) ?_; intro v' w1 hown' hgrow _)
      go_ret
      have e3 : cutB b s = o ++ [s.drop f] := by
        have := HC.out
        rw [HK.out, List.take_length] at this
        exact this
      have e4 : .string (bs.extract f bs.size) = sv (s.drop f) := by rw [T.extract, T.size, List.take_length]
      refine ⟨_, rfl, ?_, below_appended hB hbz hrow hgrow⟩
      rw [e3]
      rw [e4] at hown'
      simpa using hown'
end Go.Proofs.YtpkkhabiheobnaaGreatDoor
/- The document's answer's isName: the walk. -/
namespace Go.Proofs.YtpkkhabiheobnaaGreatDoor
open Go.RowKit Go.Shelf Go.Lib

/-- May a byte stand in a name (with stars)? -/
def byteOk (stars : Bool) (c : Nat) : Bool := letter c || (stars && c == 42)
def nameR (stars : Bool) (s : List UInt8) : Bool := !(decide (s = [])) && decide (s.length ≤ 12) && !(decide (s = [46])) && !(decide (s = [46, 46])) && s.all (fun b => byteOk stars b.toNat)

set_option maxRecDepth 100000 in
set_option maxHeartbeats 4000000 in
theorem rname_round (stars : Bool) (bs : ByteArray) (s : List UInt8) (T : Txt bs s) (hs : s.length ≤ 12) (h1 : ¬ s = []) (h3 : ¬ s = [46]) (h4 : ¬ s = [46, 46]) (w : World) :
    Calls Tryz.prog 58 #[.string bs, .bool stars] w fun e w' => e = .returned (.bool (s.all (fun b => byteOk stars b.toNat))) ∧ ∃ q, w' = w.drewN q := by
  have hz := T.size
  have hpos : 0 < s.length := List.length_pos_iff.2 h1
  have c0 : ¬ (bs.size : Int) < 1 := by omega
  have c1 : (bs.size : Int) ≤ 12 := by omega
  have e1 : bs.toList = s := by rw [T.eq, ba_toList]
  have c3 : (bs.toList == [46]) = false := by rw [e1]; simpa using h3
  have c4 : (bs.toList == [46, 46]) = false := by rw [e1]; simpa using h4
  have c0' : (1 : Int) ≤ (bs.size : Int) := by omega
  clear e1 h1 h3 h4
  go_enter Tryz.func58, Tryz.ntmps58
  go_wp2
  go_loopw [5] (fun i wr => ∃ k : Nat, k ≤ s.length ∧ i = .int .i64 k ∧ (s.take k).all (fun b => byteOk stars b.toNat) = true ∧ ∃ q, wr = w.drewN q) (fun i _ => s.length - (intOf i).toNat)
  case atStart => exact ⟨0, by omega, rfl, by simp, 0, rfl⟩
  case round =>
    obtain ⟨k, hk, rfl, hall, q, rfl⟩ := hrel
    have HA : Hid ((s.take k).all (fun b => byteOk stars b.toNat) = true) := hall
    clear hall
    by_cases hlt : k < s.length
    · have hlt2 : k < bs.size := by omega
      obtain ⟨c, hc⟩ : ∃ c : Nat, bs[k].toNat = c := ⟨_, rfl⟩
      have hsk : s[k].toNat = c := by rw [← hc, T.get k hlt hlt2]
      have hok : byteOk stars c = true → (s.take (k + 1)).all (fun b => byteOk stars b.toNat) = true := fun h => by
        rw [List.take_succ_eq_append_getElem hlt, List.all_append, HA.out]; simp [hsk, h]
      have hno : byteOk stars c = false → s.all (fun b => byteOk stars b.toNat) = false := fun h => by
        rw [List.all_eq_false]; exact ⟨s[k], List.getElem_mem hlt, by rw [hsk, h]; simp⟩
      have HOK : Hid (byteOk stars c = true → (s.take (k + 1)).all (fun b => byteOk stars b.toNat) = true) := hok
      have HNO : Hid (byteOk stars c = false → s.all (fun b => byteOk stars b.toNat) = false) := hno
      clear hok hno hsk HA
      by_cases hA : 97 ≤ c ∧ c ≤ 122
      · have a1 : (97 : Int) ≤ (c : Int) := by omega
        have a2 : (c : Int) ≤ 122 := by omega
        have hl : byteOk stars c = true := by simp [byteOk, letter]; omega
        have HK : Hid ((s.take (k + 1)).all (fun b => byteOk stars b.toNat) = true) := HOK.out hl
        clear hl HOK HNO hA
        go_wp2
        exact ⟨⟨k + 1, by omega, by go_num, HK.out, q, rfl⟩, by simp [intOf]; omega⟩
      by_cases hB : 48 ≤ c ∧ c ≤ 57
      · have a0 : ¬ (97 : Int) ≤ (c : Int) := by omega
        have a1 : (48 : Int) ≤ (c : Int) := by omega
        have a2 : (c : Int) ≤ 57 := by omega
        have hl : byteOk stars c = true := by simp [byteOk, letter]; omega
        have HK : Hid ((s.take (k + 1)).all (fun b => byteOk stars b.toNat) = true) := HOK.out hl
        clear hl HOK HNO hA hB
        go_wp2
        exact ⟨⟨k + 1, by omega, by go_num, HK.out, q, rfl⟩, by simp [intOf]; omega⟩
      by_cases h45 : c = 45
      · subst h45
        have HK : Hid ((s.take (k + 1)).all (fun b => byteOk stars b.toNat) = true) := HOK.out (by simp [byteOk, letter])
        clear HOK HNO hA hB
        go_wp2
        exact ⟨⟨k + 1, by omega, by go_num, HK.out, q, rfl⟩, by simp [intOf]; omega⟩
      by_cases h46 : c = 46
      · subst h46
        have HK : Hid ((s.take (k + 1)).all (fun b => byteOk stars b.toNat) = true) := HOK.out (by simp [byteOk, letter])
        clear HOK HNO hA hB
        go_wp2
        exact ⟨⟨k + 1, by omega, by go_num, HK.out, q, rfl⟩, by simp [intOf]; omega⟩
      by_cases h95 : c = 95
      · subst h95
        have HK : Hid ((s.take (k + 1)).all (fun b => byteOk stars b.toNat) = true) := HOK.out (by simp [byteOk, letter])
        clear HOK HNO hA hB
        go_wp2
        exact ⟨⟨k + 1, by omega, by go_num, HK.out, q, rfl⟩, by simp [intOf]; omega⟩
      have b45 : ((c : Int) == 45) = false := by simp; omega
      have b46 : ((c : Int) == 46) = false := by simp; omega
      have b95 : ((c : Int) == 95) = false := by simp; omega
      have hll : letter c = false := by simp [letter]; omega
      cases stars with
      | true =>
        by_cases h42 : c = 42
        · subst h42
          have HK : Hid ((s.take (k + 1)).all (fun b => byteOk true b.toNat) = true) := HOK.out (by simp [byteOk])
          clear HOK HNO hA hB b45 b46 b95 hll h45 h46 h95
          go_wp2
          exact ⟨⟨k + 1, by omega, by go_num, HK.out, q, rfl⟩, by simp [intOf]; omega⟩
        · have b42 : ((c : Int) == 42) = false := by simp; omega
          have HK : Hid (s.all (fun b => byteOk true b.toNat) = false) := HNO.out (by simp [byteOk, hll, h42])
          have hr : (97 ≤ c ∧ 122 < c) ∨ (c < 97 ∧ 48 ≤ c ∧ 57 < c) ∨ c < 48 := by omega
          clear HOK HNO hA hB hll h45 h46 h95 h42
          rcases hr with ⟨r1, r2⟩ | ⟨r1, r2, r3⟩ | r1
          · have d1 : (97 : Int) ≤ (c : Int) := by omega
            have d2 : decide ((c : Int) ≤ 122) = false := by simp; omega
            have d3 : (48 : Int) ≤ (c : Int) := by omega
            have d4 : decide ((c : Int) ≤ 57) = false := by simp; omega
            go_wp2
            go_ret
            exact ⟨ret_bool HK.out.symm, q, rfl⟩
          · have d1 : decide ((97 : Int) ≤ (c : Int)) = false := by simp; omega
            have d3 : (48 : Int) ≤ (c : Int) := by omega
            have d4 : decide ((c : Int) ≤ 57) = false := by simp; omega
            go_wp2
            go_ret
            exact ⟨ret_bool HK.out.symm, q, rfl⟩
          · have d1 : decide ((97 : Int) ≤ (c : Int)) = false := by simp; omega
            have d3 : decide ((48 : Int) ≤ (c : Int)) = false := by simp; omega
            go_wp2
            go_ret
            exact ⟨ret_bool HK.out.symm, q, rfl⟩
      | false =>
        have HK : Hid (s.all (fun b => byteOk false b.toNat) = false) := HNO.out (by simp [byteOk, hll])
        have hr : (97 ≤ c ∧ 122 < c) ∨ (c < 97 ∧ 48 ≤ c ∧ 57 < c) ∨ c < 48 := by omega
        clear HOK HNO hA hB hll h45 h46 h95
        rcases hr with ⟨r1, r2⟩ | ⟨r1, r2, r3⟩ | r1
        · have d1 : (97 : Int) ≤ (c : Int) := by omega
          have d2 : decide ((c : Int) ≤ 122) = false := by simp; omega
          have d3 : (48 : Int) ≤ (c : Int) := by omega
          have d4 : decide ((c : Int) ≤ 57) = false := by simp; omega
          go_wp2
          go_ret
          exact ⟨ret_bool HK.out.symm, q, rfl⟩
        · have d1 : decide ((97 : Int) ≤ (c : Int)) = false := by simp; omega
          have d3 : (48 : Int) ≤ (c : Int) := by omega
          have d4 : decide ((c : Int) ≤ 57) = false := by simp; omega
          go_wp2
          go_ret
          exact ⟨ret_bool HK.out.symm, q, rfl⟩
        · have d1 : decide ((97 : Int) ≤ (c : Int)) = false := by simp; omega
          have d3 : decide ((48 : Int) ≤ (c : Int)) = false := by simp; omega
          go_wp2
          go_ret
          exact ⟨ret_bool HK.out.symm, q, rfl⟩
    · have hge : (bs.size : Int) ≤ (k : Int) := by omega
      have HK : Hid (s.all (fun b => byteOk stars b.toNat) = true) := by
        have := HA.out
        rw [List.take_of_length_le (by omega)] at this
        exact this
      clear HA
      go_wp2
      go_ret
      exact ⟨ret_bool HK.out.symm, q, rfl⟩
end Go.Proofs.YtpkkhabiheobnaaGreatDoor
/- A name's bytes are letters. -/
namespace Go.Proofs.YtpkkhabiheobnaaGreatDoor
open Go.RowKit Go.Shelf Go.Lib

theorem decode_high (s : ByteArray) (i : Nat) (h : 128 ≤ (s.get! i).toNat) : 128 ≤ (Utf8.decode s i).1 := by
  unfold Utf8.decode
  simp only [Nat.add_zero]
  rw [if_neg (by omega)]
  have hr : 128 ≤ Utf8.runeError := by decide
  split
  · split
    · simpa using ‹_›
    · exact hr
  · split
    · split
      · rename_i h2
        simp at h2
        simp only
        omega
      · exact hr
    · split
      · split
        · rename_i h2
          simp at h2
          simp only
          omega
        · exact hr
      · exact hr
theorem decode_low (s : ByteArray) (i : Nat) (h : (s.get! i).toNat < 128) : Utf8.decode s i = ((s.get! i).toNat, 1) := by
  unfold Utf8.decode
  simp only [Nat.add_zero]
  rw [if_pos (by omega)]

theorem idx_bytes (p : Nat → Bool) (hp : ∀ x, 128 ≤ x → p x = false) (l : List UInt8) : ∀ (f pos : Nat), l.length ≤ pos + f →
    (decide (0 ≤ Lib.idxFuncFrom (fun x => !p x) true (ba l) f pos) = !((l.drop pos).all (fun b => p b.toNat)))
  | 0, pos, h => by
    simp [Lib.idxFuncFrom, List.drop_of_length_le (show l.length ≤ pos by omega)]
  | f + 1, pos, h => by
    unfold Lib.idxFuncFrom
    have hz := ba_size l
    by_cases hlt : pos < l.length
    · rw [if_pos (by rw [hz]; exact hlt)]
      have hget : ((ba l).get! pos) = l[pos] := by
        show (l.toArray)[pos]! = _
        rw [getElem!_pos _ _ (by simpa using hlt)]
        simp
      rw [List.drop_eq_getElem_cons hlt, List.all_cons]
      by_cases hc : l[pos].toNat < 128
      · rw [decode_low _ _ (by rw [hget]; exact hc), hget]
        simp only
        cases hpc : p l[pos].toNat with
        | true =>
          simp only [Bool.not_true, Bool.false_eq_true, if_false, Bool.true_and]
          exact idx_bytes p hp l f (pos + 1) (by omega)
        | false => simp
      · have h1 := decode_high (ba l) pos (by rw [hget]; omega)
        rw [hp _ h1, hp l[pos].toNat (by omega)]
        simp
    · rw [if_neg (by rw [hz]; exact hlt), List.drop_of_length_le (by omega)]
      simp

theorem letter_high (x : Nat) (h : 128 ≤ x) : letter x = false := by simp [letter]; omega

theorem name_letters {l : List UInt8} (h : nameK letter (ba l) = true) : ∀ b ∈ l, letter b.toNat = true := by
  have e := idx_bytes letter letter_high l (ba l).size 0 (by rw [ba_size]; omega)
  unfold nameK Lib.idxFunc at h
  rw [e] at h
  simp only [Bool.and_eq_true, Bool.not_not, List.drop_zero, List.all_eq_true] at h
  exact h.2

theorem byte_part : ∀ (s : List UInt8) (b : UInt8), b ∈ s → b = 47 ∨ ∃ x ∈ Kf.parts s, b ∈ x
  | c :: r, b, h => by
    unfold Kf.parts
    by_cases hc : c = 47
    · rw [if_pos hc]
      rcases List.mem_cons.1 h with rfl | h
      · exact .inl hc
      · exact (byte_part r b h).imp id fun ⟨x, hx, hb⟩ => ⟨x, List.mem_cons_of_mem _ hx, hb⟩
    · rw [if_neg hc]
      have hne := Kf.parts_ne r
      cases hp : Kf.parts r with
      | nil => exact absurd hp hne
      | cons p ps =>
        rcases List.mem_cons.1 h with rfl | h
        · exact .inr ⟨b :: p, by simp, by simp⟩
        · rcases byte_part r b h with rfl | ⟨x, hx, hb⟩
          · exact .inl rfl
          · rw [hp] at hx
            rcases List.mem_cons.1 hx with rfl | hx
            · exact .inr ⟨c :: x, by simp, List.mem_cons_of_mem _ hb⟩
            · exact .inr ⟨x, by simp [hx], hb⟩
theorem path_bytes {s : List UInt8} (h : pathB s = true) : ∀ b ∈ s, b ≠ 32 ∧ b ≠ 10 := by
  unfold pathB allB at h
  simp only [Bool.and_eq_true, decide_eq_true_eq, List.all_eq_true] at h
  intro b hb
  rcases byte_part s b hb with rfl | ⟨x, hx, hbx⟩
  · decide
  · have := name_letters (h.2 x hx) b hbx
    refine ⟨fun e => ?_, fun e => ?_⟩ <;> subst e <;> simp [letter] at this
end Go.Proofs.YtpkkhabiheobnaaGreatDoor
/- The document's answer's partsOf and IsPath: the walks; and that they ask what package path asks. -/
namespace Go.Proofs.YtpkkhabiheobnaaGreatDoor
open Go.RowKit Go.Shelf Go.Lib

/-- Runes that are all letters are bytes that are all letters. -/
theorem nameK_R (l : List UInt8) : nameK letter (ba l) = nameR false l := by
  have h := idx_bytes letter letter_high l (ba l).size 0 (by rw [ba_size]; omega)
  unfold nameK nameR Lib.idxFunc
  rw [h, ba_toList, ba_size]
  simp [byteOk]

set_option maxHeartbeats 1000000 in
theorem risName_calls (stars : Bool) (s : List UInt8) (hs : s.length ≤ 1000000) (w : World) :
    Calls Tryz.prog 58 #[.string (ba s), .bool stars] w fun e w' => e = .returned (.bool (nameR stars s)) ∧ ∃ q, w' = w.drewN q := by
  obtain ⟨bs, eb, T⟩ := txt s
  rw [eb]
  clear eb
  have hz := T.size
  have e1 : bs.toList = s := by rw [T.eq, ba_toList]
  by_cases h1 : s = []
  · have e : nameR stars s = false := by simp [nameR, h1]
    have c0 : (bs.size : Int) < 1 := by rw [hz, h1]; simp
    have HE : Hid (nameR stars s = false) := e
    clear e e1 hz h1
    go_enter Tryz.func58, Tryz.ntmps58
    go_wp2
    go_ret
    exact ⟨ret_bool HE.out.symm, 0, rfl⟩
  have hpos : 0 < s.length := List.length_pos_iff.2 h1
  have c0 : (1 : Int) ≤ (bs.size : Int) := by omega
  by_cases h2 : 12 < s.length
  · have e : nameR stars s = false := by simp [nameR]; intros; omega
    have c1 : (12 : Int) < (bs.size : Int) := by omega
    have HE : Hid (nameR stars s = false) := e
    clear e e1 hz h1
    go_enter Tryz.func58, Tryz.ntmps58
    go_wp2
    go_ret
    exact ⟨ret_bool HE.out.symm, 0, rfl⟩
  have c1 : (bs.size : Int) ≤ 12 := by omega
  by_cases h3 : s = [46]
  · have e : nameR stars s = false := by simp [nameR, h3]
    have c3 : (bs.toList == [46]) = true := by rw [e1, h3]; rfl
    have c3' : bs.toList = [46] := by rw [e1, h3]
    have HE : Hid (nameR stars s = false) := e
    clear e e1 hz h1 h3
    go_enter Tryz.func58, Tryz.ntmps58
    go_wp2
    go_ret
    exact ⟨ret_bool HE.out.symm, 0, rfl⟩
  by_cases h4 : s = [46, 46]
  · have e : nameR stars s = false := by simp [nameR, h4]
    have c3 : (bs.toList == [46]) = false := by rw [e1, h4]; rfl
    have c4 : (bs.toList == [46, 46]) = true := by rw [e1, h4]; rfl
    have HE : Hid (nameR stars s = false) := e
    clear e e1 hz h1 h3 h4
    go_enter Tryz.func58, Tryz.ntmps58
    go_wp2
    go_ret
    exact ⟨ret_bool HE.out.symm, 0, rfl⟩
  have e : nameR stars s = s.all (fun b => byteOk stars b.toNat) := by
    unfold nameR
    simp [h1, h3, h4, show s.length ≤ 12 by omega]
  rw [e]
  exact rname_round stars bs s T (by omega) h1 h3 h4 w

/-- Parts of a path, or of a pattern. -/
def okR (stars : Bool) (s : List UInt8) : Bool := decide ((Kf.parts s).length ≤ 5) && (Kf.parts s).all (fun p => nameR stars p)

theorem pathB_R (s : List UInt8) : pathB s = okR false s := by
  unfold pathB allB okR
  congr 1
  exact List.all_congr rfl (fun p => nameK_R p)

theorem part_len {s p : List UInt8} (h : p ∈ Kf.parts s) : p.length ≤ s.length := by
  have h1 := Kf.tot_parts s
  obtain ⟨a, b, e⟩ := List.append_of_mem h
  rw [e] at h1
  simp [Kf.tot] at h1
  omega


set_option maxRecDepth 100000 in
set_option maxHeartbeats 2000000 in
theorem partsOf_calls (stars : Bool) (s : List UInt8) (hs : s.length ≤ 1000000) (w : World) :
    Calls Tryz.prog 40 #[.string (ba s), .bool stars] w fun e w' => ∃ v, e = .returned v ∧ ((okR stars s = true ∧ w'.ownsRow w.heap.size 9 1 v (Kf.parts s).length ((Kf.parts s).map sv)) ∨ (okR stars s = false ∧ v = .slice none 0 0)) ∧ Below w.heap.size w w' := by
  go_enter Tryz.func40, Tryz.ntmps40
  go_wp2_with fail
  refine (rCut_calls s hs 47 47 rfl w).mono ?_
  rintro e w1 ⟨v, rfl, hrow, hB⟩
  rw [cutB_parts] at hrow
  obtain ⟨m, hm⟩ : ∃ m, (Kf.parts s).length = m + 1 := ⟨(Kf.parts s).length - 1, by have := List.length_pos_iff.2 (Kf.parts_ne s); omega⟩
  obtain ⟨g, cap, rfl⟩ : ∃ g cap, v = .slice (some ⟨g, 0, none⟩) (Kf.parts s).length cap := by
    rw [hm] at hrow ⊢; exact ownsRow_succ hrow
  obtain ⟨o1, o2, o3⟩ := owns_cells hrow
  have hlen := Kf.parts_len s
  have hpl : ∀ p ∈ Kf.parts s, p.length ≤ 1000000 := fun p hp => Nat.le_trans (part_len hp) hs
  have HO : Hid (okR stars s = (decide ((Kf.parts s).length ≤ 5) && (Kf.parts s).all (fun p => nameR stars p))) := rfl
  clear hm o2 o3
  by_cases h5 : 5 < (Kf.parts s).length
  · have hf : okR stars s = false := by rw [HO.out]; simp; intros; omega
    have c5 : (5 : Int) < ((Kf.parts s).length : Int) := by omega
    have HF : Hid (okR stars s = false) := hf
    clear hf o1 hlen hpl hrow
    go_wp2
    go_ret
    exact ⟨_, rfl, .inr ⟨HF.out, rfl⟩, hB⟩
  · have c5 : ((Kf.parts s).length : Int) ≤ 5 := by omega
    have HR : Hid (w1.ownsRow w.heap.size 9 1 (.slice (some ⟨g, 0, none⟩) (Kf.parts s).length cap) (Kf.parts s).length ((Kf.parts s).map sv)) := hrow
    clear hrow hlen
    go_wp2
    go_loopw [6] (fun i wr => ∃ k : Nat, k ≤ (Kf.parts s).length ∧ i = .int .i64 k ∧ ((Kf.parts s).take k).all (fun p => nameR stars p) = true ∧ ∃ q, wr = w1.drewN q) (fun i _ => (Kf.parts s).length - (intOf i).toNat)
    case atStart => exact ⟨0, by omega, rfl, by simp, 0, rfl⟩
    case round =>
      obtain ⟨k, hk, rfl, hall, q, rfl⟩ := hrel
      have HA : Hid (((Kf.parts s).take k).all (fun p => nameR stars p) = true) := hall
      clear hall
      by_cases hlt : k < (Kf.parts s).length
      · have hck : w1.cell? ⟨g, k, none⟩ = some (.string (ba (Kf.parts s)[k])) := by
          have := o1 k (ba (Kf.parts s)[k]) (by rw [List.getElem?_map, List.getElem?_eq_getElem hlt]; rfl)
          simpa using this
        have hpk := hpl (Kf.parts s)[k] (List.getElem_mem hlt)
        have c1 : (k : Int) < ((Kf.parts s).length : Int) := by omega
        have c0 : (0 : Int) ≤ (k : Int) := by omega
        generalize hy : (Kf.parts s)[k] = y at *
        have HY : Hid ((Kf.parts s)[k] = y) := hy
        clear hy o1 hpl
        cases hn : nameR stars y with
        | true =>
          have HN : Hid (nameR stars y = true) := hn
          clear hn
          go_wp2_with fail
          have hc := risName_calls stars y hpk (w1.drewN q)
          rw [HN.out] at hc
          refine hc.mono ?_
          rintro e w2 ⟨rfl, q2, rfl⟩
          clear hc
          go_wp2
          refine ⟨⟨k + 1, by omega, by go_num, ?_, q + q2, ?_⟩, by simp [intOf]; omega⟩
          · rw [List.take_succ_eq_append_getElem hlt, List.all_append, HA.out, HY.out]
            simp [HN.out]
          · simp [World.drewN]
        | false =>
          have hf : okR stars s = false := by
            rw [HO.out]
            have : (Kf.parts s).all (fun p => nameR stars p) = false := by
              rw [List.all_eq_false]
              exact ⟨(Kf.parts s)[k], List.getElem_mem hlt, by rw [HY.out, hn]; simp⟩
            rw [this, Bool.and_false]
          have HF : Hid (okR stars s = false) := hf
          have HN : Hid (nameR stars y = false) := hn
          clear hn hf
          go_wp2_with fail
          have hc := risName_calls stars y hpk (w1.drewN q)
          rw [HN.out] at hc
          refine hc.mono ?_
          rintro e w2 ⟨rfl, q2, rfl⟩
          clear hc
          go_wp2
          go_ret
          exact ⟨_, rfl, .inr ⟨HF.out, rfl⟩, below_draws hB _⟩
      · have hf : okR stars s = true := by
          rw [HO.out]
          have := HA.out
          rw [List.take_of_length_le (by omega)] at this
          rw [this]
          simp; omega
        have HF : Hid (okR stars s = true) := hf
        have c1 : ((Kf.parts s).length : Int) ≤ (k : Int) := by omega
        clear hf o1 hpl
        go_wp2
        go_ret
        exact ⟨_, rfl, .inl ⟨HF.out, HR.out.kept (grownBy_drewN _ _) (.inr (by simp [Value.ownBlock]))⟩, below_draws hB q⟩

theorem IsPath_calls (s : List UInt8) (hs : s.length ≤ 1000000) (w : World) :
    Calls Tryz.prog 36 #[.string (ba s)] w fun e w' => e = .returned (.bool (okR false s)) ∧ Below w.heap.size w w' := by
  have hne := List.length_pos_iff.2 (Kf.parts_ne s)
  go_enter Tryz.func36, Tryz.ntmps36
  go_wp2_with fail
  refine (partsOf_calls false s hs w).mono ?_
  rintro e w1 ⟨v, rfl, (⟨ho, hrow⟩ | ⟨ho, rfl⟩), hB⟩
  · have HO : Hid (okR false s = true) := ho
    obtain ⟨a, n, c, rfl, hn⟩ : ∃ a n c, v = .slice a n c ∧ 0 < n := by
      rcases hrow.2 with ⟨_, h⟩ | ⟨g, cap, cur, h, _⟩
      · omega
      · exact ⟨_, _, _, h, hne⟩
    have hn' : (0 : Int) < (n : Int) := by omega
    clear ho hrow hne
    go_wp2
    go_ret
    exact ⟨ret_bool (by rw [HO.out]), hB⟩
  · have HO : Hid (okR false s = false) := ho
    clear ho
    go_wp2
    go_ret
    exact ⟨ret_bool HO.out.symm, hB⟩
end Go.Proofs.YtpkkhabiheobnaaGreatDoor
