/- Walks of strings.Cut at a separator, of package path's iterator over parts, and of Check: a text is a path just where 'pathB' says so. -/
import Derived.Test.YtigcogfjclohjaaGreatDoorPart
namespace Go.Proofs.YtigcogfjclohjaaGreatDoor
open Go.RowKit Go.Shelf Go.Lib

attribute [local go_sem] Oper.semAt_some

abbrev ba (l : List UInt8) : ByteArray := ⟨l.toArray⟩

theorem grownBy_drewN (w : World) (q : Nat) : w.grownBy (w.drewN q) none := ⟨rfl, rfl, rfl, Nat.le_refl _, fun _ _ _ => rfl⟩

theorem ba_eq {s : ByteArray} {l : List UInt8} (h : s.data.toList = l) : s = ba l := by
  subst h; rfl
theorem ba_inj {a b : List UInt8} (h : ba a = ba b) : a = b := by
  have := congrArg (fun s : ByteArray => s.data.toList) h
  simpa using this
theorem ba_size (l : List UInt8) : (ba l).size = l.length := by simp [ByteArray.size]
theorem ba_toList (l : List UInt8) : (ba l).toList = l := by
  rw [Lib.toList_data]

set_option maxHeartbeats 1000000 in
theorem sliteCut_miss (s : ByteArray) (h : Lib.indexByte s.data.toList 47 = -1) (w : World) :
    Calls Tryz.prog 114 #[.string s, .string ⟨#[47]⟩] w fun e w' => e = .returned (.tuple #[.string s, .string ⟨#[]⟩, .bool false]) ∧ ∃ q, w' = w.drewN q := by
  have H : Hid (Lib.indexByte s.data.toList 47 = -1) := h
  clear h
  go_enter Tryz.func114, Tryz.ntmps114
  go_wp2_with fail
  refine (Tryz.stringslite_Index_one _ _ _).mono ?_
  rintro e w' ⟨rfl, rfl⟩
  rw [H.out]
  go_wp2
  go_ret3
  exact ⟨rfl, 0, rfl⟩

set_option maxHeartbeats 1000000 in
theorem sliteCut_hit (s : ByteArray) (i : Nat) (h : Lib.indexByte s.data.toList 47 = (i : Int)) (hi : i < s.size) (hs : s.size ≤ 1000000) (w : World) :
    Calls Tryz.prog 114 #[.string s, .string ⟨#[47]⟩] w fun e w' => e = .returned (.tuple #[.string (s.extract 0 i), .string (s.extract (i + 1) s.size), .bool true]) ∧ ∃ q, w' = w.drewN q := by
  have H : Hid (Lib.indexByte s.data.toList 47 = (i : Int)) := h
  clear h
  have c1 : (0 : Int) ≤ (i : Int) := by omega
  have c2 : (i : Int) ≤ (s.size : Int) := by omega
  have c3 : (0 : Int) ≤ (i : Int) + 1 := by omega
  have c4 : (i : Int) + 1 ≤ (s.size : Int) := by omega
  have c5 : (s.size : Int) ≤ 1000000 := by omega
  go_enter Tryz.func114, Tryz.ntmps114
  go_wp2_with fail
  refine (Tryz.stringslite_Index_one _ _ _).mono ?_
  rintro e w' ⟨rfl, rfl⟩
  rw [H.out]
  go_wp2
  go_region
  go_wp2
  go_ret3
  exact ⟨rfl, 1, rfl⟩

theorem strCut_miss (l : List UInt8) (h : Lib.indexByte l 47 = -1) (w : World) :
    Calls Tryz.prog 77 #[.string (ba l), .string ⟨#[47]⟩] w fun e w' => e = .returned (.tuple #[.string (ba l), .string (ba []), .bool false]) ∧ ∃ q, w' = w.drewN q := by
  generalize hs : ba l = s
  have h' : Lib.indexByte s.data.toList 47 = -1 := by rw [← hs]; exact h
  clear hs h
  go_enter Tryz.func77, Tryz.ntmps77
  go_wp2_with fail
  refine (sliteCut_miss s h' _).mono ?_
  rintro e w' ⟨rfl, q, rfl⟩
  go_wp2
  go_ret3
  exact ⟨rfl, q, rfl⟩

theorem strCut_hit (l : List UInt8) (i : Nat) (h : Lib.indexByte l 47 = (i : Int)) (hi : i < l.length) (hl : l.length ≤ 1000000) (w : World) :
    Calls Tryz.prog 77 #[.string (ba l), .string ⟨#[47]⟩] w fun e w' => e = .returned (.tuple #[.string (ba (l.take i)), .string (ba (l.drop (i + 1))), .bool true]) ∧ ∃ q, w' = w.drewN q := by
  have e1 : (ba l).extract 0 i = ba (l.take i) := ba_eq (by rw [Lib.extract_data]; simp)
  have e2 : (ba l).extract (i + 1) (ba l).size = ba (l.drop (i + 1)) := ba_eq (by rw [Lib.extract_to_end])
  have hz := ba_size l
  rw [← e1, ← e2]
  generalize hs : ba l = s at *
  have h' : Hid (Lib.indexByte s.data.toList 47 = (i : Int)) := by rw [← hs]; exact h
  clear hs h e1 e2
  have hi' : i < s.size := by omega
  have hl' : s.size ≤ 1000000 := by omega
  clear hz hi hl
  go_enter Tryz.func77, Tryz.ntmps77
  go_wp2_with fail
  refine (sliteCut_hit s i h'.out hi' hl' _).mono ?_
  rintro e w' ⟨rfl, q, rfl⟩
  go_wp2
  go_ret3
  exact ⟨rfl, q, rfl⟩

theorem strCut_any (l : List UInt8) (hl : l.length ≤ 1000000) : ∃ (p r : List UInt8) (m : Bool), (m = true → Kf.parts l = p :: Kf.parts r ∧ r.length < l.length) ∧ (m = false → Kf.parts l = [p]) ∧
    ∀ w : World, Calls Tryz.prog 77 #[.string (ba l), .string ⟨#[47]⟩] w fun e w' => e = .returned (.tuple #[.string (ba p), .string (ba r), .bool m]) ∧ ∃ q, w' = w.drewN q := by
  rcases Kf.index_cases l with hm | ⟨i, hi⟩
  · exact ⟨l, [], false, (fun h => by cases h), fun _ => Kf.parts_miss l hm, fun w => strCut_miss l hm w⟩
  · obtain ⟨h1, h2⟩ := Kf.parts_hit l i hi
    exact ⟨l.take i, l.drop (i + 1), true, fun _ => ⟨h1, by simp; omega⟩, (fun h => by cases h), fun w => strCut_hit l i hi h2 hl w⟩

/-- How much is still to come, off the two slots: for the loop's measure. -/
def ahead (r m : Value) : Nat :=
  match r, m with
  | .string s, .bool true => s.size + 1
  | _, _ => 0

set_option maxRecDepth 100000 in
set_option maxHeartbeats 1000000 in
/-- parts' function literal: whatever the loop body, it is handed the text's parts, one by one. -/
theorem parts1_in (n : Nat) (hn : 1 ≤ n) (l Bn n₀ : Nat) (s : List UInt8) (hs : s.length ≤ 1000000) (J Jx : List (List UInt8) → World → Prop) (B : Nat) (hJ : AbidesFrom B J)
    (hY : ∀ pre x W, J pre W → pre.length < (Kf.parts s).length → YieldAt Fence.wide (n - 1) Tryz.prog l #[.string (ba x)] W fun e W' =>
      (e = .returned (.bool true) ∧ J (pre ++ [x]) W' ∧ Below n₀ W W') ∨ (e = .returned (.bool false) ∧ Jx (pre ++ [x]) W'))
    (W : World) (hBn : W.cell? ⟨Bn, 0, none⟩ = some (.string (ba s))) (h0 : J [] W) :
    CallsIn Fence.wide n Tryz.prog 97 #[.func (.yield l) #[] #[], .pointer (some ⟨Bn, 0, none⟩)] W fun e W' => (∃ v, e = .returned v) ∧
      ((∃ ys, ys = Kf.parts s ∧ J ys W') ∨ (∃ pre, pre <+: Kf.parts s ∧ Jx pre W')) := by
  have hfc : Fence.wide.fn 77 := trivial
  refine callsIn_of_wp Tryz.func97 rfl trivial ?_ rfl
  simp only [Tryz.ntmps97, List.size_toArray, List.length_cons, List.length_nil, Nat.reduceAdd, Nat.reduceSub, Array.replicate_succ, Array.replicate_zero, List.push_toArray, List.append_toArray, List.nil_append, List.cons_append]
  gi_wp2
  gi_loopw [3, 4, 5] (fun rest more _ wr => ∃ pre, J pre wr ∧ ((∃ r : List UInt8, r.length ≤ 1000000 ∧ rest = .string (ba r) ∧ more = .bool true ∧ Kf.parts s = pre ++ Kf.parts r) ∨ (more = .bool false ∧ (∃ r, rest = .string r) ∧ Kf.parts s = pre)))
    (fun rest more _ _ => ahead rest more)
  case atStart =>
    exact ⟨[], h0, .inl ⟨s, hs, rfl, rfl, rfl⟩⟩
  case round =>
    obtain ⟨pre, hJs, ⟨r, hr, rfl, rfl, hx⟩ | ⟨rfl, ⟨r, rfl⟩, hx⟩⟩ := hrel
    · obtain ⟨p, r', m, hm1, hm2, hcut⟩ := strCut_any r hr
      have hlen : pre.length < (Kf.parts s).length := by
        rw [hx]
        have := Kf.parts_ne r
        have : 0 < (Kf.parts r).length := List.length_pos_iff.2 this
        simp; omega
      have HX := show Hid (Kf.parts s = pre ++ Kf.parts r) from hx
      clear hx
      gi_wp2_with fail
      refine (callsIn_wide.2 (hcut _)).mono ?_
      rintro e w1 ⟨rfl, q, rfl⟩
      have hJ1 : J pre (wr.drewN q) := hJ pre wr _ none hJs (grownBy_drewN wr q) (by simp)
      obtain ⟨fn, tmps, assign, body, hy, hR⟩ := hY pre p _ hJ1 hlen
      gi_wp2
      refine hR.mono ?_
      rintro e W3 (⟨rfl, hJ3, hk3⟩ | ⟨rfl, hJx3⟩)
      · gi_wp2
        go_roundw
        case rel =>
          refine ⟨pre ++ [p], hJ3, ?_⟩
          cases m with
          | true =>
            obtain ⟨e1, e2⟩ := hm1 rfl
            exact .inl ⟨r', by omega, rfl, rfl, by rw [HX.out, e1]; simp⟩
          | false => exact .inr ⟨rfl, ⟨_, rfl⟩, by rw [HX.out, hm2 rfl]⟩
        case measure =>
          cases m with
          | true =>
            obtain ⟨e1, e2⟩ := hm1 rfl
            simp [ahead, ByteArray.size]; omega
          | false => simp [ahead]
      · gi_wp2
        refine bodyPost_ret (results_none rfl _ _ _) rfl ?_
        refine ⟨⟨_, rfl⟩, .inr ⟨pre ++ [p], ?_, hJx3⟩⟩
        rw [HX.out]
        cases m with
        | true => rw [(hm1 rfl).1]; exact ⟨Kf.parts r', by simp⟩
        | false => rw [hm2 rfl]; exact List.prefix_refl _
    · gi_wp2
      go_end0
      exact ⟨⟨_, rfl⟩, .inl ⟨pre, hx.symm, hJs⟩⟩
end Go.Proofs.YtigcogfjclohjaaGreatDoor
