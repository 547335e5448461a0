/- The document's answer's CleanOf: the walk: it tells what package path's Clean tells. -/
import Derived.Test.YtpkkhabiheobnaaDoorClean
import Derived.Test.YtpkkhabiheobnaaDoorRPath
namespace Go.Proofs.YtpkkhabiheobnaaDoor
open Go.RowKit Go.Shelf Go.Lib

/-- CleanOf's two results. -/
def cleanRV (r : Except Nat (List UInt8)) : Value :=
  match r with
  | .ok t => .tuple #[.string (ba t), .int .i64 0]
  | .error k => .tuple #[.string (ba []), .int .i64 (k : Nat)]

theorem ba_app (a b : List UInt8) : ba a ++ ba b = ba (a ++ b) := ba_eq (by simp)

theorem join_take_len (a : List (List UInt8)) (k : Nat) : (Lib.join (a.take k) [47]).length ≤ (Lib.join a [47]).length := by
  by_cases h : a.take k = []
  · rw [h]; simp [Lib.join_nil]
  · have ha : a ≠ [] := fun e => h (by rw [e]; simp)
    have h1 := Kf.join_tot _ h
    have h2 := Kf.join_tot _ ha
    have h3 : Kf.tot a = Kf.tot (a.take k) + Kf.tot (a.drop k) := by
      unfold Kf.tot
      rw [← List.sum_append, ← List.map_append, List.take_append_drop]
    omega

set_option maxRecDepth 100000 in
set_option maxHeartbeats 4000000 in
theorem CleanOf_short (s : List UInt8) (h : s.length ≤ 200) (w : World) :
    Calls Tryd.prog 16 #[.string (ba s)] w fun e w' => e = .returned (cleanRV (clean s)) ∧ Below w.heap.size w w' := by
  have hz : ((ba s).size : Int) ≤ 200 := by rw [ba_size]; omega
  have hz' : (s.length : Int) ≤ 200 := by omega
  have hn : ¬ 200 < s.length := by omega
  obtain ⟨i0, hi, hz0, hz1, hz2⟩ := info_parts Tryd.infoStr
  go_enter Tryd.func16, Tryd.ntmps16
  go_wp2_with fail
  refine (rCut_calls s (by omega) 47 47 rfl w).mono ?_
  rintro e w1 ⟨v, rfl, hrow, hB⟩
  rw [cutB_parts] at hrow
  obtain ⟨m, hm⟩ : ∃ m, (Kf.parts s).length = m + 1 := ⟨(Kf.parts s).length - 1, by have := List.length_pos_iff.2 (Kf.parts_ne s); omega⟩
  obtain ⟨g, cap, rfl⟩ : ∃ g cap, v = .slice (some ⟨g, 0, none⟩) (Kf.parts s).length cap := by
    rw [hm] at hrow ⊢; exact ownsRow_succ hrow
  obtain ⟨o1, o2, o3⟩ := owns_cells hrow
  have hlen := Kf.parts_len s
  have hln : (Kf.parts s).length ≤ 201 := by omega
  clear hm o3 hrow hlen
  go_wp2
  go_loopw [5, 6] (fun out i wr => ∃ (k : Nat) (a : List (List UInt8)), k ≤ (Kf.parts s).length ∧ i = .int .i64 k ∧ Kf.left ((Kf.parts s).take k) = some a ∧ wr.ownsRow w1.heap.size 9 1 out a.length (a.map sv) ∧ Below w1.heap.size w1 wr) (fun _ i _ => (Kf.parts s).length - (intOf i).toNat)
  case atStart => exact ⟨0, [], by omega, rfl, rfl, World.ownsRow_nil _ _ _ _, Below.refl _ _⟩
  case round =>
    obtain ⟨k, a, hk, rfl, hleft, hrow, hbr⟩ := hrel
    have HL : Hid (Kf.left ((Kf.parts s).take k) = some a) := hleft
    clear hleft
    have hal : a.length ≤ k := by
      have := Kf.left_len _ _ HL.out
      simp at this
      omega
    by_cases hlt : k < (Kf.parts s).length
    · have hck : wr.cell? ⟨g, k, none⟩ = some (.string (ba (Kf.parts s)[k])) := by
        have := o1 k (ba (Kf.parts s)[k]) (by rw [List.getElem?_map, List.getElem?_eq_getElem hlt]; rfl)
        rw [hbr.cell (p := ⟨g, k, none⟩) o2]
        simpa using this
      have c1 : (k : Int) < ((Kf.parts s).length : Int) := by omega
      have c0 : (0 : Int) ≤ (k : Int) := by omega
      have hst : ∀ y, (Kf.parts s)[k] = y → Kf.left ((Kf.parts s).take (k + 1)) = Kf.step (some a) y := fun y hy => by
        rw [List.take_succ_eq_append_getElem hlt, Kf.left_snoc, HL.out, hy]
      generalize hy : (Kf.parts s)[k] = y at *
      have HS : Hid (Kf.left ((Kf.parts s).take (k + 1)) = Kf.step (some a) y) := hst y rfl
      clear hy hst o1
      by_cases hx : y = [] ∨ y = [46]
      · have hf : Kf.left ((Kf.parts s).take (k + 1)) = some a := HS.out.trans (by simp [Kf.step, hx])
        have HF : Hid (Kf.left ((Kf.parts s).take (k + 1)) = some a) := hf
        clear hf
        clear HS
        rcases hx with rfl | rfl
        · go_wp2
          exact ⟨⟨k + 1, a, by omega, by go_num, HF.out, hrow, hbr⟩, by simp [intOf]; omega⟩
        · go_wp2
          exact ⟨⟨k + 1, a, by omega, by go_num, HF.out, hrow, hbr⟩, by simp [intOf]; omega⟩
      · have hx0 : ¬ y = [] := fun e => hx (.inl e)
        have hx1 : ¬ y = [46] := fun e => hx (.inr e)
        have d0 : y.isEmpty = false := by simpa using hx0
        have d1 : (y == [46]) = false := by simpa using hx1
        by_cases hx2 : y = [46, 46]
        · subst hx2
          by_cases ha : a = []
          · subst ha
            have HF : Hid (Kf.left (Kf.parts s) = none) := by
              have := Kf.left_app_none ((Kf.parts s).take (k + 1)) ((Kf.parts s).drop (k + 1)) (by rw [HS.out]; simp [Kf.step])
              rw [List.take_append_drop] at this
              exact this
            have HR : Hid (cleanRV (clean s) = .tuple #[.string ⟨#[]⟩, .int .i64 3]) := by
              show cleanRV (clean s) = _
              simp [clean, HF.out, hn, cleanRV]
            have hrow2 := hrow.2
            clear HS HF hrow hx hx0 hx1 HL
            rcases hrow2 with ⟨rfl, _⟩ | ⟨g', cap', cur, rfl, _⟩
            · go_wp2
              go_ret2
              exact ⟨ret_eq HR.out.symm, hB.trans (hbr.mono hB.size)⟩
            · go_wp2
              go_ret2
              exact ⟨ret_eq HR.out.symm, hB.trans (hbr.mono hB.size)⟩
          · obtain ⟨a', b, hab⟩ : ∃ a' b, a = a' ++ [b] := ⟨_, _, (List.dropLast_concat_getLast ha).symm⟩
            subst hab
            have hf : Kf.left ((Kf.parts s).take (k + 1)) = some a' := HS.out.trans (by simp [Kf.step])
            have HF : Hid (Kf.left ((Kf.parts s).take (k + 1)) = some a') := hf
            clear hf
            simp only [List.length_append, List.length_cons, List.length_nil, Nat.zero_add, List.map_append, List.map_cons, List.map_nil] at hrow hal
            obtain ⟨g', cap', rfl⟩ := ownsRow_succ hrow
            have hcap : a'.length + 1 ≤ cap' := by
              rcases hrow.2 with ⟨h, _⟩ | ⟨g2, cap2, cur, h, _, _, hn', _⟩
              · cases h
              · cases h; exact hn'
            have hpop := ownsRow_pop (xs := a'.map sv) (by simp) hrow
            have HP : Hid (wr.ownsRow w1.heap.size 9 1 (.slice (some ⟨g', 0, none⟩) a'.length cap') a'.length (a'.map sv)) := hpop
            have e1 : (0 : Int) ≤ (a'.length : Int) := by omega
            have e2 : (a'.length : Int) ≤ (cap' : Int) := by omega
            have e3 : (a'.length : Int) ≤ 1000001 := by omega
            clear hpop hrow ha hx hx0 hx1 HS HL
            go_wp2
            exact ⟨⟨k + 1, a', by omega, by go_num, HF.out, HP.out, hbr⟩, by simp [intOf]; omega⟩
        · have hf : Kf.left ((Kf.parts s).take (k + 1)) = some (a ++ [y]) := HS.out.trans (by simp [Kf.step, hx0, hx1, hx2])
          have HF : Hid (Kf.left ((Kf.parts s).take (k + 1)) = some (a ++ [y])) := hf
          clear hf
          have d2 : (y == [46, 46]) = false := by simpa using hx2
          have hml : a.length + 1 ≤ maxLen := by unfold maxLen; omega
          have hbz : w1.heap.size ≤ wr.heap.size := hbr.size
          clear HS HL hx hx0 hx1 hx2
          go_wp2_with (at_builtin; refine wpList_append_own _ rfl _ _ 49 rfl w1.heap.size 9 i0 (.string ⟨#[]⟩) 1 16 Tryd.underlying49 hi hz0 hz1 hz2 rfl (by decide) _ _ _ rfl (hrow.alloc _) ⟨wr.heap.size, 0, none⟩ 1 1 [.string (ba y)] rfl rfl (cell_one_new _ _ _) (by simp [Value.oneCell']) hml (by omega) (by simp; omega) ?_; intro v' w2 hown' hgrow _)
          refine ⟨⟨k + 1, a ++ [y], by omega, by go_num, HF.out, ?_, below_appended hbr hbz hrow hgrow⟩, by simp [intOf]; omega⟩
          simpa using hown'
    · have HF : Hid (Kf.left (Kf.parts s) = some a) := by
        have := HL.out
        rw [List.take_of_length_le (by omega)] at this
        exact this
      have c1 : ((Kf.parts s).length : Int) ≤ (k : Int) := by omega
      have hbB := hB.trans (hbr.mono hB.size)
      clear HL o1 o2
      by_cases ha : a = []
      · subst ha
        have HR : Hid (cleanRV (clean s) = .tuple #[.string ⟨#[]⟩, .int .i64 6]) := by
          show cleanRV (clean s) = _
          simp [clean, HF.out, hn, cleanRV]
        have hrow2 := hrow.2
        clear hrow HF
        rcases hrow2 with ⟨rfl, _⟩ | ⟨g', cap', cur, rfl, _⟩
        · go_wp2
          go_ret2
          exact ⟨ret_eq HR.out.symm, hbB⟩
        · go_wp2
          go_ret2
          exact ⟨ret_eq HR.out.symm, hbB⟩
      · obtain ⟨m, hm⟩ : ∃ m, a.length = m + 1 := ⟨a.length - 1, by have := List.length_pos_iff.2 ha; omega⟩
        obtain ⟨g', cap', rfl⟩ : ∃ g' cap', u5 = .slice (some ⟨g', 0, none⟩) a.length cap' := by
          rw [hm] at hrow ⊢; exact ownsRow_succ hrow
        obtain ⟨q1, q2, q3⟩ := owns_cells hrow
        have hjl := Kf.left_join s a HF.out ha
        have b0 : ((a.length : Int) == 0) = false := by simp; omega
        have b1 : (0 : Int) < (a.length : Int) := by omega
        have hcell : ∀ (j : Nat) (hj : j < a.length), wr.cell? ⟨g', j, none⟩ = some (.string (ba a[j])) := fun j hj => by
          have := q1 j (ba a[j]) (by rw [List.getElem?_map, List.getElem?_eq_getElem hj]; rfl)
          simpa using this
        have hc0 := hcell 0 (by omega)
        have HA : Hid (¬ a = []) := ha
        clear q1 q2 q3 hrow ha
        have hl0 : (Lib.join (a.take 1) [47]).length ≤ 1000000 := by
          have := join_take_len a 1
          omega
        have ht1 : a.take 1 = [a[0]] := by
          cases a with
          | nil => exact absurd rfl HA.out
          | cons x r => rfl
        have HT : Hid (ba a[0] = ba (Lib.join (a.take 1) [47])) := by
          show ba a[0] = ba (Lib.join (a.take 1) [47])
          rw [ht1, Lib.join_one]
        clear ht1
        go_wp2
        rw [HT.out]
        go_loop [7, 8] (fun t i => ∃ k : Nat, 1 ≤ k ∧ k ≤ a.length ∧ i = .int .i64 k ∧ t = .string (ba (Lib.join (a.take k) [47]))) (fun _ i => a.length - (intOf i).toNat)
        case atStart => exact ⟨1, by omega, by omega, rfl, rfl⟩
        case round =>
          obtain ⟨k2, hk1, hk2, rfl, rfl⟩ := hrel
          by_cases hlt2 : k2 < a.length
          · have hck := hcell k2 hlt2
            have f1 : (k2 : Int) < (a.length : Int) := by omega
            have f0 : (0 : Int) ≤ (k2 : Int) := by omega
            have hj1 := join_take_len a k2
            have hj2 := join_take_len a (k2 + 1)
            have hjs : Lib.join (a.take (k2 + 1)) [47] = Lib.join (a.take k2) [47] ++ 47 :: a[k2] := by
              rw [List.take_succ_eq_append_getElem hlt2]
              exact Kf.join_snoc _ (by intro e; rw [List.take_eq_nil_iff] at e; rcases e with e | e; omega; exact HA.out e) _
            have hy2 : a[k2].length ≤ 1000000 := by
              rw [hjs] at hj2
              simp at hj2
              omega
            have hj3 : (Lib.join (a.take k2) [47]).length ≤ 1000000 := by omega
            generalize hy : a[k2] = y at *
            generalize hu : Lib.join (a.take k2) [47] = u at *
            have HJ : Hid (Lib.join (a.take (k2 + 1)) [47] = u ++ 47 :: y) := hjs
            clear hjs hy hu hj1 hj2 hcell
            go_wp2
            rw [show ba u ++ { data := #[47] } ++ ba y = ba (u ++ 47 :: y) by rw [show (ByteArray.mk #[47]) = ba [47] from rfl, ba_app, ba_app]; simp]
            exact ⟨⟨k2 + 1, by omega, by omega, by go_num, by rw [HJ.out]⟩, by simp [intOf]; omega⟩
          · have f1 : (a.length : Int) ≤ (k2 : Int) := by omega
            have hta : a.take k2 = a := List.take_of_length_le (by omega)
            rw [hta]
            have hju : (Lib.join a [47]).length ≤ 1000000 := by omega
            clear hta hcell
            cases hp : okR false (Lib.join a [47]) with
            | true =>
              have hr : cleanRV (clean s) = .tuple #[.string (ba (Lib.join a [47])), .int .i64 0] := by simp [clean, HF.out, hn, HA.out, pathB_R, hp, cleanRV]
              have HR : Hid (cleanRV (clean s) = .tuple #[.string (ba (Lib.join a [47])), .int .i64 0]) := hr
              have HP : Hid (okR false (Lib.join a [47]) = true) := hp
              clear hr hp
              go_wp2_with fail
              have hc := IsPath_calls (Lib.join a [47]) hju wr
              rw [HP.out] at hc
              refine hc.mono ?_
              rintro e w3 ⟨rfl, hb3⟩
              clear hc
              go_wp2
              go_ret2
              exact ⟨ret_eq HR.out.symm, hbB.trans (hb3.mono hbB.size)⟩
            | false =>
              have hr : cleanRV (clean s) = .tuple #[.string ⟨#[]⟩, .int .i64 4] := by simp [clean, HF.out, hn, HA.out, pathB_R, hp, cleanRV]
              have HR : Hid (cleanRV (clean s) = .tuple #[.string ⟨#[]⟩, .int .i64 4]) := hr
              have HP : Hid (okR false (Lib.join a [47]) = false) := hp
              clear hr hp
              go_wp2_with fail
              have hc := IsPath_calls (Lib.join a [47]) hju wr
              rw [HP.out] at hc
              refine hc.mono ?_
              rintro e w3 ⟨rfl, hb3⟩
              clear hc
              go_wp2
              go_ret2
              exact ⟨ret_eq HR.out.symm, hbB.trans (hb3.mono hbB.size)⟩

theorem CleanOf_calls (s : List UInt8) (w : World) :
    Calls Tryd.prog 16 #[.string (ba s)] w fun e w' => e = .returned (cleanRV (clean s)) ∧ Below w.heap.size w w' := by
  rcases Nat.lt_or_ge 200 s.length with h | h
  · have HR : Hid (cleanRV (clean s) = .tuple #[.string ⟨#[]⟩, .int .i64 2]) := by
      show cleanRV (clean s) = _
      simp [clean, h, cleanRV]
    have hz : (200 : Int) < ((ba s).size : Int) := by rw [ba_size]; omega
    have hz' : (200 : Int) < (s.length : Int) := by omega
    go_enter Tryd.func16, Tryd.ntmps16
    go_wp2
    go_ret2
    exact ⟨ret_eq HR.out.symm, Below.refl _ _⟩
  · exact CleanOf_short s h w
end Go.Proofs.YtpkkhabiheobnaaDoor
