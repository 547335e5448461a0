import Derived.Test.YtmhipgompplkdaaGreatDoorWT17
import Derived.Test.YtmhipgompplkdaaGreatDoorWT18
import Derived.Test.YtmhipgompplkdaaGreatDoorWT07
namespace Go.Proofs.YtmhipgompplkdaaGreatDoor
open Go.RowKit Go.Shelf Go.Lib
theorem Own.congr {W : World} {B g n : Nat} {f f' : Nat → Bool} (h : Own W B g n f) (hf : ∀ j, j < n → f j = f' j) : Own W B g n f' := by
  unfold Own at h ⊢
  rw [← rowB_congr hf]
  exact h
theorem base_snoc (l : List Ru) (outs : List (List UInt8)) (i : Nat) (hi : i < outs.length) (k : Nat) : Ru.base l (outs.take (i + 1)) k = (Ru.base l (outs.take i) k || Ru.base l [outs[i]] k) := by
  unfold Ru.base
  split
  · rw [Bool.eq_iff_iff, List.take_succ_eq_append_getElem hi]
    simp only [decide_eq_true_eq, Bool.or_eq_true, List.mem_append]
  · rfl
set_option maxRecDepth 100000 in
set_option maxHeartbeats 16000000 in
theorem NeededOf_calls {w : World} (v : Value) (l : List Ru) (hrow : RRow w v l) (hn : l.length ≤ 1000) (hl : ∀ x ∈ l, x.ins.length ≤ 1000000) (vo : Value) (outs : List (List UInt8)) (hro : IRow w vo outs) (hno : outs.length ≤ 1000) :
    Calls Tryz.prog 52 #[v, vo] w fun e w' => ∃ u r, e = .returned (.tuple #[u, .int .i64 r]) ∧ Below w.heap.size w w' ∧
      ((∃ k : Nat, r = k ∧ ∃ hk : k < outs.length, (∀ x ∈ l, x.out ≠ outs[k]) ∧ (∀ j (hj : j < outs.length), j < k → ∃ x ∈ l, x.out = outs[j]) ∧ u = .slice none 0 0) ∨
       (r = -1 ∧ (∀ j (hj : j < outs.length), ∃ x ∈ l, x.out = outs[j]) ∧ ∃ g f, u = .slice (some ⟨g, 0, none⟩) l.length l.length ∧ Own w' w.heap.size g l.length f ∧ Ru.Needed l outs f)) := by
  obtain ⟨i0, hi, hz0, hz1, hz2⟩ := info_parts Tryz.infoBool
  have HNeed := hid1 fun W (hW : Below w.heap.size w W) i k (hi : i < l.length) (hk : k < l.length) => NeedsRule_calls v l (hrow.below hW) hl i k hi hk
  obtain ⟨p, cap, rfl, hcap, hnn, hin⟩ := hrow
  have HI := hid1 hin
  obtain ⟨po, co, rfl, hino⟩ := hro
  have HIo := hid1 hino
  have hml : l.length ≤ maxLen := by unfold maxLen; omega
  have hby : i0.bytes * l.length ≤ 281474976710656 := by rw [hz2]; omega
  have zn : (l.length : Int) ≤ 1000 := by omega
  have zo : (outs.length : Int) ≤ 1000 := by omega
  clear hin hnn hino
  go_enter Tryz.func52, Tryz.ntmps52
  go_wp2_with (at_make; refine wpList_make_full _ rfl _ _ 80 rfl w.heap.size 4 i0 (.bool false) 1 Tryz.underlying80 hi hz0 hz1 .i64 .i64 _ _ l.length rfl rfl (by omega) (by omega) hby hml (Nat.le_refl _) ?_; intro w1 hown hgrow; have O1 := made_row hown)
  have B1 : Below w.heap.size w w1 := below_grown (Below.refl _ w) (Nat.le_refl _) hgrow
  have O2 : Own w1 w.heap.size w.heap.size l.length (Ru.base l (outs.take 0)) := O1.congr fun j hj => by
    rw [Ru.base_eq hj]
    simp
  clear hown hgrow O1
  go_loopw [7] (fun iv wr => ∃ i : Nat, i ≤ outs.length ∧ iv = .int .i64 i ∧ Own wr w.heap.size w.heap.size l.length (Ru.base l (outs.take i)) ∧ (∀ j (hj : j < outs.length), j < i → ∃ x ∈ l, x.out = outs[j]) ∧ Below w.heap.size w wr) (fun iv _ => outs.length - (intOf iv).toNat)
  case atStart => exact ⟨0, Nat.zero_le _, rfl, O2, fun j _ h => by omega, B1⟩
  case round =>
    obtain ⟨i, hil, rfl, O, hm, B⟩ := hrel
    have HO := hid1 O
    have HM := hid1 hm
    clear O2 B1 O hm
    have c0 : (0 : Int) ≤ (i : Int) := by omega
    by_cases hlt : i < outs.length
    · have c1 : (i : Int) < (outs.length : Int) := by omega
      obtain ⟨go, oo, rfl, hgo, hco⟩ := HIo.out (by intro e; rw [e] at hlt; simp at hlt)
      have HGo := hid1 fun W (hW : Below w.heap.size w W) => (hW.cell (p := ⟨go, oo + i, none⟩) hgo).trans (hco i hlt)
      clear hco HIo
      have HMade : Hid ((∃ x ∈ l, x.out = outs[i]) → ∀ j (hj : j < outs.length), j < i + 1 → ∃ x ∈ l, x.out = outs[j]) := hid1 fun h j hj hji => by
        rcases Nat.lt_or_ge j i with h' | h'
        · exact HM.out j hj h'
        · obtain rfl : j = i := by omega
          exact h
      have HB := hid1 (base_snoc l outs i hlt)
      have HNone : Hid ((∀ x ∈ l, x.out ≠ outs[i]) → ∃ k : Nat, (i : Int) = k ∧ ∃ hk : k < outs.length, (∀ x ∈ l, x.out ≠ outs[k]) ∧ (∀ j (hj : j < outs.length), j < k → ∃ x ∈ l, x.out = outs[j]) ∧ (Value.slice none 0 0) = Value.slice none 0 0) := hid1 fun h => ⟨i, rfl, hlt, h, HM.out, rfl⟩
      generalize wr = w2 at *
      generalize hy : outs[i] = y at *
      clear hy
      go_wp2
      go_loopw [8, 9] (fun fd kv wx => ∃ k : Nat, k ≤ l.length ∧ kv = .int .i64 k ∧ fd = .bool ((l.take k).any fun x => x.out == y) ∧ Own wx w.heap.size w.heap.size l.length (fun j => Ru.base l (outs.take i) j || (decide (j < k) && Ru.base l [y] j)) ∧ Below w.heap.size w wx) (fun _ kv _ => l.length - (intOf kv).toNat)
      case atStart => exact ⟨0, Nat.zero_le _, rfl, by simp, HO.out.congr fun j hj => by simp, B⟩
      case round =>
        obtain ⟨k, hk, rfl, rfl, O, B'⟩ := hrel
        have k0 : (0 : Int) ≤ (k : Int) := by omega
        by_cases hkl : k < l.length
        · have k1 : (k : Int) < (l.length : Int) := by omega
          obtain ⟨g', o, rfl, hg, hcur⟩ := HI.out (by intro e; rw [e] at hkl; simp at hkl)
          have d0 := cell_below' (hcur k hkl).1 B'
          have d1 := HGo.out wr B'
          have hfk := World.ownsRow.frozenAt O k
          have hck := O.cell hkl
          have HA : Hid (((l.take (k + 1)).any fun x => x.out == y) = (((l.take k).any fun x => x.out == y) || (l[k].out == y))) := hid1 (by rw [List.take_succ_eq_append_getElem hkl, List.any_append]; simp)
          have HBk : Hid (Ru.base l [y] k = (l[k].out == y)) := hid1 (by
            rw [Ru.base_eq hkl, Bool.eq_iff_iff]
            simp)
          clear hcur HI
          generalize l[k] = x at *
          have w3 : Own wr.drew w.heap.size w.heap.size l.length (fun j => Ru.base l (outs.take i) j || (decide (j < k) && Ru.base l [y] j)) := O
          cases hb : x.out == y with
          | true =>
            have O3 : Own (wr.drew.setCell ⟨w.heap.size, k, none⟩ (.bool true)) w.heap.size w.heap.size l.length (fun j => Ru.base l (outs.take i) j || (decide (j < k + 1) && Ru.base l [y] j)) := w3.set k true fun j hj => by
              by_cases e : j = k
              · subst e
                rw [if_pos rfl, HBk.out, hb]
                simp
              · rw [if_neg e]
                congr 2
                rw [decide_eq_decide]
                omega
            have B3 := (below_draws B' 1).setCell (p := ⟨w.heap.size, k, none⟩) (Nat.le_refl _) (.bool true)
            rw [hb] at HA
            simp only [Bool.or_true] at HA
            clear O w3 HBk
            go_wp2
            go_region
            all_goals
              go_wp2
              exact ⟨⟨k + 1, by omega, by go_num, by rw [HA.out], O3, B3⟩, by simp [intOf]; omega⟩
          | false =>
            have O3 : Own wr.drew w.heap.size w.heap.size l.length (fun j => Ru.base l (outs.take i) j || (decide (j < k + 1) && Ru.base l [y] j)) := w3.congr fun j hj => by
              by_cases e : j = k
              · subst e
                rw [HBk.out, hb]
                simp
              · congr 2
                rw [decide_eq_decide]
                omega
            rw [hb] at HA
            simp only [Bool.or_false] at HA
            clear O w3 HBk
            go_wp2
            go_region
            all_goals
              go_wp2
              exact ⟨⟨k + 1, by omega, by go_num, by rw [HA.out], O3, below_draws B' 1⟩, by simp [intOf]; omega⟩
        · have k1 : (l.length : Int) ≤ (k : Int) := by omega
          obtain rfl : k = l.length := by omega
          have hany : (l.take l.length).any (fun x => x.out == y) = l.any (fun x => x.out == y) := by rw [List.take_length]
          rw [hany]
          have O3 : Own wr w.heap.size w.heap.size l.length (Ru.base l (outs.take (i + 1))) := O.congr fun j hj => by
            rw [HB.out]
            simp [hj]
          clear O hany
          cases hf : l.any (fun x => x.out == y) with
          | true =>
            have HX := hid1 (HMade.out (by
              obtain ⟨x, hx, e⟩ := List.any_eq_true.1 hf
              exact ⟨x, hx, by simpa using e⟩))
            clear HMade HNone hf
            go_wp2
            exact ⟨⟨i + 1, by omega, by go_num, O3, HX.out, B'⟩, by simp [intOf]; omega⟩
          | false =>
            have HX := hid1 (HNone.out (by
              intro x hx e
              rw [List.any_eq_false] at hf
              exact hf x hx (by simpa using e)))
            clear HMade HNone hf
            go_wp2
            go_ret2
            obtain ⟨kk, e1, hkk, e2, e3, _⟩ := HX.out
            exact ⟨_, _, rfl, B', .inl ⟨kk, e1, hkk, e2, e3, rfl⟩⟩
    · have c1 : (outs.length : Int) ≤ (i : Int) := by omega
      obtain rfl : i = outs.length := by omega
      have HAll : Hid (∀ j (hj : j < outs.length), ∃ x ∈ l, x.out = outs[j]) := hid1 fun j hj => HM.out j hj hj
      have O3 : Own wr w.heap.size w.heap.size l.length (Ru.base l outs) := by
        have := HO.out
        rwa [List.take_length] at this
      clear HO HM HIo
      have HP0 := hid1 (Ru.Pass.first l outs)
      generalize wr = w2 at *
      go_wp2
      go_loopw [10] (fun tv wx => ∃ (t : Nat) (f : Nat → Bool), t ≤ l.length ∧ tv = .int .i64 t ∧ Own wx w.heap.size w.heap.size l.length f ∧ Ru.Pass l outs t f ∧ Below w.heap.size w wx) (fun tv _ => l.length - (intOf tv).toNat)
      case atStart => exact ⟨0, _, Nat.zero_le _, rfl, O3, HP0.out, B⟩
      case round =>
        obtain ⟨t, S, htl, rfl, O, hP, B'⟩ := hrel
        have HP := hid1 hP
        have HS0 := hid1 O
        clear O3 HP0 O hP
        have t0 : (0 : Int) ≤ (t : Int) := by omega
        by_cases htlt : t < l.length
        · have t1 : (t : Int) < (l.length : Int) := by omega
          generalize wr = w3 at *
          go_wp2
          go_loopw [11] (fun iv wx => ∃ (i : Nat) (f : Nat → Bool), i ≤ l.length ∧ iv = .int .i64 i ∧ Own wx w.heap.size w.heap.size l.length f ∧ (∀ k, k < l.length → S k = true → f k = true) ∧ (∀ P : Nat → Prop, (∀ k, Ru.base l outs k = true → P k) → (∀ i k, P i → Ru.needs l i k = true → P k) → ∀ k, k < l.length → f k = true → P k) ∧ (∀ i' k, i' < i → S i' = true → Ru.needs l i' k = true → f k = true) ∧ Below w.heap.size w wx) (fun iv _ => l.length - (intOf iv).toNat)
          case atStart => exact ⟨0, S, Nat.zero_le _, rfl, HS0.out, fun _ _ h => h, HP.out.sound, fun i' _ h => by omega, B'⟩
          case round =>
            obtain ⟨i, f, hil, rfl, O, h1, h2, h3, B2⟩ := hrel
            have HO := hid1 O
            have H1 := hid1 h1
            have H2 := hid1 h2
            have H3 := hid1 h3
            clear O h1 h2 h3 HS0
            have i0' : (0 : Int) ≤ (i : Int) := by omega
            by_cases hilt : i < l.length
            · have i1 : (i : Int) < (l.length : Int) := by omega
              generalize wr = w4 at *
              go_wp2
              go_loopw [12] (fun kv wx => ∃ (k : Nat) (f : Nat → Bool), k ≤ l.length ∧ kv = .int .i64 k ∧ Own wx w.heap.size w.heap.size l.length f ∧ (∀ k, k < l.length → S k = true → f k = true) ∧ (∀ P : Nat → Prop, (∀ k, Ru.base l outs k = true → P k) → (∀ i k, P i → Ru.needs l i k = true → P k) → ∀ k, k < l.length → f k = true → P k) ∧ (∀ i' k, i' < i → S i' = true → Ru.needs l i' k = true → f k = true) ∧ (∀ k', k' < k → S i = true → Ru.needs l i k' = true → f k' = true) ∧ Below w.heap.size w wx) (fun kv _ => l.length - (intOf kv).toNat)
              case atStart => exact ⟨0, f, Nat.zero_le _, rfl, HO.out, H1.out, H2.out, H3.out, fun k' h => by omega, B2⟩
              case round =>
                clear HO H1 H2 H3 f
                obtain ⟨k, f, hk, rfl, O, h1, h2, h3, h4, B3⟩ := hrel
                have H1 := hid1 h1
                have H2 := hid1 h2
                have H3 := hid1 h3
                have H4 := hid1 h4
                clear h1 h2 h3 h4
                have k0 : (0 : Int) ≤ (k : Int) := by omega
                by_cases hkl : k < l.length
                · have k1 : (k : Int) < (l.length : Int) := by omega
                  have hci := O.cell hilt
                  have HC := HNeed.out wr B3 i k hilt hkl
                  cases hfi : f i with
                  | true =>
                    rw [hfi] at hci
                    cases hnd : Ru.needs l i k with
                    | true =>
                      rw [hnd] at HC
                      have K1 : Hid (∀ j, j < l.length → S j = true → (if j = k then true else f j) = true) := hid1 fun j hj hs => by
                        split
                        · rfl
                        · exact H1.out j hj hs
                      have K2 : Hid (∀ P : Nat → Prop, (∀ k, Ru.base l outs k = true → P k) → (∀ i k, P i → Ru.needs l i k = true → P k) → ∀ j, j < l.length → (if j = k then true else f j) = true → P j) := hid1 fun P p1 p2 j hj hf => by
                        by_cases e : j = k
                        · rw [e]
                          exact p2 i k (H2.out P p1 p2 i hilt hfi) hnd
                        · rw [if_neg e] at hf
                          exact H2.out P p1 p2 j hj hf
                      have K3 : Hid (∀ i' j, i' < i → S i' = true → Ru.needs l i' j = true → (if j = k then true else f j) = true) := hid1 fun i' j a b c => by
                        split
                        · rfl
                        · exact H3.out i' j a b c
                      have K4 : Hid (∀ j, j < k + 1 → S i = true → Ru.needs l i j = true → (if j = k then true else f j) = true) := hid1 fun j a b c => by
                        split
                        · rfl
                        · exact H4.out j (by omega) b c
                      clear H1 H2 H3 H4 hnd
                      go_wp2_with fail
                      refine Calls.mono HC ?_
                      rintro e w5 ⟨rfl, q, rfl⟩
                      have O5 : Own (wr.drewN q) w.heap.size w.heap.size l.length f := O
                      have hck := O5.cell hkl
                      have hfk := World.ownsRow.frozenAt O5 k
                      have O6 := O5.set (f' := fun j => if j = k then true else f j) k true fun j _ => rfl
                      have B6 := (below_draws B3 q).setCell (p := ⟨w.heap.size, k, none⟩) (Nat.le_refl _) (.bool true)
                      clear HC O O5 hci
                      go_wp2
                      exact ⟨⟨k + 1, _, by omega, by go_num, O6, K1.out, K2.out, K3.out, K4.out, B6⟩, by simp [intOf]; omega⟩
                    | false =>
                      rw [hnd] at HC
                      have K4 : Hid (∀ j, j < k + 1 → S i = true → Ru.needs l i j = true → f j = true) := hid1 fun j a b c => by
                        by_cases e : j = k
                        · rw [e, hnd] at c
                          cases c
                        · exact H4.out j (by omega) b c
                      clear H4 hnd
                      go_wp2_with fail
                      refine Calls.mono HC ?_
                      rintro e w5 ⟨rfl, q, rfl⟩
                      have O5 : Own (wr.drewN q) w.heap.size w.heap.size l.length f := O
                      clear HC O hci
                      go_wp2
                      exact ⟨⟨k + 1, f, by omega, by go_num, O5, H1.out, H2.out, H3.out, K4.out, below_draws B3 q⟩, by simp [intOf]; omega⟩
                  | false =>
                    rw [hfi] at hci
                    have K4 : Hid (∀ j, j < k + 1 → S i = true → Ru.needs l i j = true → f j = true) := hid1 fun j _ b _ => by
                      rw [H1.out i hilt b] at hfi
                      cases hfi
                    clear H4 HC hfi
                    go_wp2
                    exact ⟨⟨k + 1, f, by omega, by go_num, O, H1.out, H2.out, H3.out, K4.out, B3⟩, by simp [intOf]; omega⟩
                · have k1 : (l.length : Int) ≤ (k : Int) := by omega
                  have K3 : Hid (∀ i' j, i' < i + 1 → S i' = true → Ru.needs l i' j = true → f j = true) := hid1 fun i' j a b c => by
                    by_cases e : i' = i
                    · subst e
                      exact H4.out j (by have := (Ru.needs_lt c).2; omega) b c
                    · exact H3.out i' j (by omega) b c
                  clear H3 H4
                  go_wp2
                  exact ⟨⟨i + 1, f, by omega, by go_num, O, H1.out, H2.out, K3.out, B3⟩, by simp [intOf]; omega⟩
            · have i1 : (l.length : Int) ≤ (i : Int) := by omega
              have KP := hid1 (HP.out.next H1.out H2.out fun i' j a b c => H3.out i' j (by omega) b c)
              clear H1 H2 H3 HP
              go_wp2
              exact ⟨⟨t + 1, f, by omega, by go_num, HO.out, KP.out, B2⟩, by simp [intOf]; omega⟩
        · have t1 : (l.length : Int) ≤ (t : Int) := by omega
          obtain rfl : t = l.length := by omega
          have KN := hid1 HP.out.done
          have O6 : Own wr w.heap.size w.heap.size l.length (fun k => decide (k < l.length) && S k) := HS0.out.congr fun j hj => by simp [hj]
          clear HP HS0
          go_wp2
          go_ret2
          exact ⟨_, _, rfl, B', .inr ⟨rfl, HAll.out, _, _, rfl, O6, KN.out⟩⟩
end Go.Proofs.YtmhipgompplkdaaGreatDoor
namespace Go.Proofs.YtmhipgompplkdaaGreatDoor
open Go.RowKit Go.Shelf Go.Lib
def rowN (n : Nat) (f : Nat → Nat) : List Value := (List.range n).map (fun j => nv (f j))
theorem rowN_get {n : Nat} (f : Nat → Nat) {j : Nat} (h : j < n) : (rowN n f)[j]? = some (nv (f j)) := by simp [rowN, h]
theorem rowN_congr {n : Nat} {f g : Nat → Nat} (h : ∀ j, j < n → f j = g j) : rowN n f = rowN n g := by
  unfold rowN
  exact List.map_congr_left fun j hj => by rw [h j (List.mem_range.1 hj)]
theorem rowN_set (n : Nat) (f : Nat → Nat) (k b : Nat) : (rowN n f).set k (nv b) = rowN n (fun j => if j = k then b else f j) := by
  apply List.ext_getElem?
  intro j
  unfold rowN
  rw [List.getElem?_set]
  by_cases hj : j < n
  · by_cases e : k = j
    · subst e; simp [hj]
    · have e' : ¬ j = k := fun h => e h.symm
      simp [hj, e, e']
  · by_cases e : k = j
    · subst e; simp [hj]
    · simp [hj, e]
def OwnN (W : World) (B g n : Nat) (f : Nat → Nat) : Prop := W.ownsRow B 3 1 (.slice (some ⟨g, 0, none⟩) n n) n (rowN n f)
theorem OwnN.cell {W : World} {B g n : Nat} {f : Nat → Nat} (h : OwnN W B g n f) {j : Nat} (hj : j < n) : W.cell? ⟨g, j, none⟩ = some (nv (f j)) := by
  have := World.ownsRow.cellAt h j (by omega)
  rw [this, rowN_get f hj]
theorem OwnN.lt {W : World} {B g n : Nat} {f : Nat → Nat} (h : OwnN W B g n f) : g < W.heap.size ∧ B ≤ g := by
  rcases h.2 with ⟨h', _⟩ | ⟨g', cap', cur, h', hb, hg, _⟩
  · cases h'
  · cases h'
    exact ⟨(Array.getElem?_eq_some_iff.1 hg).1, hb⟩
theorem OwnN.grown {W W' : World} {B g n : Nat} {f : Nat → Nat} (h : OwnN W B g n f) (hg : W.grownBy W' none) : OwnN W' B g n f :=
  World.ownsRow.kept h hg (.inr (by simp [Value.ownBlock]))
theorem OwnN.other {W : World} {B g n : Nat} {f : Nat → Nat} (h : OwnN W B g n f) {g' : Nat} (hne : g ≠ g') (k : Nat) (u : Value) : OwnN (W.setCell ⟨g', k, none⟩ u) B g n f :=
  ownsRow_setCell_other h (by simp [Value.ownBlock, hne]) u
theorem OwnN.set {W : World} {B g n : Nat} {f f' : Nat → Nat} (h : OwnN W B g n f) (k b : Nat) (hf : ∀ j, j < n → (if j = k then b else f j) = f' j) : OwnN (W.setCell ⟨g, k, none⟩ (nv b)) B g n f' := by
  have := (World.ownsRow.stored h k (nv b)).1
  rw [rowN_set, rowN_congr hf] at this
  exact this
theorem OwnN.congr {W : World} {B g n : Nat} {f f' : Nat → Nat} (h : OwnN W B g n f) (hf : ∀ j, j < n → f j = f' j) : OwnN W B g n f' := by
  unfold OwnN at h ⊢
  rw [← rowN_congr hf]
  exact h
theorem OwnN.below {W W' : World} {B g n : Nat} {f : Nat → Nat} (h : OwnN W B g n f) (hB : Below W.heap.size W W') : OwnN W' B g n f := by
  have hl := h.lt.1
  refine ⟨h.1, ?_⟩
  rcases h.2 with ⟨h', _⟩ | ⟨g', cap', cur, h', hb, hg, r⟩
  · cases h'
  · cases h'
    exact .inr ⟨g, n, cur, rfl, hb, (hB.block g hl).trans hg, r⟩
theorem Tryz.infoInts : (Tryz.prog.info? 68).map (fun i => (i.zero, i.size, i.bytes)) = some (some (.slice none 0 0), 1, 24) := by kernel_rfl
def topS (n m : Nat) (rb : Nat → Nat) : List Value := (List.range n).map fun i => if i < m then .slice (some ⟨rb i, 0, none⟩) n n else .slice none 0 0
structure Mat (W : World) (B gF n m : Nat) (rb : Nat → Nat) (F : Nat → Nat → Nat) : Prop where
  top : W.ownsRow B 68 1 (.slice (some ⟨gF, 0, none⟩) n n) n (topS n m rb)
  row : ∀ i, i < m → OwnN W B (rb i) n (F i)
  inj : ∀ i j, i < m → j < m → i ≠ j → rb i ≠ rb j
theorem Mat.cell {W : World} {B gF n m : Nat} {rb : Nat → Nat} {F : Nat → Nat → Nat} (h : Mat W B gF n m rb F) {i k : Nat} (hi : i < m) (hk : k < n) : W.cell? ⟨rb i, k, none⟩ = some (nv (F i k)) := (h.row i hi).cell hk
theorem Mat.ne {W : World} {B gF n m : Nat} {rb : Nat → Nat} {F : Nat → Nat → Nat} (h : Mat W B gF n m rb F) {i : Nat} (hi : i < m) : gF ≠ rb i := by
  have h1 := owns_far h.top (h.row i hi) (by decide)
  intro e
  apply h1
  rw [← e]
  rfl
theorem Mat.set {W : World} {B gF n m : Nat} {rb : Nat → Nat} {F F' : Nat → Nat → Nat} (h : Mat W B gF n m rb F) {i k : Nat} (hi : i < m) (b : Nat) (hF : ∀ a j, a < m → j < n → (if a = i ∧ j = k then b else F a j) = F' a j) : Mat (W.setCell ⟨rb i, k, none⟩ (nv b)) B gF n m rb F' := by
  refine ⟨ownsRow_setCell_other h.top (by simp [Value.ownBlock, h.ne hi]) _, fun a ha => ?_, h.inj⟩
  by_cases e : a = i
  · subst e
    exact (h.row a ha).set k b fun j hj => by
      have := hF a j ha hj
      simpa using this
  · refine ((h.row a ha).other (h.inj a i ha hi e) k _).congr fun j hj => ?_
    have := hF a j ha hj
    simpa [e] using this
theorem Mat.below {W W' : World} {B gF n m : Nat} {rb : Nat → Nat} {F : Nat → Nat → Nat} (h : Mat W B gF n m rb F) (hB : Below W.heap.size W W') : Mat W' B gF n m rb F := by
  refine ⟨?_, fun i hi => (h.row i hi).below hB, h.inj⟩
  refine ⟨h.top.1, ?_⟩
  rcases h.top.2 with ⟨h', _⟩ | ⟨g', cap', cur, h', hb, hg, r⟩
  · cases h'
  · cases h'
    exact .inr ⟨gF, n, cur, rfl, hb, (hB.block gF (Array.getElem?_eq_some_iff.1 hg).1).trans hg, r⟩
theorem Mat.drew {W : World} {B gF n m : Nat} {rb : Nat → Nat} {F : Nat → Nat → Nat} (h : Mat W B gF n m rb F) (q : Nat) : Mat (W.drewN q) B gF n m rb F := h.below (below_draws (Below.refl _ W) q)
end Go.Proofs.YtmhipgompplkdaaGreatDoor
