/- The document's answer's lay: a text laid in behind all that are not greater. -/
import Derived.Test.YtigcogfjclohjaaGreatDoorALaw
import Derived.Laws.AppendOwnNone
import Derived.Test.YtigcogfjclohjaaGreatDoorRMadeC
import Derived.Test.YtigcogfjclohjaaGreatDoorRMadeL
import Derived.Test.YtigcogfjclohjaaGreatDoorMR5
namespace Go.Proofs.YtigcogfjclohjaaGreatDoor
open Go.RowKit Go.Shelf Go.Lib

/-- Is y greater than x? -/
def Af.gtB (y x : List UInt8) : Bool := !Op.bytesLess y x && !(y == x)
/-- r is l with x laid in. -/
def Af.Laid (l : List (List UInt8)) (x : List UInt8) (r : List (List UInt8)) : Prop :=
  ∃ k, k ≤ l.length ∧ r = l.take k ++ x :: l.drop k ∧ (∀ j (hj : j < l.length), k ≤ j → Af.gtB l[j] x = true) ∧ (∀ hk : k - 1 < l.length, 0 < k → Af.gtB l[k - 1] x = false)
theorem one_sv {l : List (List UInt8)} : ∀ u ∈ l.map sv, u.oneCell' = true := fun u hu => by
  obtain ⟨z, _, rfl⟩ := List.mem_map.1 hu
  rfl

theorem lay_b1 {w w1 : World} (n1 : w.ownsRow w.heap.size 9 1 (.slice none 0 0) 0 []) (hg : w.grownBy w1 (Value.slice none 0 0).ownBlock) : Below w.heap.size w w1 := below_more (Below.refl _ w) (Nat.le_refl _) n1 hg
theorem lay_b2 {w w1 w2 : World} {v : Value} {n : Nat} {xs : List Value} {tmp : Obj} (b1 : Below w.heap.size w w1) (h : w1.ownsRow w.heap.size 9 1 v n xs) (hg : (w1.alloc tmp).grownBy w2 v.ownBlock) : Below w.heap.size w w2 := below_appended b1 b1.size h hg

theorem lay_b3 {w w2 w3 : World} {v : Value} {n : Nat} {xs : List Value} (b2 : Below w.heap.size w w2) (h : w2.ownsRow w.heap.size 9 1 v n xs) (hg : w2.grownBy w3 v.ownBlock) : Below w.heap.size w w3 := below_more b2 b2.size h hg
theorem add_at2 (g k j : Nat) : (⟨g, k, none⟩ : Addr).add j = ⟨g, k + j, none⟩ := by
  by_cases h0 : j = 0 <;> simp [Addr.add, h0]
theorem lay_src {w w2 : World} {g k : Nat} {l : List (List UInt8)} (hR : Hid (∀ W, Below w.heap.size w W → ∀ k (hk : k < l.length), W.cell? ⟨g, k, none⟩ = some (.string (ba l[k])))) (b2 : Below w.heap.size w w2) :
    ∀ j u, ((l.drop k).map sv)[j]? = some u → w2.cell? ((⟨g, k, none⟩ : Addr).add j) = some u := fun j u hj => by
  have hjl : j < (l.drop k).length := by simpa using (List.getElem?_eq_some_iff.1 hj).1
  have hjl' : k + j < l.length := by simp at hjl; omega
  rw [List.getElem?_map, List.getElem?_eq_getElem hjl] at hj
  simp only [Option.map_some, Option.some.injEq, List.getElem_drop] at hj
  rw [← hj, add_at2]
  exact hR.out w2 b2 (k + j) hjl'
theorem lay_src0 {w2 : World} {k : Nat} {l : List (List UInt8)} (h : l.length ≤ k) (ad : Addr) : ∀ j u, ((l.drop k).map sv)[j]? = some u → w2.cell? (ad.add j) = some u := fun j u hj => by
  rw [List.drop_of_length_le h] at hj
  simp at hj
theorem lay_row {w : World} {B k : Nat} {l : List (List UInt8)} {x : List UInt8} {v : Value} (hk : k ≤ l.length) (h : w.ownsRow B 9 1 v (0 + k + 1 + (l.length - k)) ([] ++ (l.take k).map sv ++ [.string (ba x)] ++ (l.drop k).map sv)) :
    w.ownsRow B 9 1 v (l.take k ++ x :: l.drop k).length ((l.take k ++ x :: l.drop k).map sv) := by
  have e1 : (l.take k ++ x :: l.drop k).length = 0 + k + 1 + (l.length - k) := by simp; omega
  have e2 : (l.take k ++ x :: l.drop k).map sv = [] ++ (l.take k).map sv ++ [.string (ba x)] ++ (l.drop k).map sv := by
    rw [List.map_append, List.map_cons, List.nil_append, List.append_assoc]
    rfl
  rw [e1, e2]
  exact h

theorem lay_row0 {w : World} {B k : Nat} {l : List (List UInt8)} {x : List UInt8} {v : Value} (hk : k ≤ l.length) (hlk : l.length = k) (h : w.ownsRow B 9 1 v (0 + k + 1 + 0) ([] ++ (l.take k).map sv ++ [.string (ba x)] ++ (l.drop k).map sv)) :
    w.ownsRow B 9 1 v (l.take k ++ x :: l.drop k).length ((l.take k ++ x :: l.drop k).map sv) :=
  lay_row hk (by rw [show 0 + k + 1 + (l.length - k) = 0 + k + 1 + 0 by omega]; exact h)

set_option maxRecDepth 100000 in
set_option maxHeartbeats 4000000 in
theorem lay_calls (g cap : Nat) (l : List (List UInt8)) (x : List UInt8) (hl : l.length ≤ 100000) (hne : l ≠ []) (w : World) (hrow : TRow w (.slice (some ⟨g, 0, none⟩) l.length cap) l) :
    Calls Tryz.prog 75 #[.slice (some ⟨g, 0, none⟩) l.length cap, .string (ba x)] w fun e w' => ∃ v r, e = .returned v ∧ Af.Laid l x r ∧ w'.ownsRow w.heap.size 9 1 v r.length (r.map sv) ∧ Below w.heap.size w w' := by
  obtain ⟨i0, hi, hz0, hz1, hz2⟩ := info_parts Tryz.infoStr
  obtain ⟨p, c, e, hcap, hin⟩ := hrow
  obtain ⟨g', cur, rfl, hg, hcur⟩ := hin hne
  obtain ⟨rfl, rfl⟩ : g = g' ∧ cap = c := by simpa using e
  have hR : Hid (∀ W, Below w.heap.size w W → ∀ k (hk : k < l.length), W.cell? ⟨g, k, none⟩ = some (.string (ba l[k]))) := fun W hW k hk => cell_of_row ((hW.block g (Array.getElem?_eq_some_iff.1 hg).1).trans hg) (hcur k hk)
  have zl : (l.length : Int) ≤ 100000 := by omega
  have zc : l.length ≤ cap := hcap
  clear hin e hcur
  go_enter Tryz.func75, Tryz.ntmps75
  go_wp2
  go_loopw [5] (fun i wr => ∃ k : Nat, k ≤ l.length ∧ i = .int .i64 k ∧ (∀ j (hj : j < l.length), k ≤ j → Af.gtB l[j] x = true) ∧ w = wr) (fun i _ => (intOf i).toNat)
  case atStart => exact ⟨l.length, Nat.le_refl _, rfl, fun j hj h => by omega, rfl⟩
  case round =>
    obtain ⟨k, hk, rfl, hgt, rfl⟩ := hrel
    have HG := hid1 hgt
    clear hgt
    by_cases h0 : 0 < k
    · have d0 : (0 : Int) < (k : Int) := by omega
      have hk1 : k - 1 < l.length := by omega
      have hcell := hR.out w (Below.refl _ w) (k - 1) hk1
      have e1 : ((k - 1 : Nat) : Int) = (k : Int) - 1 := by omega
      have e2 : IntKind.i64.wrap ((k : Int) - 1) = (k : Int) - 1 := by rw [IntKind.wrap_i64]; omega
      have e3 : ((k : Int) - 1).toNat = k - 1 := by omega
      have e4 : (k : Int) - 1 < (l.length : Int) := by omega
      have e5 : (0 : Int) ≤ (k : Int) - 1 := by omega
      have HB : Hid (Af.gtB l[k - 1] x = (!Op.bytesLess l[k - 1] x && !(l[k - 1] == x))) := rfl
      have HS : Hid (Af.gtB l[k - 1] x = true → ∀ j (hj : j < l.length), k - 1 ≤ j → Af.gtB l[j] x = true) := fun hb j hj h => by
        by_cases e : j = k - 1
        · subst e
          exact hb
        · exact HG.out j hj (by omega)
      have HLast : Hid (Af.gtB l[k - 1] x = false → ∀ hh : k - 1 < l.length, 0 < k → Af.gtB l[k - 1] x = false) := fun h _ _ => h
      generalize hg : Af.gtB l[k - 1] x = gb at *
      generalize l[k - 1] = y at *
      cases q1 : Op.bytesLess y x with
      | true =>
        have hg0 : gb = false := by rw [HB.out, q1]; rfl
        have HLast := hid1 (HLast.out hg0)
        clear HB HS hg
        have hsrc1 : ∀ j u, ((l.take k).map sv)[j]? = some u → w.cell? ((⟨g, 0, none⟩ : Addr).add j) = some u := fun j u hj => by
          have hjl : j < (l.take k).length := by simpa using (List.getElem?_eq_some_iff.1 hj).1
          have hjl' : j < l.length := by simp at hjl; omega
          rw [List.getElem?_map, List.getElem?_eq_getElem hjl] at hj
          simp only [Option.map_some, Option.some.injEq, List.getElem_take] at hj
          rw [← hj, add_at]
          exact hR.out w (Below.refl _ w) j hjl'
        have hl1 : 1 ≤ l.length := by
          cases l with
          | nil => exact absurd rfl hne
          | cons y r => simp
        have ka : (k : Int) ≤ (cap : Int) := by omega
        have kb : k ≤ cap := by omega
        have kc : (0 : Int) ≤ (k : Int) := by omega
        have kd' : (k : Int) ≤ (l.length : Int) := by omega
        have HL := hid1 (show Af.Laid l x (l.take k ++ x :: l.drop k) from ⟨k, hk, rfl, HG.out, HLast.out⟩)
        have n1 : World.ownsRow w w.heap.size 9 1 (.slice none 0 0) 0 [] := World.ownsRow_nil _ _ _ _
        by_cases hck : cap = k
        · subst hck
          have hlk : l.length = cap := by omega
          have hlz : l.length - cap = 0 := by omega
          go_wp2_with (first
            | (at_builtin; refine wpList_append_own _ rfl _ _ 41 rfl w.heap.size 9 i0 (.string ⟨#[]⟩) 1 16 Tryz.underlying41 hi hz0 hz1 hz2 rfl (by decide) _ _ _ rfl n1 ⟨g, 0, none⟩ cap cap ((l.take cap).map sv) rfl (by simp; omega) hsrc1 one_sv (by unfold maxLen; omega) (by omega) (Nat.le_refl _) ?_; intro v1 w1 hown1 hgrow1 _; have b1 := lay_b1 n1 hgrow1; clear hsrc1 n1 hgrow1)
            | (at_builtin; refine wpList_append_own _ rfl _ _ 41 rfl w.heap.size 9 i0 (.string ⟨#[]⟩) 1 16 Tryz.underlying41 hi hz0 hz1 hz2 rfl (by decide) _ _ _ rfl (hown1.alloc _) ⟨w1.heap.size, 0, none⟩ 1 1 [.string (ba x)] rfl rfl (cell_one_new _ _ _) (by simp [Value.oneCell']) (by unfold maxLen; omega) (by omega) (by simp; have := b1.size; omega) ?_; intro v2 w2 hown2 hgrow2 _; have b2 := lay_b2 b1 hown1 hgrow2; clear hown1 hgrow2)
            | (at_builtin; (refine wpList_append_own _ rfl _ _ 41 rfl w.heap.size 9 i0 (.string ⟨#[]⟩) 1 16 Tryz.underlying41 hi hz0 hz1 hz2 rfl (by decide) _ _ _ rfl hown2 ⟨g, 0, none⟩ 0 0 ((l.drop cap).map sv) rfl (by simp; omega) (lay_src0 (k := cap) (l := l) (by omega) _) one_sv (by unfold maxLen; omega) (by omega) b2.size ?_; intro v3 w3 hown3 hgrow3 _; have b3 := lay_b3 b2 hown2 hgrow3; clear hown2 hgrow3))
            | go_in)
          go_ret
          first | exact ⟨_, rfl, _, HL.out, lay_row0 hk hlk hown3, b3⟩ | exact ⟨_, rfl, _, b3, HL.out, lay_row0 hk hlk hown3⟩ | exact ⟨_, rfl, ⟨_, HL.out, lay_row0 hk hlk hown3⟩, b3⟩
        · go_wp2_with (first
            | (at_builtin; refine wpList_append_own _ rfl _ _ 41 rfl w.heap.size 9 i0 (.string ⟨#[]⟩) 1 16 Tryz.underlying41 hi hz0 hz1 hz2 rfl (by decide) _ _ _ rfl n1 ⟨g, 0, none⟩ k cap ((l.take k).map sv) rfl (by simp; omega) hsrc1 one_sv (by unfold maxLen; omega) (by omega) (Nat.le_refl _) ?_; intro v1 w1 hown1 hgrow1 _; have b1 := lay_b1 n1 hgrow1; clear hsrc1 n1 hgrow1)
            | (at_builtin; refine wpList_append_own _ rfl _ _ 41 rfl w.heap.size 9 i0 (.string ⟨#[]⟩) 1 16 Tryz.underlying41 hi hz0 hz1 hz2 rfl (by decide) _ _ _ rfl (hown1.alloc _) ⟨w1.heap.size, 0, none⟩ 1 1 [.string (ba x)] rfl rfl (cell_one_new _ _ _) (by simp [Value.oneCell']) (by unfold maxLen; omega) (by omega) (by simp; have := b1.size; omega) ?_; intro v2 w2 hown2 hgrow2 _; have b2 := lay_b2 b1 hown1 hgrow2; clear hown1 hgrow2)
            | (at_builtin; refine wpList_append_own _ rfl _ _ 41 rfl w.heap.size 9 i0 (.string ⟨#[]⟩) 1 16 Tryz.underlying41 hi hz0 hz1 hz2 rfl (by decide) _ _ _ rfl hown2 ⟨g, k, none⟩ (l.length - k) (cap - k) ((l.drop k).map sv) rfl (by simp) (lay_src (k := k) hR b2) one_sv (by unfold maxLen; omega) (by omega) b2.size ?_; intro v3 w3 hown3 hgrow3 _; have b3 := lay_b3 b2 hown2 hgrow3; clear hown2 hgrow3)
            | go_in)
          go_ret
          exact ⟨_, _, rfl, HL.out, lay_row hk hown3, b3⟩
      | false =>
        cases q2 : (y == x) with
        | true =>
          have hg0 : gb = false := by rw [HB.out, q1, q2]; rfl
          have HLast := hid1 (HLast.out hg0)
          clear HB HS hg
          have hsrc1 : ∀ j u, ((l.take k).map sv)[j]? = some u → w.cell? ((⟨g, 0, none⟩ : Addr).add j) = some u := fun j u hj => by
            have hjl : j < (l.take k).length := by simpa using (List.getElem?_eq_some_iff.1 hj).1
            have hjl' : j < l.length := by simp at hjl; omega
            rw [List.getElem?_map, List.getElem?_eq_getElem hjl] at hj
            simp only [Option.map_some, Option.some.injEq, List.getElem_take] at hj
            rw [← hj, add_at]
            exact hR.out w (Below.refl _ w) j hjl'
          have hl1 : 1 ≤ l.length := by
            cases l with
            | nil => exact absurd rfl hne
            | cons y r => simp
          have ka : (k : Int) ≤ (cap : Int) := by omega
          have kb : k ≤ cap := by omega
          have kc : (0 : Int) ≤ (k : Int) := by omega
          have kd' : (k : Int) ≤ (l.length : Int) := by omega
          have HL := hid1 (show Af.Laid l x (l.take k ++ x :: l.drop k) from ⟨k, hk, rfl, HG.out, HLast.out⟩)
          have n1 : World.ownsRow w w.heap.size 9 1 (.slice none 0 0) 0 [] := World.ownsRow_nil _ _ _ _
          by_cases hck : cap = k
          · subst hck
            have hlk : l.length = cap := by omega
            have hlz : l.length - cap = 0 := by omega
            go_wp2_with (first
              | (at_builtin; refine wpList_append_own _ rfl _ _ 41 rfl w.heap.size 9 i0 (.string ⟨#[]⟩) 1 16 Tryz.underlying41 hi hz0 hz1 hz2 rfl (by decide) _ _ _ rfl n1 ⟨g, 0, none⟩ cap cap ((l.take cap).map sv) rfl (by simp; omega) hsrc1 one_sv (by unfold maxLen; omega) (by omega) (Nat.le_refl _) ?_; intro v1 w1 hown1 hgrow1 _; have b1 := lay_b1 n1 hgrow1; clear hsrc1 n1 hgrow1)
              | (at_builtin; refine wpList_append_own _ rfl _ _ 41 rfl w.heap.size 9 i0 (.string ⟨#[]⟩) 1 16 Tryz.underlying41 hi hz0 hz1 hz2 rfl (by decide) _ _ _ rfl (hown1.alloc _) ⟨w1.heap.size, 0, none⟩ 1 1 [.string (ba x)] rfl rfl (cell_one_new _ _ _) (by simp [Value.oneCell']) (by unfold maxLen; omega) (by omega) (by simp; have := b1.size; omega) ?_; intro v2 w2 hown2 hgrow2 _; have b2 := lay_b2 b1 hown1 hgrow2; clear hown1 hgrow2)
              | (at_builtin; (refine wpList_append_own _ rfl _ _ 41 rfl w.heap.size 9 i0 (.string ⟨#[]⟩) 1 16 Tryz.underlying41 hi hz0 hz1 hz2 rfl (by decide) _ _ _ rfl hown2 ⟨g, 0, none⟩ 0 0 ((l.drop cap).map sv) rfl (by simp; omega) (lay_src0 (k := cap) (l := l) (by omega) _) one_sv (by unfold maxLen; omega) (by omega) b2.size ?_; intro v3 w3 hown3 hgrow3 _; have b3 := lay_b3 b2 hown2 hgrow3; clear hown2 hgrow3))
              | go_in)
            go_ret
            first | exact ⟨_, rfl, _, HL.out, lay_row0 hk hlk hown3, b3⟩ | exact ⟨_, rfl, _, b3, HL.out, lay_row0 hk hlk hown3⟩ | exact ⟨_, rfl, ⟨_, HL.out, lay_row0 hk hlk hown3⟩, b3⟩
          · go_wp2_with (first
              | (at_builtin; refine wpList_append_own _ rfl _ _ 41 rfl w.heap.size 9 i0 (.string ⟨#[]⟩) 1 16 Tryz.underlying41 hi hz0 hz1 hz2 rfl (by decide) _ _ _ rfl n1 ⟨g, 0, none⟩ k cap ((l.take k).map sv) rfl (by simp; omega) hsrc1 one_sv (by unfold maxLen; omega) (by omega) (Nat.le_refl _) ?_; intro v1 w1 hown1 hgrow1 _; have b1 := lay_b1 n1 hgrow1; clear hsrc1 n1 hgrow1)
              | (at_builtin; refine wpList_append_own _ rfl _ _ 41 rfl w.heap.size 9 i0 (.string ⟨#[]⟩) 1 16 Tryz.underlying41 hi hz0 hz1 hz2 rfl (by decide) _ _ _ rfl (hown1.alloc _) ⟨w1.heap.size, 0, none⟩ 1 1 [.string (ba x)] rfl rfl (cell_one_new _ _ _) (by simp [Value.oneCell']) (by unfold maxLen; omega) (by omega) (by simp; have := b1.size; omega) ?_; intro v2 w2 hown2 hgrow2 _; have b2 := lay_b2 b1 hown1 hgrow2; clear hown1 hgrow2)
              | (at_builtin; refine wpList_append_own _ rfl _ _ 41 rfl w.heap.size 9 i0 (.string ⟨#[]⟩) 1 16 Tryz.underlying41 hi hz0 hz1 hz2 rfl (by decide) _ _ _ rfl hown2 ⟨g, k, none⟩ (l.length - k) (cap - k) ((l.drop k).map sv) rfl (by simp) (lay_src (k := k) hR b2) one_sv (by unfold maxLen; omega) (by omega) b2.size ?_; intro v3 w3 hown3 hgrow3 _; have b3 := lay_b3 b2 hown2 hgrow3; clear hown2 hgrow3)
              | go_in)
            go_ret
            exact ⟨_, _, rfl, HL.out, lay_row hk hown3, b3⟩
        | false =>
          have hg0 : gb = true := by rw [HB.out, q1, q2]; rfl
          have HS := hid1 (HS.out hg0)
          clear HB HLast hg
          go_wp2
          exact ⟨⟨k - 1, by omega, by go_num, HS.out, trivial⟩, by simp [intOf]; omega⟩
    · have d0 : (k : Int) ≤ 0 := by omega
      have hsrc1 : ∀ j u, ((l.take k).map sv)[j]? = some u → w.cell? ((⟨g, 0, none⟩ : Addr).add j) = some u := fun j u hj => by
        have hjl : j < (l.take k).length := by simpa using (List.getElem?_eq_some_iff.1 hj).1
        have hjl' : j < l.length := by simp at hjl; omega
        rw [List.getElem?_map, List.getElem?_eq_getElem hjl] at hj
        simp only [Option.map_some, Option.some.injEq, List.getElem_take] at hj
        rw [← hj, add_at]
        exact hR.out w (Below.refl _ w) j hjl'
      have hl1 : 1 ≤ l.length := by
        cases l with
        | nil => exact absurd rfl hne
        | cons y r => simp
      have ka : (k : Int) ≤ (cap : Int) := by omega
      have kb : k ≤ cap := by omega
      have kc : (0 : Int) ≤ (k : Int) := by omega
      have kd' : (k : Int) ≤ (l.length : Int) := by omega
      have HL := hid1 (show Af.Laid l x (l.take k ++ x :: l.drop k) from ⟨k, hk, rfl, HG.out, fun _ h => absurd h h0⟩)
      have n1 : World.ownsRow w w.heap.size 9 1 (.slice none 0 0) 0 [] := World.ownsRow_nil _ _ _ _
      by_cases hck : cap = k
      · exact absurd hck (by omega)
      · go_wp2_with (first
          | (at_builtin; refine wpList_append_own _ rfl _ _ 41 rfl w.heap.size 9 i0 (.string ⟨#[]⟩) 1 16 Tryz.underlying41 hi hz0 hz1 hz2 rfl (by decide) _ _ _ rfl n1 ⟨g, 0, none⟩ k cap ((l.take k).map sv) rfl (by simp; omega) hsrc1 one_sv (by unfold maxLen; omega) (by omega) (Nat.le_refl _) ?_; intro v1 w1 hown1 hgrow1 _; have b1 := lay_b1 n1 hgrow1; clear hsrc1 n1 hgrow1)
          | (at_builtin; refine wpList_append_own _ rfl _ _ 41 rfl w.heap.size 9 i0 (.string ⟨#[]⟩) 1 16 Tryz.underlying41 hi hz0 hz1 hz2 rfl (by decide) _ _ _ rfl (hown1.alloc _) ⟨w1.heap.size, 0, none⟩ 1 1 [.string (ba x)] rfl rfl (cell_one_new _ _ _) (by simp [Value.oneCell']) (by unfold maxLen; omega) (by omega) (by simp; have := b1.size; omega) ?_; intro v2 w2 hown2 hgrow2 _; have b2 := lay_b2 b1 hown1 hgrow2; clear hown1 hgrow2)
          | (at_builtin; refine wpList_append_own _ rfl _ _ 41 rfl w.heap.size 9 i0 (.string ⟨#[]⟩) 1 16 Tryz.underlying41 hi hz0 hz1 hz2 rfl (by decide) _ _ _ rfl hown2 ⟨g, k, none⟩ (l.length - k) (cap - k) ((l.drop k).map sv) rfl (by simp) (lay_src (k := k) hR b2) one_sv (by unfold maxLen; omega) (by omega) b2.size ?_; intro v3 w3 hown3 hgrow3 _; have b3 := lay_b3 b2 hown2 hgrow3; clear hown2 hgrow3)
          | go_in)
        go_ret
        exact ⟨_, _, rfl, HL.out, lay_row hk hown3, b3⟩
end Go.Proofs.YtigcogfjclohjaaGreatDoor
/- Laying lines in, one by one, is sorting. -/
namespace Go.Proofs.YtigcogfjclohjaaGreatDoor
open Go.RowKit Go.Shelf Go.Lib

theorem gtB_le {x y : List UInt8} (h : Af.gtB y x = true) : x ≤ y := by
  unfold Af.gtB at h
  simp only [Bool.and_eq_true, Bool.not_eq_true'] at h
  have h1 := h.1
  rw [Tf.less_before] at h1
  refine List.not_lt.1 fun e => ?_
  rw [(Tf.before_lt y x).2 e] at h1
  cases h1
theorem gtB_ge {x y : List UInt8} (h : Af.gtB y x = false) : y ≤ x := by
  unfold Af.gtB at h
  simp only [Bool.and_eq_false_iff, Bool.not_eq_false'] at h
  rcases h with h | h
  · rw [Tf.less_before] at h
    exact List.le_of_lt ((Tf.before_lt y x).1 h)
  · rw [beq_iff_eq.1 h]
    exact List.le_refl _

theorem laid_sorted {l r : List (List UInt8)} {x : List UInt8} (hl : l.Pairwise (fun x y => x ≤ y)) (h : Af.Laid l x r) : r.Pairwise (fun x y => x ≤ y) ∧ r.Perm (l ++ [x]) := by
  obtain ⟨k, hk, rfl, hhi, hlo⟩ := h
  have hd : ∀ b ∈ l.drop k, x ≤ b := by
    intro b hb
    obtain ⟨j, hj, rfl⟩ := List.getElem_of_mem hb
    rw [List.getElem_drop]
    exact gtB_le (hhi (k + j) (by simp at hj; omega) (by omega))
  have ht : ∀ a ∈ l.take k, a ≤ x := by
    intro a ha
    obtain ⟨j, hj, rfl⟩ := List.getElem_of_mem ha
    rw [List.getElem_take]
    have hj' : j < k := by simp at hj; omega
    have h1 := gtB_ge (hlo (by omega) (by omega))
    by_cases e : j = k - 1
    · subst e; exact h1
    · exact List.le_trans (List.pairwise_iff_getElem.1 hl j (k - 1) (by omega) (by omega) (by omega)) h1
  constructor
  · rw [List.pairwise_append, List.pairwise_cons]
    refine ⟨hl.sublist (List.take_sublist k l), ⟨hd, hl.sublist (List.drop_sublist k l)⟩, ?_⟩
    intro a ha b hb
    rcases List.mem_cons.1 hb with rfl | hb
    · exact ht a ha
    · exact List.le_trans (ht a ha) (hd b hb)
  · have : (l.take k ++ x :: l.drop k).Perm (x :: (l.take k ++ l.drop k)) := List.perm_middle
    rw [List.take_append_drop] at this
    exact this.trans (List.perm_append_comm (l₁ := [x]) (l₂ := l))

theorem laid_srt {ms r : List (List UInt8)} {x : List UInt8} (h : Af.Laid (Af.srt ms) x r) : r = Af.srt (ms ++ [x]) := by
  obtain ⟨h1, h2⟩ := laid_sorted (Af.srt_sorted ms) h
  rw [← Af.srt_of_sorted h1]
  exact Af.srt_eq (h2.trans ((Af.srt_perm ms).append_right [x]))
theorem srt_nil : Af.srt [] = [] := by
  have := Af.srt_len []
  simpa using this
end Go.Proofs.YtigcogfjclohjaaGreatDoor
/- The document's answer's lay, at no list, and at whatever list. -/
namespace Go.Proofs.YtigcogfjclohjaaGreatDoor
open Go.RowKit Go.Shelf Go.Lib

set_option maxRecDepth 100000 in
set_option maxHeartbeats 4000000 in
theorem lay_calls0 (x : List UInt8) (w : World) :
    Calls Tryz.prog 75 #[.slice none 0 0, .string (ba x)] w fun e w' => ∃ v r, e = .returned v ∧ Af.Laid [] x r ∧ w'.ownsRow w.heap.size 9 1 v r.length (r.map sv) ∧ Below w.heap.size w w' := by
  obtain ⟨i0, hi, hz0, hz1, hz2⟩ := info_parts Tryz.infoStr
  have n1 : World.ownsRow w w.heap.size 9 1 (.slice none 0 0) 0 [] := World.ownsRow_nil _ _ _ _
  have HL := hid1 (show Af.Laid [] x [x] from ⟨0, Nat.le_refl _, rfl, fun j hj => absurd hj (by simp), fun h => absurd h (by simp)⟩)
  go_enter Tryz.func75, Tryz.ntmps75
  go_wp2
  go_loopw [5] (fun i wr => i = .int .i64 0 ∧ w = wr) (fun i _ => (intOf i).toNat)
  case atStart => exact ⟨rfl, rfl⟩
  case round =>
    obtain ⟨rfl, rfl⟩ := hrel
    go_wp2_with (first
      | (at_builtin; refine wpList_append_own _ rfl _ _ 41 rfl w.heap.size 9 i0 (.string ⟨#[]⟩) 1 16 Tryz.underlying41 hi hz0 hz1 hz2 rfl (by decide) _ _ _ rfl (n1.alloc _) ⟨w.heap.size, 0, none⟩ 1 1 [.string (ba x)] rfl rfl (cell_one_new _ _ _) (by simp [Value.oneCell']) (by unfold maxLen; omega) (by omega) (by simp) ?_; intro v2 w2 hown2 hgrow2 _; have b2 := lay_b2 (Below.refl _ w) n1 hgrow2; clear n1 hgrow2)
      | (at_builtin; refine wpList_append_own_none rfl _ _ 41 rfl w.heap.size 9 i0 1 Tryz.underlying41 hi _ _ _ rfl hown2 rfl ?_)
      | go_in)
    go_ret
    exact ⟨_, _, rfl, HL.out, hown2, b2⟩
end Go.Proofs.YtigcogfjclohjaaGreatDoor
/- The document's answer's made: sort. -/
namespace Go.Proofs.YtigcogfjclohjaaGreatDoor
open Go.RowKit Go.Shelf Go.Lib

/-- A list that is laid: none, or its own row. -/
def SoRow (w : World) (v : Value) (L : List (List UInt8)) : Prop :=
  (v = .slice none 0 0 ∧ L = []) ∨ (L ≠ [] ∧ ∃ g cap, v = .slice (some ⟨g, 0, none⟩) L.length cap ∧ TRow w v L)
theorem SoRow.below {w w' : World} {v : Value} {L : List (List UInt8)} (h : SoRow w v L) (hb : Below w.heap.size w w') : SoRow w' v L := by
  rcases h with h | ⟨h0, g, cap, e, h⟩
  · exact .inl h
  · exact .inr ⟨h0, g, cap, e, h.below hb⟩
theorem SoRow.of_owns {w : World} {base : Nat} {v : Value} {r : List (List UInt8)} (h : w.ownsRow base 9 1 v r.length (r.map sv)) (hr : r ≠ []) : SoRow w v r := by
  have ht : TRow w v r := TRow.of_owns h
  obtain ⟨p, cap, rfl, hcap, hin⟩ := ht
  obtain ⟨g, cur, rfl, hg, hcur⟩ := hin hr
  exact .inr ⟨hr, g, cap, rfl, TRow.of_owns h⟩
theorem SoRow.cells {w : World} {v : Value} {L : List (List UInt8)} (h : SoRow w v L) : ∃ p c, v = .slice p L.length c ∧ ∀ j, j < L.length → ∃ g, p = some ⟨g, 0, none⟩ ∧ ∀ i (hi : i < L.length), w.cell? ⟨g, i, none⟩ = some (.string (ba L[i])) := by
  rcases h with ⟨rfl, rfl⟩ | ⟨h0, g, cap, rfl, h⟩
  · exact ⟨none, 0, rfl, fun j hj => absurd hj (by simp)⟩
  · obtain ⟨p, c, e, _, hin⟩ := h
    obtain ⟨g', cur, rfl, hg, hcur⟩ := hin h0
    obtain ⟨rfl, rfl⟩ : g = g' ∧ cap = c := by simpa using e
    exact ⟨_, _, rfl, fun j hj => ⟨g, rfl, fun i hi => cell_of_row hg (hcur i hi)⟩⟩
theorem laid_ne {l r : List (List UInt8)} {x : List UInt8} (h : Af.Laid l x r) : r ≠ [] := by
  obtain ⟨k, _, rfl, _⟩ := h
  simp
theorem lay_srt {w : World} {v : Value} {ms : List (List UInt8)} (h : SoRow w v (Af.srt ms)) (hl : ms.length ≤ 100000) (x : List UInt8) :
    Calls Tryz.prog 75 #[v, .string (ba x)] w fun e w' => ∃ v', e = .returned v' ∧ SoRow w' v' (Af.srt (ms ++ [x])) ∧ Below w.heap.size w w' := by
  rcases h with ⟨rfl, h0⟩ | ⟨h0, g, cap, rfl, h⟩
  · refine (lay_calls0 x w).mono ?_
    rintro e w' ⟨v', r, rfl, hr, ho, hb⟩
    have hne := laid_ne hr
    rw [← h0] at hr
    rw [laid_srt hr] at ho hne
    exact ⟨v', rfl, SoRow.of_owns ho hne, hb⟩
  · refine (lay_calls g cap (Af.srt ms) x (by rw [Af.srt_len]; exact hl) h0 w h).mono ?_
    rintro e w' ⟨v', r, rfl, hr, ho, hb⟩
    have hne := laid_ne hr
    rw [laid_srt hr] at ho hne
    exact ⟨v', rfl, SoRow.of_owns ho hne, hb⟩

theorem told_sum {m n : Nat} {ls : List (List UInt8)} (hn : ls.length ≤ n) (hx : ∀ x ∈ ls, x.length ≤ m) : (Af.told (Af.srt (Af.all ls))).length ≤ n * (m + 1) := by
  rw [Af.told_perm (Af.srt_perm _)]
  refine Nat.le_trans (Af.told_all_len ls) ?_
  have key : ∀ (l : List (List UInt8)), (∀ x ∈ l, x.length ≤ m) → (l.map fun x => x.length + 1).sum ≤ l.length * (m + 1) := fun l => by
    induction l with
    | nil => simp
    | cons x r ih =>
      intro h
      have i1 := ih fun y hy => h y (by simp [hy])
      have i2 := h x (by simp)
      simp only [List.map_cons, List.sum_cons, List.length_cons, Nat.add_mul, Nat.one_mul] at i1 ⊢
      omega
  exact Nat.le_trans (key ls hx) (Nat.mul_le_mul_right _ hn)
theorem told_count (S : List (List UInt8)) : S.length ≤ (Af.told S).length := by
  induction S with
  | nil => simp
  | cons x r ih =>
    have e : Af.told (x :: r) = x ++ 10 :: Af.told r := by simp [Af.told]
    rw [e, List.length_append, List.length_cons, List.length_cons]
    omega
theorem line_all {m : Nat} {ls : List (List UInt8)} (hx : ∀ x ∈ ls, x.length ≤ m) : ∀ y ∈ Af.srt (Af.all ls), y.length ≤ m := fun y hy => by
  obtain ⟨s, hs, h⟩ := List.mem_flatMap.1 ((Af.srt_perm _).mem_iff.1 hy)
  exact Nat.le_trans (Af.line_len h) (hx s hs)

set_option maxRecDepth 100000 in
set_option maxHeartbeats 8000000 in
theorem made_sort (wd : List UInt8) (htk : Af.Kd.sort.takes wd = true) (g o cap : Nat) (ls : List (List UInt8)) (hn : ls.length ≤ 20) (hx : ∀ x ∈ ls, x.length ≤ 4000) (w : World) (hg : g < w.heap.size) (hcur : ∀ j (hj : j < ls.length), w.cell? ⟨g, o + j, none⟩ = some (.string (ba ls[j]))) :
    Calls Tryz.prog 56 #[.string ⟨#[115, 111, 114, 116]⟩, .string (ba wd), .slice (some ⟨g, o, none⟩) ls.length cap] w fun e w' => e = .returned (.string (ba (Af.sorted wd ls))) ∧ Below w.heap.size w w' := by
  have zl : (ls.length : Int) ≤ 20 := by omega
  have hwd : wd = [] ∨ wd = oncew := by
    have : wd ∈ [[], oncew] := of_decide_eq_true htk
    simpa using this
  have HC := hid1 hcur
  have HX := hid1 hx
  have HTB := hid1 fun k => take_bound hn hx k
  have HTS := hid1 (told_sum hn hx)
  have HLA := hid1 (line_all hx)
  have HLL := hid1 fun (y : List UInt8) (hy : y.length ≤ 4000) W => rLinesOf_calls y (by omega) W
  clear hcur hx htk
  go_enter Tryz.func56, Tryz.ntmps56
  go_wp2
  go_loopw [14, 15] (fun l i wr => ∃ k : Nat, k ≤ ls.length ∧ i = .int .i64 k ∧ SoRow wr l (Af.srt (Af.all (ls.take k))) ∧ Below w.heap.size w wr) (fun _ i _ => ls.length - (intOf i).toNat)
  case atStart => exact ⟨0, Nat.zero_le _, rfl, .inl ⟨rfl, srt_nil⟩, Below.refl _ _⟩
  case round =>
    obtain ⟨k, hk, rfl, hrow, hB⟩ := hrel
    have c0 : (0 : Int) ≤ (k : Int) := by omega
    have HR := hid1 hrow
    clear hrow
    by_cases hlt : k < ls.length
    · have c1 : (k : Int) < (ls.length : Int) := by omega
      have hb0 : Af.bytes (ls.take (k + 1)) ≤ 80000 := HTB.out (k + 1)
      have ha0 : (Af.all (ls.take (k + 1))).length ≤ 80000 := Nat.le_trans (all_len_le _) hb0
      have hy := HX.out _ (List.getElem_mem hlt)
      have hcell := (hB.cell (p := ⟨g, o + k, none⟩) hg).trans (HC.out k hlt)
      have HA := hid1 (all_take hlt)
      rw [HA.out, List.length_append] at ha0
      have H1 := HLL.out ls[k] hy wr
      generalize ls[k] = y at *
      generalize Af.lines y = L at *
      generalize Af.all (ls.take k) = ms at *
      have q8 : IntKind.i64.wrap (k : Int) = (k : Int) := by rw [IntKind.wrap_i64]; omega
      have zL : (L.length : Int) ≤ 80000 := by omega
      go_wp2_with fail
      refine Calls.mono H1 ?_
      rintro e w1 ⟨vL, rfl, hL, g1⟩
      have HL := hid1 hL
      obtain ⟨pa, lc, rfl, hcap, _⟩ := hL
      have HR1 := hid1 (HR.out.below g1)
      have hB1 := hB.trans (g1.mono hB.size)
      clear HR H1 hcell g1
      generalize wr = w0 at *
      go_wp2
      go_loopw [14, 17] (fun l j wr => ∃ m : Nat, m ≤ L.length ∧ j = .int .i64 m ∧ SoRow wr l (Af.srt (ms ++ L.take m)) ∧ Below w1.heap.size w1 wr) (fun _ j _ => L.length - (intOf j).toNat)
      case atStart => exact ⟨0, Nat.zero_le _, rfl, by simpa using HR1.out, Below.refl _ _⟩
      case round =>
        obtain ⟨m, hm, rfl, hrow, hBr⟩ := hrel
        have HR := hid1 hrow
        clear hrow
        have c2 : (0 : Int) ≤ (m : Int) := by omega
        have q7 : IntKind.i64.wrap (m : Int) = (m : Int) := by rw [IntKind.wrap_i64]; omega
        by_cases hmt : m < L.length
        · have c3 : (m : Int) < (L.length : Int) := by omega
          obtain ⟨_, _, e1, _, hin⟩ := HL.out
          obtain ⟨g1, cur, rfl, hg1, hcur⟩ := hin (by intro e; rw [e] at hmt; simp at hmt)
          obtain ⟨rfl, rfl⟩ : pa = some ⟨g1, 0, none⟩ ∧ _ := by simpa using e1
          have hc1 := (hBr.cell (p := ⟨g1, m, none⟩) (Array.getElem?_eq_some_iff.1 hg1).1).trans (cell_of_row hg1 (hcur m hmt))
          have H2 := hid1 (lay_srt HR.out (by simp; omega) L[m])
          have HS := hid1 (show ms ++ L.take m ++ [L[m]] = ms ++ L.take (m + 1) by rw [List.take_succ_eq_append_getElem hmt, List.append_assoc])
          rw [HS.out] at H2
          clear hcur hg1 hin HL
          generalize L[m] = z at *
          go_wp2_with fail
          refine Calls.mono H2.out ?_
          rintro e w3 ⟨v3, rfl, hrow3, g3⟩
          have HR3 := hid1 hrow3
          clear hrow3
          go_wp2
          exact ⟨⟨m + 1, by omega, by go_num, HR3.out, hBr.trans (g3.mono hBr.size)⟩, by simp [intOf]; omega⟩
        · obtain rfl : m = L.length := by omega
          have c3 : ¬ (L.length : Int) < (L.length : Int) := by omega
          rw [List.take_length] at *
          clear HL
          go_wp2
          exact ⟨⟨k + 1, by omega, by go_num, by rw [HA.out]; exact HR.out, hB1.trans (hBr.mono hB1.size)⟩, by simp [intOf]; omega⟩
    · obtain rfl : k = ls.length := by omega
      have c1 : ¬ (ls.length : Int) < (ls.length : Int) := by omega
      rw [List.take_length] at *
      have hso : Af.sorted wd ls = Af.told (if wd = oncew then Lib.compact (Af.srt (Af.all ls)) else Af.srt (Af.all ls)) := rfl
      have HSO := hid1 hso
      clear hso HTB HX HC
      obtain ⟨p8, c8, rfl, hS0⟩ := HR.out.cells
      have hS8 := hid1 hS0
      clear hS0 HR
      generalize Af.srt (Af.all ls) = S at *
      have hS1 : S.length ≤ 80020 := by
        have h1 := HTS.out
        have h2 := told_count S
        omega
      have zS : (S.length : Int) ≤ 80020 := by omega
      generalize wr = w8 at *
      rcases hwd with hwd | hwd
      · have q0 : wd.isEmpty = true := by rw [hwd]; rfl
        have HE0 : Hid (Af.sorted wd ls = Af.told S) := by
          refine hid1 ?_
          rw [HSO.out, if_neg (by rw [hwd]; decide)]
        clear hwd HSO
        go_wp2
        go_loopw [7, 18] (fun s i wr => ∃ k q : Nat, k ≤ S.length ∧ s = .string (ba (Af.told (S.take k))) ∧ i = .int .i64 k ∧ wr = w8.drewN q) (fun _ i _ => S.length - (intOf i).toNat)
        case atStart => exact ⟨0, 0, Nat.zero_le _, rfl, rfl, rfl⟩
        case round =>
          obtain ⟨k, q, hk, rfl, rfl, rfl⟩ := hrel
          have v0 : (0 : Int) ≤ (k : Int) := by omega
          have hl0 := Nat.le_trans (told_take_len (l := S) k) HTS.out
          by_cases hlt : k < S.length
          · have v1 : (k : Int) < (S.length : Int) := by omega
            obtain ⟨g1, rfl, hcs⟩ := hS8.out k hlt
            have hc1 := hcs k hlt
            have hy := HLA.out _ (List.getElem_mem hlt)
            have HE := hid1 (show Af.told (S.take (k + 1)) = Af.told (S.take k) ++ S[k] ++ [10] by rw [List.take_succ_eq_append_getElem hlt]; exact told_step _ _)
            clear hcs hS8 HLA
            generalize S[k] = y at *
            generalize Af.told (S.take k) = t at *
            have q8 : IntKind.i64.wrap (k : Int) = (k : Int) := by rw [IntKind.wrap_i64]; omega
            have s1 : ∀ W, (Op.stringOp .add (ba t) (ba y)).run Tryz.prog W = .ok (.string (ba (t ++ y))) W := madd t y (by omega)
            have s2 : ∀ W, (Op.stringOp .add (ba (t ++ y)) ⟨#[10]⟩).run Tryz.prog W = .ok (.string (ba (t ++ y ++ [10]))) W := madd (t ++ y) [10] (by rw [List.length_append]; simp; omega)
            generalize t ++ y ++ [10] = t2 at *
            generalize t ++ y = t1 at *
            go_wp2
            go_quiet (fail)
            go_wp2
            exact ⟨⟨k + 1, _, by omega, by rw [HE.out], by go_num, rfl⟩, by simp [intOf]; omega⟩
          · obtain rfl : k = S.length := by omega
            have v1 : ¬ (S.length : Int) < (S.length : Int) := by omega
            rw [List.take_length] at *
            clear hS8 HLA
            go_wp2
            go_ret
            refine ⟨?_, below_draws hB q⟩
            show Ending.returned (.string (ba (Af.told S))) = _
            rw [HE0.out]
      · have q0 : wd.isEmpty = false := by rw [hwd]; rfl
        have HE0 : Hid (Af.sorted wd ls = Af.told (Lib.compact S)) := by
          refine hid1 ?_
          rw [HSO.out, if_pos hwd]
        clear hwd HSO
        have HCU : Hid (Lib.compact S = compactUpTo S.toArray S.length) := by
          refine hid1 ?_
          rw [Lib.compact]
        go_wp2
        go_loopw [7, 18] (fun s i wr => ∃ k q : Nat, k ≤ S.length ∧ s = .string (ba (Af.told (compactUpTo S.toArray k))) ∧ i = .int .i64 k ∧ wr = w8.drewN q) (fun _ i _ => S.length - (intOf i).toNat)
        case atStart => exact ⟨0, 0, Nat.zero_le _, rfl, rfl, rfl⟩
        case round =>
          obtain ⟨k, q, hk, rfl, rfl, rfl⟩ := hrel
          have v0 : (0 : Int) ≤ (k : Int) := by omega
          have hl0 := Nat.le_trans (Af.compact_told_len S k hk) (Nat.le_trans (told_take_len (l := S) k) HTS.out)
          by_cases hlt : k < S.length
          · have v1 : (k : Int) < (S.length : Int) := by omega
            obtain ⟨g1, rfl, hcs⟩ := hS8.out k hlt
            have hc1 := hcs k hlt
            have hy := HLA.out _ (List.getElem_mem hlt)
            have q8 : IntKind.i64.wrap (k : Int) = (k : Int) := by rw [IntKind.wrap_i64]; omega
            have HKeep := hid1 fun hkp : keeps S.toArray k = true => show Af.told (compactUpTo S.toArray (k + 1)) = Af.told (compactUpTo S.toArray k) ++ S[k] ++ [10] by rw [(compact_keep S k hlt hkp).1]; exact told_step _ _
            have HSkip := hid1 fun hkp : keeps S.toArray k = false => show Af.told (compactUpTo S.toArray (k + 1)) = Af.told (compactUpTo S.toArray k) by rw [compact_skip S k hkp]
            have s1 : ∀ W, (Op.stringOp .add (ba (Af.told (compactUpTo S.toArray k))) (ba S[k])).run Tryz.prog W = .ok (.string (ba (Af.told (compactUpTo S.toArray k) ++ S[k]))) W := madd _ S[k] (by omega)
            have s2 : ∀ W, (Op.stringOp .add (ba (Af.told (compactUpTo S.toArray k) ++ S[k])) ⟨#[10]⟩).run Tryz.prog W = .ok (.string (ba (Af.told (compactUpTo S.toArray k) ++ S[k] ++ [10]))) W := madd (Af.told (compactUpTo S.toArray k) ++ S[k]) [10] (by rw [List.length_append]; simp; omega)
            by_cases h0 : k = 0
            · subst h0
              have HE := hid1 (HKeep.out (keeps_zero S))
              clear HKeep HSkip hcs hS8 HLA
              generalize S[0] = y at *
              generalize Af.told (compactUpTo S.toArray 0) = t at *
              generalize t ++ y ++ [10] = t2 at *
              generalize t ++ y = t1 at *
              go_wp2
              go_quiet (fail)
              go_wp2
              exact ⟨⟨1, _, by omega, by rw [HE.out], by go_num, rfl⟩, by simp [intOf]; omega⟩
            · obtain ⟨i, rfl⟩ : ∃ i, k = i + 1 := ⟨k - 1, by omega⟩
              have hc0 := hcs i (by omega)
              have HKE := hid1 (keeps_succ S i hlt)
              have d0 : (((i + 1 : Nat) : Int) == 0) = false := by simp; omega
              have d0' : ((i : Int) + 1 == 0) = false := by simp; omega
              have v5 : (i : Int) < (S.length : Int) := by omega
              have v6 : (0 : Int) ≤ (i : Int) := by omega
              have v7 : (i : Int) + 1 < (S.length : Int) := by omega
              have v8 : (0 : Int) ≤ (i : Int) + 1 := by omega
              have v9 : IntKind.i64.wrap ((i : Int) + 1 - 1) = (i : Int) := by rw [IntKind.wrap_i64]; omega
              cases hb : S[i + 1] == S[i] with
              | true =>
                have HE := hid1 (HSkip.out (by rw [HKE.out, hb]; rfl))
                clear HKeep HSkip HKE hcs hS8 HLA s1 s2
                generalize S[i + 1] = y1 at *
                generalize S[i] = y0 at *
                generalize Af.told (compactUpTo S.toArray (i + 1)) = t at *
                go_wp2
                go_quiet (fail)
                go_wp2
                exact ⟨⟨i + 1 + 1, _, by omega, by rw [HE.out], by go_num, rfl⟩, by simp [intOf]; omega⟩
              | false =>
                have HE := hid1 (HKeep.out (by rw [HKE.out, hb]; rfl))
                clear HKeep HSkip HKE hcs hS8 HLA
                generalize S[i + 1] = y1 at *
                generalize S[i] = y0 at *
                generalize Af.told (compactUpTo S.toArray (i + 1)) = t at *
                generalize t ++ y1 ++ [10] = t2 at *
                generalize t ++ y1 = t1 at *
                go_wp2
                go_quiet (fail)
                go_wp2
                exact ⟨⟨i + 1 + 1, _, by omega, by rw [HE.out], by go_num, rfl⟩, by simp [intOf]; omega⟩
          · obtain rfl : k = S.length := by omega
            have v1 : ¬ (S.length : Int) < (S.length : Int) := by omega
            clear hS8 HLA
            rw [← HCU.out] at *
            go_wp2
            go_ret
            refine ⟨?_, below_draws hB q⟩
            show Ending.returned (.string (ba (Af.told (Lib.compact S)))) = _
            rw [HE0.out]
end Go.Proofs.YtigcogfjclohjaaGreatDoor
