/- The document's answer's lay: a text laid in behind all that are not greater. -/
import Derived.Test.YtmeplgihnlpjcaaGreatDoorMG2
import Derived.Laws.AppendOwnNone
import Derived.Test.YtmeplgihnlpjcaaGreatDoorMG4
import Derived.Test.YtmeplgihnlpjcaaGreatDoorMG6
import Derived.Test.YtmeplgihnlpjcaaGreatDoorMG12
import Derived.Test.YtmeplgihnlpjcaaGreatDoorMG11
namespace Go.Proofs.YtmeplgihnlpjcaaGreatDoor
open Go.RowKit Go.Shelf Go.Lib

/-- Is y greater than x? -/
def Af.gtB (y x : List UInt8) : Bool := !Op.bytesLess y x && !(y == x)
/-- r is l with x laid in. -/
def Af.Laid (l : List (List UInt8)) (x : List UInt8) (r : List (List UInt8)) : Prop :=
  ∃ k, k ≤ l.length ∧ r = l.take k ++ x :: l.drop k ∧ (∀ j (hj : j < l.length), k ≤ j → Af.gtB l[j] x = true) ∧ (∀ hk : k - 1 < l.length, 0 < k → Af.gtB l[k - 1] x = false)

theorem lay_b2 {w w1 w2 : World} {v : Value} {n : Nat} {xs : List Value} {tmp : Obj} (b1 : Below w.heap.size w w1) (h : w1.ownsRow w.heap.size 9 1 v n xs) (hg : (w1.alloc tmp).grownBy w2 v.ownBlock) : Below w.heap.size w w2 := below_appended b1 b1.size h hg

theorem lay_b3 {w w2 w3 : World} {v : Value} {n : Nat} {xs : List Value} (b2 : Below w.heap.size w w2) (h : w2.ownsRow w.heap.size 9 1 v n xs) (hg : w2.grownBy w3 v.ownBlock) : Below w.heap.size w w3 := below_more b2 b2.size h hg
theorem lay_src {w w2 : World} {g k : Nat} {l : List (List UInt8)} (hR : Hid (∀ W, Below w.heap.size w W → ∀ k (hk : k < l.length), W.cell? ⟨g, k, none⟩ = some (.string (ba l[k])))) (b2 : Below w.heap.size w w2) :
    ∀ j u, ((l.drop k).map sv)[j]? = some u → w2.cell? ((⟨g, k, none⟩ : Addr).add j) = some u := fun j u hj => by
  have hjl : j < (l.drop k).length := by simpa using (List.getElem?_eq_some_iff.1 hj).1
  have hjl' : k + j < l.length := by simp at hjl; omega
  rw [List.getElem?_map, List.getElem?_eq_getElem hjl] at hj
  simp only [Option.map_some, Option.some.injEq, List.getElem_drop] at hj
  rw [← hj, add_at2]
  exact hR.out w2 b2 (k + j) hjl'
theorem lay_src0 {w2 : World} {k : Nat} {l : List (List UInt8)} (h : l.length ≤ k) (ad : Addr) : ∀ j u, ((l.drop k).map sv)[j]? = some u → w2.cell? (ad.add j) = some u := fun j u hj => by
  rw [List.drop_of_length_le h] at hj
  simp at hj
theorem lay_row {w : World} {B k : Nat} {l : List (List UInt8)} {x : List UInt8} {v : Value} (hk : k ≤ l.length) (h : w.ownsRow B 9 1 v (0 + k + 1 + (l.length - k)) ([] ++ (l.take k).map sv ++ [.string (ba x)] ++ (l.drop k).map sv)) :
    w.ownsRow B 9 1 v (l.take k ++ x :: l.drop k).length ((l.take k ++ x :: l.drop k).map sv) := by
  have e1 : (l.take k ++ x :: l.drop k).length = 0 + k + 1 + (l.length - k) := by simp; omega
  have e2 : (l.take k ++ x :: l.drop k).map sv = [] ++ (l.take k).map sv ++ [.string (ba x)] ++ (l.drop k).map sv := by
    rw [List.map_append, List.map_cons, List.nil_append, List.append_assoc]
    rfl
  rw [e1, e2]
  exact h

theorem lay_row0 {w : World} {B k : Nat} {l : List (List UInt8)} {x : List UInt8} {v : Value} (hk : k ≤ l.length) (hlk : l.length = k) (h : w.ownsRow B 9 1 v (0 + k + 1 + 0) ([] ++ (l.take k).map sv ++ [.string (ba x)] ++ (l.drop k).map sv)) :
    w.ownsRow B 9 1 v (l.take k ++ x :: l.drop k).length ((l.take k ++ x :: l.drop k).map sv) :=
  lay_row hk (by rw [show 0 + k + 1 + (l.length - k) = 0 + k + 1 + 0 by omega]; exact h)

set_option maxRecDepth 100000 in
set_option maxHeartbeats 4000000 in
theorem lay_calls (g cap : Nat) (l : List (List UInt8)) (x : List UInt8) (hl : l.length ≤ 100000) (hne : l ≠ []) (w : World) (hrow : TRow w (.slice (some ⟨g, 0, none⟩) l.length cap) l) :
    Calls Tryz.prog 40 #[.slice (some ⟨g, 0, none⟩) l.length cap, .string (ba x)] w fun e w' => ∃ v r, e = .returned v ∧ Af.Laid l x r ∧ w'.ownsRow w.heap.size 9 1 v r.length (r.map sv) ∧ Below w.heap.size w w' := by
  obtain ⟨i0, hi, hz0, hz1, hz2⟩ := info_parts Tryz.infoStr
  obtain ⟨p, c, e, hcap, hin⟩ := hrow
  obtain ⟨g', cur, rfl, hg, hcur⟩ := hin hne
  obtain ⟨rfl, rfl⟩ : g = g' ∧ cap = c := by simpa using e
  have hR : Hid (∀ W, Below w.heap.size w W → ∀ k (hk : k < l.length), W.cell? ⟨g, k, none⟩ = some (.string (ba l[k]))) := fun W hW k hk => cell_of_row ((hW.block g (Array.getElem?_eq_some_iff.1 hg).1).trans hg) (hcur k hk)
  have zl : (l.length : Int) ≤ 100000 := by omega
  have zc : l.length ≤ cap := hcap
  clear hin e hcur
  go_enter Tryz.func40, Tryz.ntmps40
  go_wp2
  go_loopw [5] (fun i wr => ∃ k : Nat, k ≤ l.length ∧ i = .int .i64 k ∧ (∀ j (hj : j < l.length), k ≤ j → Af.gtB l[j] x = true) ∧ w = wr) (fun i _ => (intOf i).toNat)
  case atStart => exact ⟨l.length, Nat.le_refl _, rfl, fun j hj h => by omega, rfl⟩
  case round =>
    obtain ⟨k, hk, rfl, hgt, rfl⟩ := hrel
    have HG := hid1 hgt
    clear hgt
    by_cases h0 : 0 < k
    · have d0 : (0 : Int) < (k : Int) := by omega
      have hk1 : k - 1 < l.length := by omega
      have hcell := hR.out w (Below.refl _ w) (k - 1) hk1
      have e1 : ((k - 1 : Nat) : Int) = (k : Int) - 1 := by omega
      have e2 : IntKind.i64.wrap ((k : Int) - 1) = (k : Int) - 1 := by rw [IntKind.wrap_i64]; omega
      have e3 : ((k : Int) - 1).toNat = k - 1 := by omega
      have e4 : (k : Int) - 1 < (l.length : Int) := by omega
      have e5 : (0 : Int) ≤ (k : Int) - 1 := by omega
      have HB : Hid (Af.gtB l[k - 1] x = (!Op.bytesLess l[k - 1] x && !(l[k - 1] == x))) := rfl
      have HS : Hid (Af.gtB l[k - 1] x = true → ∀ j (hj : j < l.length), k - 1 ≤ j → Af.gtB l[j] x = true) := fun hb j hj h => by
        by_cases e : j = k - 1
        · subst e
          exact hb
        · exact HG.out j hj (by omega)
      have HLast : Hid (Af.gtB l[k - 1] x = false → ∀ hh : k - 1 < l.length, 0 < k → Af.gtB l[k - 1] x = false) := fun h _ _ => h
      generalize hg : Af.gtB l[k - 1] x = gb at *
      generalize l[k - 1] = y at *
      cases q1 : Op.bytesLess y x with
      | true =>
        have hg0 : gb = false := by rw [HB.out, q1]; rfl
        have HLast := hid1 (HLast.out hg0)
        clear HB HS hg
        have hsrc1 : ∀ j u, ((l.take k).map sv)[j]? = some u → w.cell? ((⟨g, 0, none⟩ : Addr).add j) = some u := fun j u hj => by
          have hjl : j < (l.take k).length := by simpa using (List.getElem?_eq_some_iff.1 hj).1
          have hjl' : j < l.length := by simp at hjl; omega
          rw [List.getElem?_map, List.getElem?_eq_getElem hjl] at hj
          simp only [Option.map_some, Option.some.injEq, List.getElem_take] at hj
          rw [← hj, add_at]
          exact hR.out w (Below.refl _ w) j hjl'
        have hl1 : 1 ≤ l.length := by
          cases l with
          | nil => exact absurd rfl hne
          | cons y r => simp
        have ka : (k : Int) ≤ (cap : Int) := by omega
        have kb : k ≤ cap := by omega
        have kc : (0 : Int) ≤ (k : Int) := by omega
        have kd' : (k : Int) ≤ (l.length : Int) := by omega
        have HL := hid1 (show Af.Laid l x (l.take k ++ x :: l.drop k) from ⟨k, hk, rfl, HG.out, HLast.out⟩)
        have n1 : World.ownsRow w w.heap.size 9 1 (.slice none 0 0) 0 [] := World.ownsRow_nil _ _ _ _
        by_cases hck : cap = k
        · subst hck
          have hlk : l.length = cap := by omega
          have hlz : l.length - cap = 0 := by omega
          go_wp2_with (first
            | (at_builtin; refine wpList_append_own _ rfl _ _ 34 rfl w.heap.size 9 i0 (.string ⟨#[]⟩) 1 16 Tryz.underlying34 hi hz0 hz1 hz2 rfl (by decide) _ _ _ rfl n1 ⟨g, 0, none⟩ cap cap ((l.take cap).map sv) rfl (by simp; omega) hsrc1 one_sv (by unfold maxLen; omega) (by omega) (Nat.le_refl _) ?_; intro v1 w1 hown1 hgrow1 _; have b1 := lay_b1 n1 hgrow1; clear hsrc1 n1 hgrow1)
            | (at_builtin; refine wpList_append_own _ rfl _ _ 34 rfl w.heap.size 9 i0 (.string ⟨#[]⟩) 1 16 Tryz.underlying34 hi hz0 hz1 hz2 rfl (by decide) _ _ _ rfl (hown1.alloc _) ⟨w1.heap.size, 0, none⟩ 1 1 [.string (ba x)] rfl rfl (cell_one_new _ _ _) (by simp [Value.oneCell']) (by unfold maxLen; omega) (by omega) (by simp; have := b1.size; omega) ?_; intro v2 w2 hown2 hgrow2 _; have b2 := lay_b2 b1 hown1 hgrow2; clear hown1 hgrow2)
            | (at_builtin; (refine wpList_append_own _ rfl _ _ 34 rfl w.heap.size 9 i0 (.string ⟨#[]⟩) 1 16 Tryz.underlying34 hi hz0 hz1 hz2 rfl (by decide) _ _ _ rfl hown2 ⟨g, 0, none⟩ 0 0 ((l.drop cap).map sv) rfl (by simp; omega) (lay_src0 (k := cap) (l := l) (by omega) _) one_sv (by unfold maxLen; omega) (by omega) b2.size ?_; intro v3 w3 hown3 hgrow3 _; have b3 := lay_b3 b2 hown2 hgrow3; clear hown2 hgrow3))
            | go_in)
          go_ret
          first | exact ⟨_, rfl, _, HL.out, lay_row0 hk hlk hown3, b3⟩ | exact ⟨_, rfl, _, b3, HL.out, lay_row0 hk hlk hown3⟩ | exact ⟨_, rfl, ⟨_, HL.out, lay_row0 hk hlk hown3⟩, b3⟩
        · go_wp2_with (first
            | (at_builtin; refine wpList_append_own _ rfl _ _ 34 rfl w.heap.size 9 i0 (.string ⟨#[]⟩) 1 16 Tryz.underlying34 hi hz0 hz1 hz2 rfl (by decide) _ _ _ rfl n1 ⟨g, 0, none⟩ k cap ((l.take k).map sv) rfl (by simp; omega) hsrc1 one_sv (by unfold maxLen; omega) (by omega) (Nat.le_refl _) ?_; intro v1 w1 hown1 hgrow1 _; have b1 := lay_b1 n1 hgrow1; clear hsrc1 n1 hgrow1)
            | (at_builtin; refine wpList_append_own _ rfl _ _ 34 rfl w.heap.size 9 i0 (.string ⟨#[]⟩) 1 16 Tryz.underlying34 hi hz0 hz1 hz2 rfl (by decide) _ _ _ rfl (hown1.alloc _) ⟨w1.heap.size, 0, none⟩ 1 1 [.string (ba x)] rfl rfl (cell_one_new _ _ _) (by simp [Value.oneCell']) (by unfold maxLen; omega) (by omega) (by simp; have := b1.size; omega) ?_; intro v2 w2 hown2 hgrow2 _; have b2 := lay_b2 b1 hown1 hgrow2; clear hown1 hgrow2)
            | (at_builtin; refine wpList_append_own _ rfl _ _ 34 rfl w.heap.size 9 i0 (.string ⟨#[]⟩) 1 16 Tryz.underlying34 hi hz0 hz1 hz2 rfl (by decide) _ _ _ rfl hown2 ⟨g, k, none⟩ (l.length - k) (cap - k) ((l.drop k).map sv) rfl (by simp) (lay_src (k := k) hR b2) one_sv (by unfold maxLen; omega) (by omega) b2.size ?_; intro v3 w3 hown3 hgrow3 _; have b3 := lay_b3 b2 hown2 hgrow3; clear hown2 hgrow3)
            | go_in)
          go_ret
          exact ⟨_, _, rfl, HL.out, lay_row hk hown3, b3⟩
      | false =>
        cases q2 : (y == x) with
        | true =>
          have hg0 : gb = false := by rw [HB.out, q1, q2]; rfl
          have HLast := hid1 (HLast.out hg0)
          clear HB HS hg
          have hsrc1 : ∀ j u, ((l.take k).map sv)[j]? = some u → w.cell? ((⟨g, 0, none⟩ : Addr).add j) = some u := fun j u hj => by
            have hjl : j < (l.take k).length := by simpa using (List.getElem?_eq_some_iff.1 hj).1
            have hjl' : j < l.length := by simp at hjl; omega
            rw [List.getElem?_map, List.getElem?_eq_getElem hjl] at hj
            simp only [Option.map_some, Option.some.injEq, List.getElem_take] at hj
            rw [← hj, add_at]
            exact hR.out w (Below.refl _ w) j hjl'
          have hl1 : 1 ≤ l.length := by
            cases l with
            | nil => exact absurd rfl hne
            | cons y r => simp
          have ka : (k : Int) ≤ (cap : Int) := by omega
          have kb : k ≤ cap := by omega
          have kc : (0 : Int) ≤ (k : Int) := by omega
          have kd' : (k : Int) ≤ (l.length : Int) := by omega
          have HL := hid1 (show Af.Laid l x (l.take k ++ x :: l.drop k) from ⟨k, hk, rfl, HG.out, HLast.out⟩)
          have n1 : World.ownsRow w w.heap.size 9 1 (.slice none 0 0) 0 [] := World.ownsRow_nil _ _ _ _
          by_cases hck : cap = k
          · subst hck
            have hlk : l.length = cap := by omega
            have hlz : l.length - cap = 0 := by omega
            go_wp2_with (first
              | (at_builtin; refine wpList_append_own _ rfl _ _ 34 rfl w.heap.size 9 i0 (.string ⟨#[]⟩) 1 16 Tryz.underlying34 hi hz0 hz1 hz2 rfl (by decide) _ _ _ rfl n1 ⟨g, 0, none⟩ cap cap ((l.take cap).map sv) rfl (by simp; omega) hsrc1 one_sv (by unfold maxLen; omega) (by omega) (Nat.le_refl _) ?_; intro v1 w1 hown1 hgrow1 _; have b1 := lay_b1 n1 hgrow1; clear hsrc1 n1 hgrow1)
              | (at_builtin; refine wpList_append_own _ rfl _ _ 34 rfl w.heap.size 9 i0 (.string ⟨#[]⟩) 1 16 Tryz.underlying34 hi hz0 hz1 hz2 rfl (by decide) _ _ _ rfl (hown1.alloc _) ⟨w1.heap.size, 0, none⟩ 1 1 [.string (ba x)] rfl rfl (cell_one_new _ _ _) (by simp [Value.oneCell']) (by unfold maxLen; omega) (by omega) (by simp; have := b1.size; omega) ?_; intro v2 w2 hown2 hgrow2 _; have b2 := lay_b2 b1 hown1 hgrow2; clear hown1 hgrow2)
              | (at_builtin; (refine wpList_append_own _ rfl _ _ 34 rfl w.heap.size 9 i0 (.string ⟨#[]⟩) 1 16 Tryz.underlying34 hi hz0 hz1 hz2 rfl (by decide) _ _ _ rfl hown2 ⟨g, 0, none⟩ 0 0 ((l.drop cap).map sv) rfl (by simp; omega) (lay_src0 (k := cap) (l := l) (by omega) _) one_sv (by unfold maxLen; omega) (by omega) b2.size ?_; intro v3 w3 hown3 hgrow3 _; have b3 := lay_b3 b2 hown2 hgrow3; clear hown2 hgrow3))
              | go_in)
            go_ret
            first | exact ⟨_, rfl, _, HL.out, lay_row0 hk hlk hown3, b3⟩ | exact ⟨_, rfl, _, b3, HL.out, lay_row0 hk hlk hown3⟩ | exact ⟨_, rfl, ⟨_, HL.out, lay_row0 hk hlk hown3⟩, b3⟩
          · go_wp2_with (first
              | (at_builtin; refine wpList_append_own _ rfl _ _ 34 rfl w.heap.size 9 i0 (.string ⟨#[]⟩) 1 16 Tryz.underlying34 hi hz0 hz1 hz2 rfl (by decide) _ _ _ rfl n1 ⟨g, 0, none⟩ k cap ((l.take k).map sv) rfl (by simp; omega) hsrc1 one_sv (by unfold maxLen; omega) (by omega) (Nat.le_refl _) ?_; intro v1 w1 hown1 hgrow1 _; have b1 := lay_b1 n1 hgrow1; clear hsrc1 n1 hgrow1)
              | (at_builtin; refine wpList_append_own _ rfl _ _ 34 rfl w.heap.size 9 i0 (.string ⟨#[]⟩) 1 16 Tryz.underlying34 hi hz0 hz1 hz2 rfl (by decide) _ _ _ rfl (hown1.alloc _) ⟨w1.heap.size, 0, none⟩ 1 1 [.string (ba x)] rfl rfl (cell_one_new _ _ _) (by simp [Value.oneCell']) (by unfold maxLen; omega) (by omega) (by simp; have := b1.size; omega) ?_; intro v2 w2 hown2 hgrow2 _; have b2 := lay_b2 b1 hown1 hgrow2; clear hown1 hgrow2)
              | (at_builtin; refine wpList_append_own _ rfl _ _ 34 rfl w.heap.size 9 i0 (.string ⟨#[]⟩) 1 16 Tryz.underlying34 hi hz0 hz1 hz2 rfl (by decide) _ _ _ rfl hown2 ⟨g, k, none⟩ (l.length - k) (cap - k) ((l.drop k).map sv) rfl (by simp) (lay_src (k := k) hR b2) one_sv (by unfold maxLen; omega) (by omega) b2.size ?_; intro v3 w3 hown3 hgrow3 _; have b3 := lay_b3 b2 hown2 hgrow3; clear hown2 hgrow3)
              | go_in)
            go_ret
            exact ⟨_, _, rfl, HL.out, lay_row hk hown3, b3⟩
        | false =>
          have hg0 : gb = true := by rw [HB.out, q1, q2]; rfl
          have HS := hid1 (HS.out hg0)
          clear HB HLast hg
          go_wp2
          exact ⟨⟨k - 1, by omega, by go_num, HS.out, trivial⟩, by simp [intOf]; omega⟩
    · have d0 : (k : Int) ≤ 0 := by omega
      have hsrc1 : ∀ j u, ((l.take k).map sv)[j]? = some u → w.cell? ((⟨g, 0, none⟩ : Addr).add j) = some u := fun j u hj => by
        have hjl : j < (l.take k).length := by simpa using (List.getElem?_eq_some_iff.1 hj).1
        have hjl' : j < l.length := by simp at hjl; omega
        rw [List.getElem?_map, List.getElem?_eq_getElem hjl] at hj
        simp only [Option.map_some, Option.some.injEq, List.getElem_take] at hj
        rw [← hj, add_at]
        exact hR.out w (Below.refl _ w) j hjl'
      have hl1 : 1 ≤ l.length := by
        cases l with
        | nil => exact absurd rfl hne
        | cons y r => simp
      have ka : (k : Int) ≤ (cap : Int) := by omega
      have kb : k ≤ cap := by omega
      have kc : (0 : Int) ≤ (k : Int) := by omega
      have kd' : (k : Int) ≤ (l.length : Int) := by omega
      have HL := hid1 (show Af.Laid l x (l.take k ++ x :: l.drop k) from ⟨k, hk, rfl, HG.out, fun _ h => absurd h h0⟩)
      have n1 : World.ownsRow w w.heap.size 9 1 (.slice none 0 0) 0 [] := World.ownsRow_nil _ _ _ _
      by_cases hck : cap = k
      · exact absurd hck (by omega)
      · go_wp2_with (first
          | (at_builtin; refine wpList_append_own _ rfl _ _ 34 rfl w.heap.size 9 i0 (.string ⟨#[]⟩) 1 16 Tryz.underlying34 hi hz0 hz1 hz2 rfl (by decide) _ _ _ rfl n1 ⟨g, 0, none⟩ k cap ((l.take k).map sv) rfl (by simp; omega) hsrc1 one_sv (by unfold maxLen; omega) (by omega) (Nat.le_refl _) ?_; intro v1 w1 hown1 hgrow1 _; have b1 := lay_b1 n1 hgrow1; clear hsrc1 n1 hgrow1)
          | (at_builtin; refine wpList_append_own _ rfl _ _ 34 rfl w.heap.size 9 i0 (.string ⟨#[]⟩) 1 16 Tryz.underlying34 hi hz0 hz1 hz2 rfl (by decide) _ _ _ rfl (hown1.alloc _) ⟨w1.heap.size, 0, none⟩ 1 1 [.string (ba x)] rfl rfl (cell_one_new _ _ _) (by simp [Value.oneCell']) (by unfold maxLen; omega) (by omega) (by simp; have := b1.size; omega) ?_; intro v2 w2 hown2 hgrow2 _; have b2 := lay_b2 b1 hown1 hgrow2; clear hown1 hgrow2)
          | (at_builtin; refine wpList_append_own _ rfl _ _ 34 rfl w.heap.size 9 i0 (.string ⟨#[]⟩) 1 16 Tryz.underlying34 hi hz0 hz1 hz2 rfl (by decide) _ _ _ rfl hown2 ⟨g, k, none⟩ (l.length - k) (cap - k) ((l.drop k).map sv) rfl (by simp) (lay_src (k := k) hR b2) one_sv (by unfold maxLen; omega) (by omega) b2.size ?_; intro v3 w3 hown3 hgrow3 _; have b3 := lay_b3 b2 hown2 hgrow3; clear hown2 hgrow3)
          | go_in)
        go_ret
        exact ⟨_, _, rfl, HL.out, lay_row hk hown3, b3⟩
end Go.Proofs.YtmeplgihnlpjcaaGreatDoor
/- The document's answer's lay, at no list, and at whatever list. -/
namespace Go.Proofs.YtmeplgihnlpjcaaGreatDoor
open Go.RowKit Go.Shelf Go.Lib

set_option maxRecDepth 100000 in
set_option maxHeartbeats 4000000 in
theorem lay_calls0 (x : List UInt8) (w : World) :
    Calls Tryz.prog 40 #[.slice none 0 0, .string (ba x)] w fun e w' => ∃ v r, e = .returned v ∧ Af.Laid [] x r ∧ w'.ownsRow w.heap.size 9 1 v r.length (r.map sv) ∧ Below w.heap.size w w' := by
  obtain ⟨i0, hi, hz0, hz1, hz2⟩ := info_parts Tryz.infoStr
  have n1 : World.ownsRow w w.heap.size 9 1 (.slice none 0 0) 0 [] := World.ownsRow_nil _ _ _ _
  have HL := hid1 (show Af.Laid [] x [x] from ⟨0, Nat.le_refl _, rfl, fun j hj => absurd hj (by simp), fun h => absurd h (by simp)⟩)
  go_enter Tryz.func40, Tryz.ntmps40
  go_wp2
  go_loopw [5] (fun i wr => i = .int .i64 0 ∧ w = wr) (fun i _ => (intOf i).toNat)
  case atStart => exact ⟨rfl, rfl⟩
  case round =>
    obtain ⟨rfl, rfl⟩ := hrel
    go_wp2_with (first
      | (at_builtin; refine wpList_append_own _ rfl _ _ 34 rfl w.heap.size 9 i0 (.string ⟨#[]⟩) 1 16 Tryz.underlying34 hi hz0 hz1 hz2 rfl (by decide) _ _ _ rfl (n1.alloc _) ⟨w.heap.size, 0, none⟩ 1 1 [.string (ba x)] rfl rfl (cell_one_new _ _ _) (by simp [Value.oneCell']) (by unfold maxLen; omega) (by omega) (by simp) ?_; intro v2 w2 hown2 hgrow2 _; have b2 := lay_b2 (Below.refl _ w) n1 hgrow2; clear n1 hgrow2)
      | (at_builtin; refine wpList_append_own_none rfl _ _ 34 rfl w.heap.size 9 i0 1 Tryz.underlying34 hi _ _ _ rfl hown2 rfl ?_)
      | go_in)
    go_ret
    exact ⟨_, _, rfl, HL.out, hown2, b2⟩
end Go.Proofs.YtmeplgihnlpjcaaGreatDoor
/- Laying lines in, one by one, is sorting. -/
namespace Go.Proofs.YtmeplgihnlpjcaaGreatDoor
open Go.RowKit Go.Shelf Go.Lib

theorem gtB_le {x y : List UInt8} (h : Af.gtB y x = true) : x ≤ y := by
  unfold Af.gtB at h
  simp only [Bool.and_eq_true, Bool.not_eq_true'] at h
  have h1 := h.1
  rw [Tf.less_before] at h1
  refine List.not_lt.1 fun e => ?_
  rw [(Tf.before_lt y x).2 e] at h1
  cases h1
theorem gtB_ge {x y : List UInt8} (h : Af.gtB y x = false) : y ≤ x := by
  unfold Af.gtB at h
  simp only [Bool.and_eq_false_iff, Bool.not_eq_false'] at h
  rcases h with h | h
  · rw [Tf.less_before] at h
    exact List.le_of_lt ((Tf.before_lt y x).1 h)
  · rw [beq_iff_eq.1 h]
    exact List.le_refl _

theorem laid_sorted {l r : List (List UInt8)} {x : List UInt8} (hl : l.Pairwise (fun x y => x ≤ y)) (h : Af.Laid l x r) : r.Pairwise (fun x y => x ≤ y) ∧ r.Perm (l ++ [x]) := by
  obtain ⟨k, hk, rfl, hhi, hlo⟩ := h
  have hd : ∀ b ∈ l.drop k, x ≤ b := by
    intro b hb
    obtain ⟨j, hj, rfl⟩ := List.getElem_of_mem hb
    rw [List.getElem_drop]
    exact gtB_le (hhi (k + j) (by simp at hj; omega) (by omega))
  have ht : ∀ a ∈ l.take k, a ≤ x := by
    intro a ha
    obtain ⟨j, hj, rfl⟩ := List.getElem_of_mem ha
    rw [List.getElem_take]
    have hj' : j < k := by simp at hj; omega
    have h1 := gtB_ge (hlo (by omega) (by omega))
    by_cases e : j = k - 1
    · subst e; exact h1
    · exact List.le_trans (List.pairwise_iff_getElem.1 hl j (k - 1) (by omega) (by omega) (by omega)) h1
  constructor
  · rw [List.pairwise_append, List.pairwise_cons]
    refine ⟨hl.sublist (List.take_sublist k l), ⟨hd, hl.sublist (List.drop_sublist k l)⟩, ?_⟩
    intro a ha b hb
    rcases List.mem_cons.1 hb with rfl | hb
    · exact ht a ha
    · exact List.le_trans (ht a ha) (hd b hb)
  · have : (l.take k ++ x :: l.drop k).Perm (x :: (l.take k ++ l.drop k)) := List.perm_middle
    rw [List.take_append_drop] at this
    exact this.trans (List.perm_append_comm (l₁ := [x]) (l₂ := l))

theorem laid_srt {ms r : List (List UInt8)} {x : List UInt8} (h : Af.Laid (Af.srt ms) x r) : r = Af.srt (ms ++ [x]) := by
  obtain ⟨h1, h2⟩ := laid_sorted (Af.srt_sorted ms) h
  rw [← Af.srt_of_sorted h1]
  exact Af.srt_eq (h2.trans ((Af.srt_perm ms).append_right [x]))
theorem srt_nil : Af.srt [] = [] := by
  have := Af.srt_len []
  simpa using this
end Go.Proofs.YtmeplgihnlpjcaaGreatDoor
/- The document's answer's LeavesOf: the walk. -/
namespace Go.Proofs.YtmeplgihnlpjcaaGreatDoor
open Go.RowKit Go.Shelf Go.Lib

namespace Ru
/-- An input that no rule makes. -/
def Leaf (l : List Ru) (x : List UInt8) : Prop := (∃ y ∈ l, x ∈ y.ins) ∧ ∀ z ∈ l, z.out ≠ x
/-- All leaves, rising, each once. -/
structure Leaves (l : List Ru) (r : List (List UInt8)) : Prop where
  rises : r.Pairwise (fun x y => x ≤ y)
  once : r.Nodup
  mem : ∀ x, x ∈ r ↔ Leaf l x
theorem Leaves.unique {l : List Ru} {r r' : List (List UInt8)} (h : Leaves l r) (h' : Leaves l r') : r = r' := by
  have hp : r.Perm r' := (List.perm_ext_iff_of_nodup h.once h'.once).2 fun x => (h.mem x).trans (h'.mem x).symm
  refine List.Perm.eq_of_pairwise (le := fun x y : List UInt8 => x ≤ y) ?_ h.rises h'.rises hp
  intro a b _ _ h1 h2
  exact List.le_antisymm h1 h2
end Ru

theorem TRow.irow {w : World} {v : Value} {l : List (List UInt8)} (h : TRow w v l) : IRow w v l := by
  obtain ⟨p, cap, e, _, h1⟩ := h
  refine ⟨p, cap, e, fun hl => ?_⟩
  obtain ⟨g, cur, e, hg, hc⟩ := h1 hl
  exact ⟨g, 0, e, (Array.getElem?_eq_some_iff.1 hg).1, fun j hj => by rw [Nat.zero_add]; exact cell_of_row hg (hc j hj)⟩

/-- lay at whatever list. -/
theorem lay_any {w : World} (v : Value) (l : List (List UInt8)) (x : List UInt8) (hl : l.length ≤ 100000) (hrow : TRow w v l) (hv : l = [] → v = .slice none 0 0) :
    Calls Tryz.prog 40 #[v, .string (ba x)] w fun e w' => ∃ v r, e = .returned v ∧ Af.Laid l x r ∧ w'.ownsRow w.heap.size 9 1 v r.length (r.map sv) ∧ Below w.heap.size w w' := by
  by_cases he : l = []
  · subst he
    rw [hv rfl]
    exact lay_calls0 x w
  · obtain ⟨p, cap, rfl, h0, h1⟩ := hrow
    obtain ⟨g, cur, rfl, hg, hc⟩ := h1 he
    exact lay_calls g cap l x hl he w ⟨_, cap, rfl, h0, fun _ => ⟨g, cur, rfl, hg, hc⟩⟩

theorem laid_ne {l r : List (List UInt8)} {x : List UInt8} (h : Af.Laid l x r) : r ≠ [] ∧ r.length = l.length + 1 := by
  obtain ⟨k, hk, rfl, _⟩ := h
  constructor
  · simp
  · simp; omega

/-- What LeavesOf has, i rules and k inputs on. -/
structure LeafSt (l : List Ru) (i k : Nat) (r : List (List UInt8)) : Prop where
  rises : r.Pairwise (fun x y => x ≤ y)
  once : r.Nodup
  mem : ∀ x, x ∈ r ↔ ((∃ y ∈ l.take i, x ∈ y.ins) ∨ ∃ y, l[i]? = some y ∧ x ∈ y.ins.take k) ∧ ∀ z ∈ l, z.out ≠ x
  few : r.length ≤ i * 12 + k
theorem LeafSt.first (l : List Ru) : LeafSt l 0 0 [] := ⟨List.Pairwise.nil, List.nodup_nil, fun x => by simp, by simp⟩
theorem LeafSt.nextRule {l : List Ru} {i : Nat} {r : List (List UInt8)} (hi : i < l.length) (h12 : l[i].ins.length ≤ 12) (h : LeafSt l i l[i].ins.length r) : LeafSt l (i + 1) 0 r := by
  refine ⟨h.rises, h.once, fun x => ?_, by have := h.few; omega⟩
  rw [h.mem, List.getElem?_eq_getElem hi, List.take_succ_eq_append_getElem hi]
  simp only [Option.some.injEq, List.mem_append, List.mem_singleton, List.take_zero, List.not_mem_nil, and_false, exists_false, or_false]
  constructor
  · rintro ⟨h1, h2⟩
    refine ⟨?_, h2⟩
    rcases h1 with ⟨y, hy, hx⟩ | ⟨y, rfl, hx⟩
    · exact ⟨y, .inl hy, hx⟩
    · exact ⟨_, .inr rfl, List.mem_of_mem_take hx⟩
  · rintro ⟨⟨y, hy, hx⟩, h2⟩
    refine ⟨?_, h2⟩
    rcases hy with hy | rfl
    · exact .inl ⟨y, hy, hx⟩
    · exact .inr ⟨_, rfl, by rwa [List.take_length]⟩
theorem LeafSt.same {l : List Ru} {i k : Nat} {r : List (List UInt8)} (hi : i < l.length) (hk : k < l[i].ins.length) (h : LeafSt l i k r) (hs : l[i].ins[k] ∈ r ∨ ∃ z ∈ l, z.out = l[i].ins[k]) : LeafSt l i (k + 1) r := by
  refine ⟨h.rises, h.once, fun x => ?_, by have := h.few; omega⟩
  rw [h.mem, List.getElem?_eq_getElem hi]
  simp only [Option.some.injEq]
  constructor
  · rintro ⟨h1, h2⟩
    refine ⟨?_, h2⟩
    rcases h1 with h1 | ⟨y, rfl, hx⟩
    · exact .inl h1
    · exact .inr ⟨_, rfl, (List.take_sublist_take_left (Nat.le_succ k)).subset hx⟩
  · rintro ⟨h1, h2⟩
    rcases h1 with h1 | ⟨y, rfl, hx⟩
    · exact ⟨.inl h1, h2⟩
    · rw [List.take_succ_eq_append_getElem hk, List.mem_append, List.mem_singleton] at hx
      rcases hx with hx | rfl
      · exact ⟨.inr ⟨_, rfl, hx⟩, h2⟩
      · rcases hs with hs | ⟨z, hz, e⟩
        · have := (h.mem _).1 hs
          rw [List.getElem?_eq_getElem hi] at this
          simpa only [Option.some.injEq] using this
        · exact absurd e (h2 z hz)
theorem LeafSt.laid {l : List Ru} {i k : Nat} {r r' : List (List UInt8)} (hi : i < l.length) (hk : k < l[i].ins.length) (h : LeafSt l i k r) (hn : l[i].ins[k] ∉ r) (hm : ∀ z ∈ l, z.out ≠ l[i].ins[k]) (hL : Af.Laid r l[i].ins[k] r') : LeafSt l i (k + 1) r' := by
  obtain ⟨h1, h2⟩ := laid_sorted h.rises hL
  refine ⟨h1, ?_, fun x => ?_, by rw [(laid_ne hL).2]; have := h.few; omega⟩
  · rw [h2.nodup_iff, List.nodup_append]
    exact ⟨h.once, by simp, fun a ha b hb => by
      rw [List.mem_singleton.1 hb]
      rintro rfl
      exact hn ha⟩
  · rw [h2.mem_iff, List.mem_append, List.mem_singleton, h.mem, List.getElem?_eq_getElem hi]
    simp only [Option.some.injEq]
    constructor
    · rintro (⟨h1, h2⟩ | rfl)
      · refine ⟨?_, h2⟩
        rcases h1 with h1 | ⟨y, rfl, hx⟩
        · exact .inl h1
        · exact .inr ⟨_, rfl, (List.take_sublist_take_left (Nat.le_succ k)).subset hx⟩
      · exact ⟨.inr ⟨_, rfl, by rw [List.take_succ_eq_append_getElem hk]; exact List.mem_append_right _ (List.mem_singleton.2 rfl)⟩, hm⟩
    · rintro ⟨h1, h2⟩
      rcases h1 with h1 | ⟨y, rfl, hx⟩
      · exact .inl ⟨.inl h1, h2⟩
      · rw [List.take_succ_eq_append_getElem hk, List.mem_append, List.mem_singleton] at hx
        rcases hx with hx | rfl
        · exact .inl ⟨.inr ⟨_, rfl, hx⟩, h2⟩
        · exact .inr rfl
theorem LeafSt.done {l : List Ru} {r : List (List UInt8)} (h : LeafSt l l.length 0 r) : Ru.Leaves l r :=
  ⟨h.rises, h.once, fun x => by
    rw [h.mem, List.take_length]
    unfold Ru.Leaf
    simp⟩

set_option maxRecDepth 100000 in
set_option maxHeartbeats 16000000 in
theorem LeavesOf_calls {w : World} (v : Value) (l : List Ru) (hrow : RRow w v l) (hn : l.length ≤ 1000) (hl : ∀ x ∈ l, x.ins.length ≤ 12) :
    Calls Tryz.prog 24 #[v] w fun e w' => ∃ u r, e = .returned u ∧ TRow w' u r ∧ Ru.Leaves l r ∧ Below w.heap.size w w' := by
  obtain ⟨p, cap, rfl, hcap, hnn, hin⟩ := hrow
  have HI := hid1 hin
  have HL := hid1 hl
  clear hin hnn hl
  have zn : (l.length : Int) ≤ 1000 := by omega
  have HF := hid1 (LeafSt.first l)
  go_enter Tryz.func24, Tryz.ntmps24
  go_wp2
  go_loopw [3, 4] (fun ov iv wr => ∃ (i : Nat) (r : List (List UInt8)), i ≤ l.length ∧ iv = .int .i64 i ∧ TRow wr ov r ∧ (r = [] → ov = .slice none 0 0) ∧ LeafSt l i 0 r ∧ Below w.heap.size w wr) (fun _ iv _ => l.length - (intOf iv).toNat)
  case atStart => exact ⟨0, [], Nat.zero_le _, rfl, ⟨none, 0, rfl, Nat.le_refl _, fun h => absurd rfl h⟩, fun _ => rfl, HF.out, Below.refl _ _⟩
  case round =>
    obtain ⟨i, r, hil, rfl, hT, hv, hS, B⟩ := hrel
    have HT := hid1 hT
    have HV := hid1 hv
    have HS := hid1 hS
    clear hT hv hS HF
    have c0 : (0 : Int) ≤ (i : Int) := by omega
    by_cases hlt : i < l.length
    · have c1 : (i : Int) < (l.length : Int) := by omega
      obtain ⟨g', o, rfl, hg, hcur⟩ := HI.out (by intro e; rw [e] at hlt; simp at hlt)
      obtain ⟨-, -, -, u, a3, ax⟩ := hcur i hlt
      have h12 := HL.out _ (List.getElem_mem hlt)
      have z12 : (l[i].ins.length : Int) ≤ 12 := by omega
      have HG := hid1 hcur
      obtain ⟨p3, cap3, rfl, -, -, hin3⟩ := ax
      have HI3 := hid1 hin3
      clear hcur hin3 HI
      generalize wr = w2 at *
      go_wp2
      go_loopw [3, 5] (fun ov kv wx => ∃ (k : Nat) (r : List (List UInt8)), k ≤ l[i].ins.length ∧ kv = .int .i64 k ∧ TRow wx ov r ∧ (r = [] → ov = .slice none 0 0) ∧ LeafSt l i k r ∧ Below w.heap.size w wx) (fun _ kv _ => l[i].ins.length - (intOf kv).toNat)
      case atStart => exact ⟨0, r, Nat.zero_le _, rfl, HT.out, HV.out, HS.out, B⟩
      case round =>
        clear HT HV HS B r
        obtain ⟨k, r, hkl, rfl, hT, hv, hS, B⟩ := hrel
        have HT := hid1 hT
        have HV := hid1 hv
        have HS := hid1 hS
        clear hT hv hS
        have k0 : (0 : Int) ≤ (k : Int) := by omega
        have d3 := cell_below' a3 B
        by_cases hklt : k < l[i].ins.length
        · have k1 : (k : Int) < (l[i].ins.length : Int) := by omega
          obtain ⟨g3, o3, rfl, hg3, hc3⟩ := HI3.out (by intro e; rw [e] at hklt; simp at hklt)
          have e3 := (B.cell (p := ⟨g3, o3 + k, none⟩) hg3).trans (hc3 k hklt)
          have HSame := hid1 (HS.out.same hlt hklt)
          have HLaid := hid1 fun r' => HS.out.laid (r' := r') hlt hklt
          have hfew := HS.out.few
          have hrl : r.length ≤ 100000 := by
            have : i * 12 ≤ 1000 * 12 := Nat.mul_le_mul (by omega) (Nat.le_refl _)
            omega
          generalize wr = w3 at *
          have HX := hid1 fun (s : List UInt8) => rIndex_calls u3 r s HT.out.irow (by omega)
          have HY := hid1 fun (s : List UInt8) => lay_any u3 r s hrl HT.out HV.out
          generalize hs : l[i].ins[k] = s at *
          clear hs hc3 HI3 hfew
          go_wp2
          go_loopw [7, 8] (fun mv jv wx => ∃ j : Nat, j ≤ l.length ∧ jv = .int .i64 j ∧ mv = .bool ((l.take j).any fun x => x.out == s) ∧ w3 = wx) (fun _ jv _ => l.length - (intOf jv).toNat)
          case atStart => exact ⟨0, Nat.zero_le _, rfl, by simp, rfl⟩
          case round =>
            obtain ⟨j, hjl, rfl, rfl, rfl⟩ := hrel
            have j0 : (0 : Int) ≤ (j : Int) := by omega
            by_cases hjlt : j < l.length
            · have j1 : (j : Int) < (l.length : Int) := by omega
              have d0 := cell_below' (HG.out j hjlt).1 B
              have HA : Hid (((l.take (j + 1)).any fun x => x.out == s) = (((l.take j).any fun x => x.out == s) || (l[j].out == s))) := hid1 (by rw [List.take_succ_eq_append_getElem hjlt, List.any_append]; simp)
              generalize l[j] = x at *
              cases hb : x.out == s with
              | true =>
                rw [hb] at HA
                simp only [Bool.or_true] at HA
                go_wp2
                exact ⟨⟨j + 1, by omega, by go_num, by rw [HA.out], by first | rfl | trivial⟩, by simp [intOf]; omega⟩
              | false =>
                rw [hb] at HA
                simp only [Bool.or_false] at HA
                go_wp2
                exact ⟨⟨j + 1, by omega, by go_num, by rw [HA.out], by first | rfl | trivial⟩, by simp [intOf]; omega⟩
            · have j1 : (l.length : Int) ≤ (j : Int) := by omega
              have hany : (l.take j).any (fun x => x.out == s) = l.any (fun x => x.out == s) := by rw [List.take_of_length_le (by omega)]
              rw [hany]
              clear hany
              cases hf : l.any (fun x => x.out == s) with
              | true =>
                have HQ := hid1 (HSame.out (.inr (by
                  obtain ⟨x, hx, e⟩ := List.any_eq_true.1 hf
                  exact ⟨x, hx, by simpa using e⟩)))
                clear HSame HLaid hf HX HY
                go_wp2
                exact ⟨⟨k + 1, r, by omega, by go_num, HT.out, HV.out, HQ.out, B⟩, by simp [intOf]; omega⟩
              | false =>
                have HNo : Hid (∀ z ∈ l, z.out ≠ s) := hid1 fun z hz e => by
                  rw [List.any_eq_false] at hf
                  exact hf z hz (by simpa using e)
                clear hf
                go_wp2_with fail
                refine (HX.out s).mono ?_
                rintro e w4 ⟨ix, rfl, rfl, hix⟩
                rcases hix with ⟨rfl, hni⟩ | ⟨m, rfl, hm, he, _⟩
                · have HQ := hid1 fun r' => HLaid.out r' hni HNo.out
                  clear HSame HLaid HX hni
                  go_wp2_with fail
                  refine (HY.out s).mono ?_
                  rintro e w5 ⟨v5, r5, rfl, hL5, hO5, hB5⟩
                  have T5 := TRow.of_owns hO5
                  have N5 := (laid_ne hL5).1
                  have S5 := hid1 (HQ.out r5 hL5)
                  have B5 := below_then B hB5
                  clear hL5 hO5 HQ HY
                  go_wp2
                  exact ⟨⟨k + 1, r5, by omega, by go_num, T5, fun e => absurd e N5, S5.out, B5⟩, by simp [intOf]; omega⟩
                · have HQ := hid1 (HSame.out (.inl (by rw [← he]; exact List.getElem_mem hm)))
                  have m0 : (0 : Int) ≤ (m : Int) := by omega
                  clear HSame HLaid HX HY he
                  go_wp2
                  exact ⟨⟨k + 1, r, by omega, by go_num, HT.out, HV.out, HQ.out, B⟩, by simp [intOf]; omega⟩
        · have k1 : (l[i].ins.length : Int) ≤ (k : Int) := by omega
          obtain rfl : k = l[i].ins.length := by omega
          have HQ := hid1 (HS.out.nextRule hlt h12)
          clear HS
          go_wp2
          exact ⟨⟨i + 1, r, by omega, by go_num, HT.out, HV.out, HQ.out, B⟩, by simp [intOf]; omega⟩
    · have c1 : (l.length : Int) ≤ (i : Int) := by omega
      obtain rfl : i = l.length := by omega
      have HQ := hid1 HS.out.done
      clear HS HI
      go_wp2
      go_ret
      exact ⟨_, r, rfl, HT.out, HQ.out, B⟩
end Go.Proofs.YtmeplgihnlpjcaaGreatDoor
/- What package graph's functions are to tell. -/
namespace Go.Proofs.YtmeplgihnlpjcaaGreatDoor
open Go.RowKit Go.Shelf Go.Lib

def NoRow (v : Value) : Prop := ∃ p cap, v = .slice p 0 cap
abbrev allB1 : Nat → Bool := fun _ => true

def OrderTells (es : Nat → Addr) (l : List Ru) (w : World) (u ev : Value) : Prop :=
  ((Ru.fault l).1 ≠ 0 ∧ ErrV w es ev (Ru.fault l) ∧ NoRow u) ∨
  ((Ru.fault l).1 = 0 ∧ Ru.order l allB1 = none ∧ ev = erOf es 9 ∧ NoRow u) ∨
  ((Ru.fault l).1 = 0 ∧ ∃ o, Ru.order l allB1 = some o ∧ ev = .nilIface ∧ NIRow w u o)
def CycleTells (es : Nat → Addr) (l : List Ru) (w : World) (u ev : Value) : Prop :=
  ((Ru.fault l).1 ≠ 0 ∧ ErrV w es ev (Ru.fault l) ∧ NoRow u) ∨
  ((Ru.fault l).1 = 0 ∧ ev = .nilIface ∧ ∃ c, Ru.IsCycle l c ∧ NIRow w u c)
def NeedsTells (es : Nat → Addr) (l : List Ru) (outs : List (List UInt8)) (w : World) (u ev : Value) : Prop :=
  ((Ru.fault l).1 ≠ 0 ∧ ErrV w es ev (Ru.fault l) ∧ NoRow u) ∨
  ((Ru.fault l).1 = 0 ∧ ∃ k, ∃ hk : k < outs.length, (∀ x ∈ l, x.out ≠ outs[k]) ∧ (∀ j (hj : j < outs.length), j < k → ∃ x ∈ l, x.out = outs[j]) ∧ ErrV w es ev (6, (k : Int)) ∧ NoRow u) ∨
  ((Ru.fault l).1 = 0 ∧ (∀ j (hj : j < outs.length), ∃ x ∈ l, x.out = outs[j]) ∧ ev = .nilIface ∧ ∃ f, Ru.Needed l outs f ∧ NIRow w u ((List.range l.length).filter f))
def LeavesTells (es : Nat → Addr) (l : List Ru) (w : World) (u ev : Value) : Prop :=
  ((Ru.fault l).1 ≠ 0 ∧ ErrV w es ev (Ru.fault l) ∧ NoRow u) ∨
  ((Ru.fault l).1 = 0 ∧ ev = .nilIface ∧ ∃ r, Ru.Leaves l r ∧ IRow w u r)

/-- What package graph reads of the errors' variables. -/
structure GraphW (w : World) (es : Nat → Addr) : Prop where
  s : SheetW w es
  cyc : w.cell? ⟨1, 0, none⟩ = some (erOf es 9)
theorem GraphW.below {w w' : World} {es : Nat → Addr} (h : GraphW w es) (hb : Below w.heap.size w w') : GraphW w' es := ⟨h.s.below hb, cell_below' h.cyc hb⟩

/-- What package graph's functions tell, wherever they are called. -/
structure Graphs (es : Nat → Addr) : Prop where
  order : ∀ (W : World) v l, GraphW W es → RRow W v l → l.length ≤ 1000 → (∀ x ∈ l, x.Small) → Calls Tryz.prog 10 #[v] W fun e w' => ∃ u ev, e = .returned (.tuple #[u, ev]) ∧ Below W.heap.size W w' ∧ OrderTells es l w' u ev
  cycle : ∀ (W : World) v l, SheetW W es → RRow W v l → l.length ≤ 1000 → (∀ x ∈ l, x.Small) → Calls Tryz.prog 8 #[v] W fun e w' => ∃ u ev, e = .returned (.tuple #[u, ev]) ∧ Below W.heap.size W w' ∧ CycleTells es l w' u ev
  needs : ∀ (W : World) v l vo outs, SheetW W es → W.cell? ⟨0, 0, none⟩ = some (erOf es 6) → RRow W v l → l.length ≤ 1000 → (∀ x ∈ l, x.Small) → XRow W vo outs → outs.length ≤ 1000 → (∀ x ∈ outs, x.length ≤ 1000) → Calls Tryz.prog 13 #[v, vo] W fun e w' => ∃ u ev, e = .returned (.tuple #[u, ev]) ∧ Below W.heap.size W w' ∧ NeedsTells es l outs w' u ev
  leaves : ∀ (W : World) v l, SheetW W es → RRow W v l → l.length ≤ 1000 → (∀ x ∈ l, x.Small) → Calls Tryz.prog 15 #[v] W fun e w' => ∃ u ev, e = .returned (.tuple #[u, ev]) ∧ Below W.heap.size W w' ∧ LeavesTells es l w' u ev

/-- An error's value, by its number. -/
theorem ErrV.some {w : World} {es : Nat → Addr} {v : Value} {f : Nat × Int} (h : ErrV w es v f) (hf : f.1 ≠ 0) : ∃ t u, v = .iface t u := by
  rcases h with ⟨_, rfl, _⟩ | ⟨pb, m, rfl, _⟩
  · obtain ⟨c, n⟩ := f
    cases c with
    | zero => exact absurd rfl hf
    | succ k => exact ⟨_, _, rfl⟩
  · exact ⟨_, _, rfl⟩

set_option maxRecDepth 100000 in
set_option maxHeartbeats 4000000 in
/-- SameInts at two lists of the same numbers. -/
theorem SameInts_ni {w : World} (a b : Value) (l : List Nat) (ha : NIRow w a l) (hb : NIRow w b l) (hl : l.length ≤ 1000) :
    Calls Tryz.prog 20 #[a, b] w fun e w' => e = .returned (.bool true) ∧ ∃ q, w' = w.drewN q := by
  obtain ⟨pa, ca, rfl, ha⟩ := ha
  obtain ⟨pb, cb, rfl, hb⟩ := hb
  have HA := hid1 ha
  have HB := hid1 hb
  clear ha hb
  have zl : (l.length : Int) ≤ 1000 := by omega
  go_enter Tryz.func20, Tryz.ntmps20
  go_wp2
  go_loopw [5] (fun i wr => ∃ k : Nat, k ≤ l.length ∧ i = .int .i64 k ∧ ∃ q, wr = w.drewN q) (fun i _ => l.length - (intOf i).toNat)
  case atStart => exact ⟨0, Nat.zero_le _, rfl, 0, rfl⟩
  case round =>
    obtain ⟨k, hk, rfl, q, rfl⟩ := hrel
    have c0 : (0 : Int) ≤ (k : Int) := by omega
    by_cases hlt : k < l.length
    · have c1 : (k : Int) < (l.length : Int) := by omega
      obtain ⟨ga, oa, rfl, _, h1⟩ := HA.out (by intro e; rw [e] at hlt; simp at hlt)
      obtain ⟨gb, ob, rfl, _, h2⟩ := HB.out (by intro e; rw [e] at hlt; simp at hlt)
      have d1 := h1 k hlt
      have d2 := h2 k hlt
      clear h1 h2 HA HB
      generalize l[k] = y at *
      go_wp2
      go_region
      go_wp2
      exact ⟨⟨k + 1, by omega, by go_num, q + 1, rfl⟩, by simp [intOf]; omega⟩
    · have c1 : (l.length : Int) ≤ (k : Int) := by omega
      clear HA HB
      go_wp2
      go_ret
      exact ⟨rfl, q, rfl⟩
end Go.Proofs.YtmeplgihnlpjcaaGreatDoor
