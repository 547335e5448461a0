import Derived.Test.YtmhipgompplkdaaGreatDoorWT07
import Derived.Laws.AppendOwnNone
import Derived.Test.YtmhipgompplkdaaGreatDoorWT10
import Derived.Test.YtmhipgompplkdaaGreatDoorWT08
import Derived.Test.YtmhipgompplkdaaGreatDoorWT18
import Derived.Test.YtmhipgompplkdaaGreatDoorWT17
namespace Go.Proofs.YtmhipgompplkdaaGreatDoor
open Go.RowKit Go.Shelf Go.Lib
def Af.gtB (y x : List UInt8) : Bool := !Op.bytesLess y x && !(y == x)
def Af.Laid (l : List (List UInt8)) (x : List UInt8) (r : List (List UInt8)) : Prop :=
  ∃ k, k ≤ l.length ∧ r = l.take k ++ x :: l.drop k ∧ (∀ j (hj : j < l.length), k ≤ j → Af.gtB l[j] x = true) ∧ (∀ hk : k - 1 < l.length, 0 < k → Af.gtB l[k - 1] x = false)
theorem lay_b2 {w w1 w2 : World} {v : Value} {n : Nat} {xs : List Value} {tmp : Obj} (b1 : Below w.heap.size w w1) (h : w1.ownsRow w.heap.size 9 1 v n xs) (hg : (w1.alloc tmp).grownBy w2 v.ownBlock) : Below w.heap.size w w2 := below_appended b1 b1.size h hg
theorem lay_b3 {w w2 w3 : World} {v : Value} {n : Nat} {xs : List Value} (b2 : Below w.heap.size w w2) (h : w2.ownsRow w.heap.size 9 1 v n xs) (hg : w2.grownBy w3 v.ownBlock) : Below w.heap.size w w3 := below_more b2 b2.size h hg
theorem lay_src {w w2 : World} {g k : Nat} {l : List (List UInt8)} (hR : Hid (∀ W, Below w.heap.size w W → ∀ k (hk : k < l.length), W.cell? ⟨g, k, none⟩ = some (.string (ba l[k])))) (b2 : Below w.heap.size w w2) :
    ∀ j u, ((l.drop k).map sv)[j]? = some u → w2.cell? ((⟨g, k, none⟩ : Addr).add j) = some u := fun j u hj => by
  have hjl : j < (l.drop k).length := by simpa using (List.getElem?_eq_some_iff.1 hj).1
  have hjl' : k + j < l.length := by simp at hjl; omega
  rw [List.getElem?_map, List.getElem?_eq_getElem hjl] at hj
  simp only [Option.map_some, Option.some.injEq, List.getElem_drop] at hj
  rw [← hj, add_at2]
  exact hR.out w2 b2 (k + j) hjl'
theorem lay_src0 {w2 : World} {k : Nat} {l : List (List UInt8)} (h : l.length ≤ k) (ad : Addr) : ∀ j u, ((l.drop k).map sv)[j]? = some u → w2.cell? (ad.add j) = some u := fun j u hj => by
  rw [List.drop_of_length_le h] at hj
  simp at hj
theorem lay_row {w : World} {B k : Nat} {l : List (List UInt8)} {x : List UInt8} {v : Value} (hk : k ≤ l.length) (h : w.ownsRow B 9 1 v (0 + k + 1 + (l.length - k)) ([] ++ (l.take k).map sv ++ [.string (ba x)] ++ (l.drop k).map sv)) :
    w.ownsRow B 9 1 v (l.take k ++ x :: l.drop k).length ((l.take k ++ x :: l.drop k).map sv) := by
  have e1 : (l.take k ++ x :: l.drop k).length = 0 + k + 1 + (l.length - k) := by simp; omega
  have e2 : (l.take k ++ x :: l.drop k).map sv = [] ++ (l.take k).map sv ++ [.string (ba x)] ++ (l.drop k).map sv := by
    rw [List.map_append, List.map_cons, List.nil_append, List.append_assoc]
    rfl
  rw [e1, e2]
  exact h
theorem lay_row0 {w : World} {B k : Nat} {l : List (List UInt8)} {x : List UInt8} {v : Value} (hk : k ≤ l.length) (hlk : l.length = k) (h : w.ownsRow B 9 1 v (0 + k + 1 + 0) ([] ++ (l.take k).map sv ++ [.string (ba x)] ++ (l.drop k).map sv)) :
    w.ownsRow B 9 1 v (l.take k ++ x :: l.drop k).length ((l.take k ++ x :: l.drop k).map sv) :=
  lay_row hk (by rw [show 0 + k + 1 + (l.length - k) = 0 + k + 1 + 0 by omega]; exact h)
set_option maxRecDepth 100000 in
set_option maxHeartbeats 4000000 in
theorem lay_calls (g cap : Nat) (l : List (List UInt8)) (x : List UInt8) (hl : l.length ≤ 100000) (hne : l ≠ []) (w : World) (hrow : TRow w (.slice (some ⟨g, 0, none⟩) l.length cap) l) :
    Calls Tryz.prog 112 #[.slice (some ⟨g, 0, none⟩) l.length cap, .string (ba x)] w fun e w' => ∃ v r, e = .returned v ∧ Af.Laid l x r ∧ w'.ownsRow w.heap.size 9 1 v r.length (r.map sv) ∧ Below w.heap.size w w' := by
  obtain ⟨i0, hi, hz0, hz1, hz2⟩ := info_parts Tryz.infoStr
  obtain ⟨p, c, e, hcap, hin⟩ := hrow
  obtain ⟨g', cur, rfl, hg, hcur⟩ := hin hne
  obtain ⟨rfl, rfl⟩ : g = g' ∧ cap = c := by simpa using e
  have hR : Hid (∀ W, Below w.heap.size w W → ∀ k (hk : k < l.length), W.cell? ⟨g, k, none⟩ = some (.string (ba l[k]))) := fun W hW k hk => cell_of_row ((hW.block g (Array.getElem?_eq_some_iff.1 hg).1).trans hg) (hcur k hk)
  have zl : (l.length : Int) ≤ 100000 := by omega
  have zc : l.length ≤ cap := hcap
  clear hin e hcur
  go_enter Tryz.func112, Tryz.ntmps112
  go_wp2
  go_loopw [5] (fun i wr => ∃ k : Nat, k ≤ l.length ∧ i = .int .i64 k ∧ (∀ j (hj : j < l.length), k ≤ j → Af.gtB l[j] x = true) ∧ w = wr) (fun i _ => (intOf i).toNat)
  case atStart => exact ⟨l.length, Nat.le_refl _, rfl, fun j hj h => by omega, rfl⟩
  case round =>
    obtain ⟨k, hk, rfl, hgt, rfl⟩ := hrel
    have HG := hid1 hgt
    clear hgt
    by_cases h0 : 0 < k
    · have d0 : (0 : Int) < (k : Int) := by omega
      have hk1 : k - 1 < l.length := by omega
      have hcell := hR.out w (Below.refl _ w) (k - 1) hk1
      have e1 : ((k - 1 : Nat) : Int) = (k : Int) - 1 := by omega
      have e2 : IntKind.i64.wrap ((k : Int) - 1) = (k : Int) - 1 := by rw [IntKind.wrap_i64]; omega
      have e3 : ((k : Int) - 1).toNat = k - 1 := by omega
      have e4 : (k : Int) - 1 < (l.length : Int) := by omega
      have e5 : (0 : Int) ≤ (k : Int) - 1 := by omega
      have HB : Hid (Af.gtB l[k - 1] x = (!Op.bytesLess l[k - 1] x && !(l[k - 1] == x))) := rfl
      have HS : Hid (Af.gtB l[k - 1] x = true → ∀ j (hj : j < l.length), k - 1 ≤ j → Af.gtB l[j] x = true) := fun hb j hj h => by
        by_cases e : j = k - 1
        · subst e
          exact hb
        · exact HG.out j hj (by omega)
      have HLast : Hid (Af.gtB l[k - 1] x = false → ∀ hh : k - 1 < l.length, 0 < k → Af.gtB l[k - 1] x = false) := fun h _ _ => h
      generalize hg : Af.gtB l[k - 1] x = gb at *
      generalize l[k - 1] = y at *
      cases q1 : Op.bytesLess y x with
      | true =>
        have hg0 : gb = false := by rw [HB.out, q1]; rfl
        have HLast := hid1 (HLast.out hg0)
        clear HB HS hg
        have hsrc1 : ∀ j u, ((l.take k).map sv)[j]? = some u → w.cell? ((⟨g, 0, none⟩ : Addr).add j) = some u := fun j u hj => by
          have hjl : j < (l.take k).length := by simpa using (List.getElem?_eq_some_iff.1 hj).1
          have hjl' : j < l.length := by simp at hjl; omega
          rw [List.getElem?_map, List.getElem?_eq_getElem hjl] at hj
          simp only [Option.map_some, Option.some.injEq, List.getElem_take] at hj
          rw [← hj, add_at]
          exact hR.out w (Below.refl _ w) j hjl'
        have hl1 : 1 ≤ l.length := by
          cases l with
          | nil => exact absurd rfl hne
          | cons y r => simp
        have ka : (k : Int) ≤ (cap : Int) := by omega
        have kb : k ≤ cap := by omega
        have kc : (0 : Int) ≤ (k : Int) := by omega
        have kd' : (k : Int) ≤ (l.length : Int) := by omega
        have HL := hid1 (show Af.Laid l x (l.take k ++ x :: l.drop k) from ⟨k, hk, rfl, HG.out, HLast.out⟩)
        have n1 : World.ownsRow w w.heap.size 9 1 (.slice none 0 0) 0 [] := World.ownsRow_nil _ _ _ _
        by_cases hck : cap = k
        · subst hck
          have hlk : l.length = cap := by omega
          have hlz : l.length - cap = 0 := by omega
          go_wp2_with (first
            | (at_builtin; refine wpList_append_own _ rfl _ _ 45 rfl w.heap.size 9 i0 (.string ⟨#[]⟩) 1 16 Tryz.underlying45 hi hz0 hz1 hz2 rfl (by decide) _ _ _ rfl n1 ⟨g, 0, none⟩ cap cap ((l.take cap).map sv) rfl (by simp; omega) hsrc1 one_sv (by unfold maxLen; omega) (by omega) (Nat.le_refl _) ?_; intro v1 w1 hown1 hgrow1 _; have b1 := lay_b1 n1 hgrow1; clear hsrc1 n1 hgrow1)
            | (at_builtin; refine wpList_append_own _ rfl _ _ 45 rfl w.heap.size 9 i0 (.string ⟨#[]⟩) 1 16 Tryz.underlying45 hi hz0 hz1 hz2 rfl (by decide) _ _ _ rfl (hown1.alloc _) ⟨w1.heap.size, 0, none⟩ 1 1 [.string (ba x)] rfl rfl (cell_one_new _ _ _) (by simp [Value.oneCell']) (by unfold maxLen; omega) (by omega) (by simp; have := b1.size; omega) ?_; intro v2 w2 hown2 hgrow2 _; have b2 := lay_b2 b1 hown1 hgrow2; clear hown1 hgrow2)
            | (at_builtin; (refine wpList_append_own _ rfl _ _ 45 rfl w.heap.size 9 i0 (.string ⟨#[]⟩) 1 16 Tryz.underlying45 hi hz0 hz1 hz2 rfl (by decide) _ _ _ rfl hown2 ⟨g, 0, none⟩ 0 0 ((l.drop cap).map sv) rfl (by simp; omega) (lay_src0 (k := cap) (l := l) (by omega) _) one_sv (by unfold maxLen; omega) (by omega) b2.size ?_; intro v3 w3 hown3 hgrow3 _; have b3 := lay_b3 b2 hown2 hgrow3; clear hown2 hgrow3))
            | go_in)
          go_ret
          first | exact ⟨_, rfl, _, HL.out, lay_row0 hk hlk hown3, b3⟩ | exact ⟨_, rfl, _, b3, HL.out, lay_row0 hk hlk hown3⟩ | exact ⟨_, rfl, ⟨_, HL.out, lay_row0 hk hlk hown3⟩, b3⟩
        · go_wp2_with (first
            | (at_builtin; refine wpList_append_own _ rfl _ _ 45 rfl w.heap.size 9 i0 (.string ⟨#[]⟩) 1 16 Tryz.underlying45 hi hz0 hz1 hz2 rfl (by decide) _ _ _ rfl n1 ⟨g, 0, none⟩ k cap ((l.take k).map sv) rfl (by simp; omega) hsrc1 one_sv (by unfold maxLen; omega) (by omega) (Nat.le_refl _) ?_; intro v1 w1 hown1 hgrow1 _; have b1 := lay_b1 n1 hgrow1; clear hsrc1 n1 hgrow1)
            | (at_builtin; refine wpList_append_own _ rfl _ _ 45 rfl w.heap.size 9 i0 (.string ⟨#[]⟩) 1 16 Tryz.underlying45 hi hz0 hz1 hz2 rfl (by decide) _ _ _ rfl (hown1.alloc _) ⟨w1.heap.size, 0, none⟩ 1 1 [.string (ba x)] rfl rfl (cell_one_new _ _ _) (by simp [Value.oneCell']) (by unfold maxLen; omega) (by omega) (by simp; have := b1.size; omega) ?_; intro v2 w2 hown2 hgrow2 _; have b2 := lay_b2 b1 hown1 hgrow2; clear hown1 hgrow2)
            | (at_builtin; refine wpList_append_own _ rfl _ _ 45 rfl w.heap.size 9 i0 (.string ⟨#[]⟩) 1 16 Tryz.underlying45 hi hz0 hz1 hz2 rfl (by decide) _ _ _ rfl hown2 ⟨g, k, none⟩ (l.length - k) (cap - k) ((l.drop k).map sv) rfl (by simp) (lay_src (k := k) hR b2) one_sv (by unfold maxLen; omega) (by omega) b2.size ?_; intro v3 w3 hown3 hgrow3 _; have b3 := lay_b3 b2 hown2 hgrow3; clear hown2 hgrow3)
            | go_in)
          go_ret
          exact ⟨_, _, rfl, HL.out, lay_row hk hown3, b3⟩
      | false =>
        cases q2 : (y == x) with
        | true =>
          have hg0 : gb = false := by rw [HB.out, q1, q2]; rfl
          have HLast := hid1 (HLast.out hg0)
          clear HB HS hg
          have hsrc1 : ∀ j u, ((l.take k).map sv)[j]? = some u → w.cell? ((⟨g, 0, none⟩ : Addr).add j) = some u := fun j u hj => by
            have hjl : j < (l.take k).length := by simpa using (List.getElem?_eq_some_iff.1 hj).1
            have hjl' : j < l.length := by simp at hjl; omega
            rw [List.getElem?_map, List.getElem?_eq_getElem hjl] at hj
            simp only [Option.map_some, Option.some.injEq, List.getElem_take] at hj
            rw [← hj, add_at]
            exact hR.out w (Below.refl _ w) j hjl'
          have hl1 : 1 ≤ l.length := by
            cases l with
            | nil => exact absurd rfl hne
            | cons y r => simp
          have ka : (k : Int) ≤ (cap : Int) := by omega
          have kb : k ≤ cap := by omega
          have kc : (0 : Int) ≤ (k : Int) := by omega
          have kd' : (k : Int) ≤ (l.length : Int) := by omega
          have HL := hid1 (show Af.Laid l x (l.take k ++ x :: l.drop k) from ⟨k, hk, rfl, HG.out, HLast.out⟩)
          have n1 : World.ownsRow w w.heap.size 9 1 (.slice none 0 0) 0 [] := World.ownsRow_nil _ _ _ _
          by_cases hck : cap = k
          · subst hck
            have hlk : l.length = cap := by omega
            have hlz : l.length - cap = 0 := by omega
            go_wp2_with (first
              | (at_builtin; refine wpList_append_own _ rfl _ _ 45 rfl w.heap.size 9 i0 (.string ⟨#[]⟩) 1 16 Tryz.underlying45 hi hz0 hz1 hz2 rfl (by decide) _ _ _ rfl n1 ⟨g, 0, none⟩ cap cap ((l.take cap).map sv) rfl (by simp; omega) hsrc1 one_sv (by unfold maxLen; omega) (by omega) (Nat.le_refl _) ?_; intro v1 w1 hown1 hgrow1 _; have b1 := lay_b1 n1 hgrow1; clear hsrc1 n1 hgrow1)
              | (at_builtin; refine wpList_append_own _ rfl _ _ 45 rfl w.heap.size 9 i0 (.string ⟨#[]⟩) 1 16 Tryz.underlying45 hi hz0 hz1 hz2 rfl (by decide) _ _ _ rfl (hown1.alloc _) ⟨w1.heap.size, 0, none⟩ 1 1 [.string (ba x)] rfl rfl (cell_one_new _ _ _) (by simp [Value.oneCell']) (by unfold maxLen; omega) (by omega) (by simp; have := b1.size; omega) ?_; intro v2 w2 hown2 hgrow2 _; have b2 := lay_b2 b1 hown1 hgrow2; clear hown1 hgrow2)
              | (at_builtin; (refine wpList_append_own _ rfl _ _ 45 rfl w.heap.size 9 i0 (.string ⟨#[]⟩) 1 16 Tryz.underlying45 hi hz0 hz1 hz2 rfl (by decide) _ _ _ rfl hown2 ⟨g, 0, none⟩ 0 0 ((l.drop cap).map sv) rfl (by simp; omega) (lay_src0 (k := cap) (l := l) (by omega) _) one_sv (by unfold maxLen; omega) (by omega) b2.size ?_; intro v3 w3 hown3 hgrow3 _; have b3 := lay_b3 b2 hown2 hgrow3; clear hown2 hgrow3))
              | go_in)
            go_ret
            first | exact ⟨_, rfl, _, HL.out, lay_row0 hk hlk hown3, b3⟩ | exact ⟨_, rfl, _, b3, HL.out, lay_row0 hk hlk hown3⟩ | exact ⟨_, rfl, ⟨_, HL.out, lay_row0 hk hlk hown3⟩, b3⟩
          · go_wp2_with (first
              | (at_builtin; refine wpList_append_own _ rfl _ _ 45 rfl w.heap.size 9 i0 (.string ⟨#[]⟩) 1 16 Tryz.underlying45 hi hz0 hz1 hz2 rfl (by decide) _ _ _ rfl n1 ⟨g, 0, none⟩ k cap ((l.take k).map sv) rfl (by simp; omega) hsrc1 one_sv (by unfold maxLen; omega) (by omega) (Nat.le_refl _) ?_; intro v1 w1 hown1 hgrow1 _; have b1 := lay_b1 n1 hgrow1; clear hsrc1 n1 hgrow1)
              | (at_builtin; refine wpList_append_own _ rfl _ _ 45 rfl w.heap.size 9 i0 (.string ⟨#[]⟩) 1 16 Tryz.underlying45 hi hz0 hz1 hz2 rfl (by decide) _ _ _ rfl (hown1.alloc _) ⟨w1.heap.size, 0, none⟩ 1 1 [.string (ba x)] rfl rfl (cell_one_new _ _ _) (by simp [Value.oneCell']) (by unfold maxLen; omega) (by omega) (by simp; have := b1.size; omega) ?_; intro v2 w2 hown2 hgrow2 _; have b2 := lay_b2 b1 hown1 hgrow2; clear hown1 hgrow2)
              | (at_builtin; refine wpList_append_own _ rfl _ _ 45 rfl w.heap.size 9 i0 (.string ⟨#[]⟩) 1 16 Tryz.underlying45 hi hz0 hz1 hz2 rfl (by decide) _ _ _ rfl hown2 ⟨g, k, none⟩ (l.length - k) (cap - k) ((l.drop k).map sv) rfl (by simp) (lay_src (k := k) hR b2) one_sv (by unfold maxLen; omega) (by omega) b2.size ?_; intro v3 w3 hown3 hgrow3 _; have b3 := lay_b3 b2 hown2 hgrow3; clear hown2 hgrow3)
              | go_in)
            go_ret
            exact ⟨_, _, rfl, HL.out, lay_row hk hown3, b3⟩
        | false =>
          have hg0 : gb = true := by rw [HB.out, q1, q2]; rfl
          have HS := hid1 (HS.out hg0)
          clear HB HLast hg
          go_wp2
          exact ⟨⟨k - 1, by omega, by go_num, HS.out, trivial⟩, by simp [intOf]; omega⟩
    · have d0 : (k : Int) ≤ 0 := by omega
      have hsrc1 : ∀ j u, ((l.take k).map sv)[j]? = some u → w.cell? ((⟨g, 0, none⟩ : Addr).add j) = some u := fun j u hj => by
        have hjl : j < (l.take k).length := by simpa using (List.getElem?_eq_some_iff.1 hj).1
        have hjl' : j < l.length := by simp at hjl; omega
        rw [List.getElem?_map, List.getElem?_eq_getElem hjl] at hj
        simp only [Option.map_some, Option.some.injEq, List.getElem_take] at hj
        rw [← hj, add_at]
        exact hR.out w (Below.refl _ w) j hjl'
      have hl1 : 1 ≤ l.length := by
        cases l with
        | nil => exact absurd rfl hne
        | cons y r => simp
      have ka : (k : Int) ≤ (cap : Int) := by omega
      have kb : k ≤ cap := by omega
      have kc : (0 : Int) ≤ (k : Int) := by omega
      have kd' : (k : Int) ≤ (l.length : Int) := by omega
      have HL := hid1 (show Af.Laid l x (l.take k ++ x :: l.drop k) from ⟨k, hk, rfl, HG.out, fun _ h => absurd h h0⟩)
      have n1 : World.ownsRow w w.heap.size 9 1 (.slice none 0 0) 0 [] := World.ownsRow_nil _ _ _ _
      by_cases hck : cap = k
      · exact absurd hck (by omega)
      · go_wp2_with (first
          | (at_builtin; refine wpList_append_own _ rfl _ _ 45 rfl w.heap.size 9 i0 (.string ⟨#[]⟩) 1 16 Tryz.underlying45 hi hz0 hz1 hz2 rfl (by decide) _ _ _ rfl n1 ⟨g, 0, none⟩ k cap ((l.take k).map sv) rfl (by simp; omega) hsrc1 one_sv (by unfold maxLen; omega) (by omega) (Nat.le_refl _) ?_; intro v1 w1 hown1 hgrow1 _; have b1 := lay_b1 n1 hgrow1; clear hsrc1 n1 hgrow1)
          | (at_builtin; refine wpList_append_own _ rfl _ _ 45 rfl w.heap.size 9 i0 (.string ⟨#[]⟩) 1 16 Tryz.underlying45 hi hz0 hz1 hz2 rfl (by decide) _ _ _ rfl (hown1.alloc _) ⟨w1.heap.size, 0, none⟩ 1 1 [.string (ba x)] rfl rfl (cell_one_new _ _ _) (by simp [Value.oneCell']) (by unfold maxLen; omega) (by omega) (by simp; have := b1.size; omega) ?_; intro v2 w2 hown2 hgrow2 _; have b2 := lay_b2 b1 hown1 hgrow2; clear hown1 hgrow2)
          | (at_builtin; refine wpList_append_own _ rfl _ _ 45 rfl w.heap.size 9 i0 (.string ⟨#[]⟩) 1 16 Tryz.underlying45 hi hz0 hz1 hz2 rfl (by decide) _ _ _ rfl hown2 ⟨g, k, none⟩ (l.length - k) (cap - k) ((l.drop k).map sv) rfl (by simp) (lay_src (k := k) hR b2) one_sv (by unfold maxLen; omega) (by omega) b2.size ?_; intro v3 w3 hown3 hgrow3 _; have b3 := lay_b3 b2 hown2 hgrow3; clear hown2 hgrow3)
          | go_in)
        go_ret
        exact ⟨_, _, rfl, HL.out, lay_row hk hown3, b3⟩
end Go.Proofs.YtmhipgompplkdaaGreatDoor
namespace Go.Proofs.YtmhipgompplkdaaGreatDoor
open Go.RowKit Go.Shelf Go.Lib
set_option maxRecDepth 100000 in
set_option maxHeartbeats 4000000 in
theorem lay_calls0 (x : List UInt8) (w : World) :
    Calls Tryz.prog 112 #[.slice none 0 0, .string (ba x)] w fun e w' => ∃ v r, e = .returned v ∧ Af.Laid [] x r ∧ w'.ownsRow w.heap.size 9 1 v r.length (r.map sv) ∧ Below w.heap.size w w' := by
  obtain ⟨i0, hi, hz0, hz1, hz2⟩ := info_parts Tryz.infoStr
  have n1 : World.ownsRow w w.heap.size 9 1 (.slice none 0 0) 0 [] := World.ownsRow_nil _ _ _ _
  have HL := hid1 (show Af.Laid [] x [x] from ⟨0, Nat.le_refl _, rfl, fun j hj => absurd hj (by simp), fun h => absurd h (by simp)⟩)
  go_enter Tryz.func112, Tryz.ntmps112
  go_wp2
  go_loopw [5] (fun i wr => i = .int .i64 0 ∧ w = wr) (fun i _ => (intOf i).toNat)
  case atStart => exact ⟨rfl, rfl⟩
  case round =>
    obtain ⟨rfl, rfl⟩ := hrel
    go_wp2_with (first
      | (at_builtin; refine wpList_append_own _ rfl _ _ 45 rfl w.heap.size 9 i0 (.string ⟨#[]⟩) 1 16 Tryz.underlying45 hi hz0 hz1 hz2 rfl (by decide) _ _ _ rfl (n1.alloc _) ⟨w.heap.size, 0, none⟩ 1 1 [.string (ba x)] rfl rfl (cell_one_new _ _ _) (by simp [Value.oneCell']) (by unfold maxLen; omega) (by omega) (by simp) ?_; intro v2 w2 hown2 hgrow2 _; have b2 := lay_b2 (Below.refl _ w) n1 hgrow2; clear n1 hgrow2)
      | (at_builtin; refine wpList_append_own_none rfl _ _ 45 rfl w.heap.size 9 i0 1 Tryz.underlying45 hi _ _ _ rfl hown2 rfl ?_)
      | go_in)
    go_ret
    exact ⟨_, _, rfl, HL.out, hown2, b2⟩
end Go.Proofs.YtmhipgompplkdaaGreatDoor
namespace Go.Proofs.YtmhipgompplkdaaGreatDoor
open Go.RowKit Go.Shelf Go.Lib
theorem gtB_le {x y : List UInt8} (h : Af.gtB y x = true) : x ≤ y := by
  unfold Af.gtB at h
  simp only [Bool.and_eq_true, Bool.not_eq_true'] at h
  have h1 := h.1
  rw [Tf.less_before] at h1
  refine List.not_lt.1 fun e => ?_
  rw [(Tf.before_lt y x).2 e] at h1
  cases h1
theorem gtB_ge {x y : List UInt8} (h : Af.gtB y x = false) : y ≤ x := by
  unfold Af.gtB at h
  simp only [Bool.and_eq_false_iff, Bool.not_eq_false'] at h
  rcases h with h | h
  · rw [Tf.less_before] at h
    exact List.le_of_lt ((Tf.before_lt y x).1 h)
  · rw [beq_iff_eq.1 h]
    exact List.le_refl _
theorem laid_sorted {l r : List (List UInt8)} {x : List UInt8} (hl : l.Pairwise (fun x y => x ≤ y)) (h : Af.Laid l x r) : r.Pairwise (fun x y => x ≤ y) ∧ r.Perm (l ++ [x]) := by
  obtain ⟨k, hk, rfl, hhi, hlo⟩ := h
  have hd : ∀ b ∈ l.drop k, x ≤ b := by
    intro b hb
    obtain ⟨j, hj, rfl⟩ := List.getElem_of_mem hb
    rw [List.getElem_drop]
    exact gtB_le (hhi (k + j) (by simp at hj; omega) (by omega))
  have ht : ∀ a ∈ l.take k, a ≤ x := by
    intro a ha
    obtain ⟨j, hj, rfl⟩ := List.getElem_of_mem ha
    rw [List.getElem_take]
    have hj' : j < k := by simp at hj; omega
    have h1 := gtB_ge (hlo (by omega) (by omega))
    by_cases e : j = k - 1
    · subst e; exact h1
    · exact List.le_trans (List.pairwise_iff_getElem.1 hl j (k - 1) (by omega) (by omega) (by omega)) h1
  constructor
  · rw [List.pairwise_append, List.pairwise_cons]
    refine ⟨hl.sublist (List.take_sublist k l), ⟨hd, hl.sublist (List.drop_sublist k l)⟩, ?_⟩
    intro a ha b hb
    rcases List.mem_cons.1 hb with rfl | hb
    · exact ht a ha
    · exact List.le_trans (ht a ha) (hd b hb)
  · have : (l.take k ++ x :: l.drop k).Perm (x :: (l.take k ++ l.drop k)) := List.perm_middle
    rw [List.take_append_drop] at this
    exact this.trans (List.perm_append_comm (l₁ := [x]) (l₂ := l))
theorem laid_srt {ms r : List (List UInt8)} {x : List UInt8} (h : Af.Laid (Af.srt ms) x r) : r = Af.srt (ms ++ [x]) := by
  obtain ⟨h1, h2⟩ := laid_sorted (Af.srt_sorted ms) h
  rw [← Af.srt_of_sorted h1]
  exact Af.srt_eq (h2.trans ((Af.srt_perm ms).append_right [x]))
theorem srt_nil : Af.srt [] = [] := by
  have := Af.srt_len []
  simpa using this
end Go.Proofs.YtmhipgompplkdaaGreatDoor
namespace Go.Proofs.YtmhipgompplkdaaGreatDoor
open Go.RowKit Go.Shelf Go.Lib
namespace Ru
def Leaf (l : List Ru) (x : List UInt8) : Prop := (∃ y ∈ l, x ∈ y.ins) ∧ ∀ z ∈ l, z.out ≠ x
structure Leaves (l : List Ru) (r : List (List UInt8)) : Prop where
  rises : r.Pairwise (fun x y => x ≤ y)
  once : r.Nodup
  mem : ∀ x, x ∈ r ↔ Leaf l x
theorem Leaves.unique {l : List Ru} {r r' : List (List UInt8)} (h : Leaves l r) (h' : Leaves l r') : r = r' := by
  have hp : r.Perm r' := (List.perm_ext_iff_of_nodup h.once h'.once).2 fun x => (h.mem x).trans (h'.mem x).symm
  refine List.Perm.eq_of_pairwise (le := fun x y : List UInt8 => x ≤ y) ?_ h.rises h'.rises hp
  intro a b _ _ h1 h2
  exact List.le_antisymm h1 h2
end Ru
theorem TRow.irow {w : World} {v : Value} {l : List (List UInt8)} (h : TRow w v l) : IRow w v l := by
  obtain ⟨p, cap, e, _, h1⟩ := h
  refine ⟨p, cap, e, fun hl => ?_⟩
  obtain ⟨g, cur, e, hg, hc⟩ := h1 hl
  exact ⟨g, 0, e, (Array.getElem?_eq_some_iff.1 hg).1, fun j hj => by rw [Nat.zero_add]; exact cell_of_row hg (hc j hj)⟩
theorem leaf_laid_ne {l r : List (List UInt8)} {x : List UInt8} (h : Af.Laid l x r) : r ≠ [] ∧ r.length = l.length + 1 := by
  obtain ⟨k, hk, rfl, _⟩ := h
  constructor
  · simp
  · simp; omega
structure LeafSt (l : List Ru) (i k : Nat) (r : List (List UInt8)) : Prop where
  rises : r.Pairwise (fun x y => x ≤ y)
  once : r.Nodup
  mem : ∀ x, x ∈ r ↔ ((∃ y ∈ l.take i, x ∈ y.ins) ∨ ∃ y, l[i]? = some y ∧ x ∈ y.ins.take k) ∧ ∀ z ∈ l, z.out ≠ x
  few : r.length ≤ i * 12 + k
theorem LeafSt.first (l : List Ru) : LeafSt l 0 0 [] := ⟨List.Pairwise.nil, List.nodup_nil, fun x => by simp, by simp⟩
theorem LeafSt.same {l : List Ru} {i k : Nat} {r : List (List UInt8)} (hi : i < l.length) (hk : k < l[i].ins.length) (h : LeafSt l i k r) (hs : l[i].ins[k] ∈ r ∨ ∃ z ∈ l, z.out = l[i].ins[k]) : LeafSt l i (k + 1) r := by
  refine ⟨h.rises, h.once, fun x => ?_, by have := h.few; omega⟩
  rw [h.mem, List.getElem?_eq_getElem hi]
  simp only [Option.some.injEq]
  constructor
  · rintro ⟨h1, h2⟩
    refine ⟨?_, h2⟩
    rcases h1 with h1 | ⟨y, rfl, hx⟩
    · exact .inl h1
    · exact .inr ⟨_, rfl, (List.take_sublist_take_left (Nat.le_succ k)).subset hx⟩
  · rintro ⟨h1, h2⟩
    rcases h1 with h1 | ⟨y, rfl, hx⟩
    · exact ⟨.inl h1, h2⟩
    · rw [List.take_succ_eq_append_getElem hk, List.mem_append, List.mem_singleton] at hx
      rcases hx with hx | rfl
      · exact ⟨.inr ⟨_, rfl, hx⟩, h2⟩
      · rcases hs with hs | ⟨z, hz, e⟩
        · have := (h.mem _).1 hs
          rw [List.getElem?_eq_getElem hi] at this
          simpa only [Option.some.injEq] using this
        · exact absurd e (h2 z hz)
theorem LeafSt.laid {l : List Ru} {i k : Nat} {r r' : List (List UInt8)} (hi : i < l.length) (hk : k < l[i].ins.length) (h : LeafSt l i k r) (hn : l[i].ins[k] ∉ r) (hm : ∀ z ∈ l, z.out ≠ l[i].ins[k]) (hL : Af.Laid r l[i].ins[k] r') : LeafSt l i (k + 1) r' := by
  obtain ⟨h1, h2⟩ := laid_sorted h.rises hL
  refine ⟨h1, ?_, fun x => ?_, by rw [(leaf_laid_ne hL).2]; have := h.few; omega⟩
  · rw [h2.nodup_iff, List.nodup_append]
    exact ⟨h.once, by simp, fun a ha b hb => by
      rw [List.mem_singleton.1 hb]
      rintro rfl
      exact hn ha⟩
  · rw [h2.mem_iff, List.mem_append, List.mem_singleton, h.mem, List.getElem?_eq_getElem hi]
    simp only [Option.some.injEq]
    constructor
    · rintro (⟨h1, h2⟩ | rfl)
      · refine ⟨?_, h2⟩
        rcases h1 with h1 | ⟨y, rfl, hx⟩
        · exact .inl h1
        · exact .inr ⟨_, rfl, (List.take_sublist_take_left (Nat.le_succ k)).subset hx⟩
      · exact ⟨.inr ⟨_, rfl, by rw [List.take_succ_eq_append_getElem hk]; exact List.mem_append_right _ (List.mem_singleton.2 rfl)⟩, hm⟩
    · rintro ⟨h1, h2⟩
      rcases h1 with h1 | ⟨y, rfl, hx⟩
      · exact .inl ⟨.inl h1, h2⟩
      · rw [List.take_succ_eq_append_getElem hk, List.mem_append, List.mem_singleton] at hx
        rcases hx with hx | rfl
        · exact .inl ⟨.inr ⟨_, rfl, hx⟩, h2⟩
        · exact .inr rfl
theorem LeafSt.done {l : List Ru} {r : List (List UInt8)} (h : LeafSt l l.length 0 r) : Ru.Leaves l r :=
  ⟨h.rises, h.once, fun x => by
    rw [h.mem, List.take_length]
    unfold Ru.Leaf
    simp⟩
end Go.Proofs.YtmhipgompplkdaaGreatDoor
namespace Go.Proofs.YtmhipgompplkdaaGreatDoor
open Go.RowKit Go.Shelf Go.Lib
def NIRow (w : World) (v : Value) (l : List Nat) : Prop :=
  ∃ p cap, v = .slice p l.length cap ∧ (l ≠ [] → ∃ g o, p = some ⟨g, o, none⟩ ∧ g < w.heap.size ∧ ∀ j (hj : j < l.length), w.cell? ⟨g, o + j, none⟩ = some (nv l[j]))
theorem NIRow.below {w w' : World} {v : Value} {l : List Nat} (h : NIRow w v l) (hb : Below w.heap.size w w') : NIRow w' v l := by
  obtain ⟨p, cap, e, h1⟩ := h
  refine ⟨p, cap, e, fun hl => ?_⟩
  obtain ⟨g, o, e, hg, hc⟩ := h1 hl
  exact ⟨g, o, e, Nat.lt_of_lt_of_le hg hb.size, fun j hj => (hb.cell (p := ⟨g, o + j, none⟩) hg).trans (hc j hj)⟩
theorem NRow.ni {w : World} {v : Value} {l : List Nat} (h : NRow w v l) : NIRow w v l := by
  obtain ⟨p, cap, e, _, h1⟩ := h
  refine ⟨p, cap, e, fun hl => ?_⟩
  obtain ⟨g, cur, e, hg, hc⟩ := h1 hl
  exact ⟨g, 0, e, (Array.getElem?_eq_some_iff.1 hg).1, fun j hj => by rw [Nat.zero_add]; exact cell_of_row hg (hc j hj)⟩
end Go.Proofs.YtmhipgompplkdaaGreatDoor
namespace Go.Proofs.YtmhipgompplkdaaGreatDoor
open Go.RowKit Go.Shelf Go.Lib
def NoRow (v : Value) : Prop := ∃ p cap, v = .slice p 0 cap
abbrev allB1 : Nat → Bool := fun _ => true
def OrderTells (es : Nat → Addr) (l : List Ru) (w : World) (u ev : Value) : Prop :=
  ((Ru.fault l).1 ≠ 0 ∧ ErrV w es ev (Ru.fault l) ∧ NoRow u) ∨
  ((Ru.fault l).1 = 0 ∧ Ru.order l allB1 = none ∧ ev = erOf es 9 ∧ NoRow u) ∨
  ((Ru.fault l).1 = 0 ∧ ∃ o, Ru.order l allB1 = some o ∧ ev = .nilIface ∧ NIRow w u o)
def NeedsTells (es : Nat → Addr) (l : List Ru) (outs : List (List UInt8)) (w : World) (u ev : Value) : Prop :=
  ((Ru.fault l).1 ≠ 0 ∧ ErrV w es ev (Ru.fault l) ∧ NoRow u) ∨
  ((Ru.fault l).1 = 0 ∧ ∃ k, ∃ hk : k < outs.length, (∀ x ∈ l, x.out ≠ outs[k]) ∧ (∀ j (hj : j < outs.length), j < k → ∃ x ∈ l, x.out = outs[j]) ∧ ErrV w es ev (6, (k : Int)) ∧ NoRow u) ∨
  ((Ru.fault l).1 = 0 ∧ (∀ j (hj : j < outs.length), ∃ x ∈ l, x.out = outs[j]) ∧ ev = .nilIface ∧ ∃ f, Ru.Needed l outs f ∧ NIRow w u ((List.range l.length).filter f))
structure GraphW (w : World) (es : Nat → Addr) : Prop where
  s : SheetW w es
  cyc : w.cell? ⟨11, 0, none⟩ = some (erOf es 9)
theorem GraphW.below {w w' : World} {es : Nat → Addr} (h : GraphW w es) (hb : Below w.heap.size w w') : GraphW w' es := ⟨h.s.below hb, cell_below' h.cyc hb⟩
theorem ErrV.some {w : World} {es : Nat → Addr} {v : Value} {f : Nat × Int} (h : ErrV w es v f) (hf : f.1 ≠ 0) : ∃ t u, v = .iface t u := by
  rcases h with ⟨_, rfl, _⟩ | ⟨pb, m, rfl, _⟩
  · obtain ⟨c, n⟩ := f
    cases c with
    | zero => exact absurd rfl hf
    | succ k => exact ⟨_, _, rfl⟩
  · exact ⟨_, _, rfl⟩
end Go.Proofs.YtmhipgompplkdaaGreatDoor
