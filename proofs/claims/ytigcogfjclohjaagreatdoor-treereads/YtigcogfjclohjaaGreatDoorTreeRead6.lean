/- Walks of package tree's readEntries and rise, where the answer is no; Read, whole. -/
import Derived.Test.YtigcogfjclohjaaGreatDoorTreeRead4
import Derived.Test.YtigcogfjclohjaaGreatDoorTreeRead5
namespace Go.Proofs.YtigcogfjclohjaaGreatDoor
open Go.RowKit Go.Shelf Go.Lib Go.Maps
open Tf (Fs)

set_option maxRecDepth 100000 in
set_option maxHeartbeats 4000000 in
theorem readEntries_no (s : List UInt8) (hp : Tf.parse s = none) (hs : s.length ≤ 3000) (m : Int) (w : World) (hP : Pow w) (hm : MaxAt w m) (hS : SynAt w) :
    Calls Tryz.prog 37 #[.string (ba s)] w fun e w' => e = .returned (.tuple #[.slice none 0 0, .bool false]) ∧ Below w.heap.size w w' := by
  have HR : Hid (∀ (t r : List UInt8) (e : List UInt8 × List UInt8), Tf.readE t = some (e, r) → t.length ≤ 1000000 → ∀ W, Below w.heap.size w W → Calls Tryz.prog 57 #[.string (ba t)] W fun e' w' => e' = .returned (.tuple #[entV e, .string (ba r), .bool true]) ∧ Below W.heap.size W w') :=
    fun t r e h ht W hW => readEntry_yes t e r h ht m W (pow_below hP hW) (cell_below' hm hW)
  have HN : Hid (∀ (t : List UInt8), Tf.readE t = none → t.length ≤ 1000000 → ∀ W, Below w.heap.size w W → Calls Tryz.prog 57 #[.string (ba t)] W fun e' w' => (∃ x y, e' = .returned (.tuple #[entV x, .string (ba y), .bool false])) ∧ Below W.heap.size W w') :=
    fun t h ht W hW => readEntry_no t h ht m W (pow_below hP hW) (cell_below' hm hW) (hS.below hW)
  obtain ⟨i0, hi, hz0, hz1, hz2⟩ := info_parts Tryz.infoEntry
  clear hP hm hS
  go_enter Tryz.func37, Tryz.ntmps37
  go_wp2
  go_loopw [0, 4] (fun s0 s4 wr => ∃ (dn : Fs) (r : List UInt8), Tf.parse r = none ∧ dn.length + r.length ≤ 3000 ∧ s0 = .string (ba r) ∧ wr.ownsRow w.heap.size 75 2 s4 dn.length (entCells dn) ∧ Below w.heap.size w wr) (fun s0 _ _ => strLen s0)
  case atStart => exact ⟨[], s, hp, by simpa using hs, rfl, World.ownsRow_nil _ _ _ _, Below.refl _ _⟩
  case round =>
    obtain ⟨dn, r, hpar, hrl, rfl, hrow, hB⟩ := hrel
    have hne : r ≠ [] := fun e => by rw [e, Tf.parse_nil] at hpar; cases hpar
    have hz : r.isEmpty = false := by simpa using hne
    cases hre : Tf.readE r with
    | none =>
      have HE := HN.out r hre (by omega) wr hB
      clear HR HN hre hpar
      go_wp2_with fail
      refine HE.mono ?_
      rintro e' w1 ⟨⟨x, y, rfl⟩, g1⟩
      go_wp2
      go_ret2
      exact ⟨rfl, (hB.trans (g1.mono hB.size)).alloc (Nat.le_trans hB.size g1.size) _⟩
    | some er =>
      obtain ⟨e, r'⟩ := er
      have hlt := Tf.readP_lt hre
      have HE := HR.out r r' e hre (by omega) wr hB
      have hpar' : Tf.parse r' = none := by
        rw [Tf.parse_step hne hre] at hpar
        cases h : Tf.parse r' with
        | none => rfl
        | some l => rw [h] at hpar; cases hpar
      have hdn : dn.length < 3000 := by omega
      clear HR HN hre hpar
      go_wp2_with fail
      refine HE.mono ?_
      rintro e' w1 ⟨rfl, g1⟩
      have hrow1 := ownsRow_below hrow g1
      have G1 := hB.trans (g1.mono hB.size)
      have hsz1 := G1.size
      clear hrow g1 HE
      go_wp2_with (first
        | (at_builtin; refine wpList_append_own _ rfl _ _ 71 rfl w.heap.size 75 i0 (.agg #[.string ⟨#[]⟩, .string ⟨#[]⟩]) 2 32 Tryz.underlying71 hi hz0 hz1 hz2 rfl (by decide) _ _ _ rfl ((hrow1.alloc _).alloc _) ⟨w1.heap.size + 1, 0, none⟩ 1 1 [.string (ba e.1), .string (ba e.2)] rfl rfl (two_new' _ _ _ _ _ (by simp)) (by simp [Value.oneCell']) (by unfold maxLen; omega) (by omega) (by simp; omega) ?_; intro v' w2 hown' hgrow hnil; go_frame)
        | go_in)
      go_wp2
      go_roundw
      case rel =>
        refine ⟨dn ++ [e], r', hpar', by simp; omega, rfl, ?_, ?_⟩
        · rw [entCells_snoc]; simpa using hown'
        · exact ((G1.alloc hsz1 _).alloc (by simp; omega) _).grown hgrow (by simp; omega) (row_low hrow1)
      case measure => simp only [strLen, ba_size]; exact hlt

set_option maxRecDepth 100000 in
set_option maxHeartbeats 4000000 in
theorem rise_no {w : World} {v : Value} {es : Fs} (h : ERow w v es) (hr : ¬ Tf.Rises es) (hn : es.length ≤ 1000) :
    Calls Tryz.prog 38 #[v] w fun e w' => e = .returned (.bool false) ∧ ∃ q, w' = w.drewN q := by
  obtain ⟨p, cap, rfl, hcap, hin⟩ := h
  have zn : (es.length : Int) ≤ 1000 := by omega
  go_enter Tryz.func38, Tryz.ntmps38
  go_wp2
  go_loopw [3] (fun i wr => ∃ k : Nat, 1 ≤ k ∧ k ≤ 1000 ∧ i = .int .i64 k ∧ (∀ j (hj : j + 1 < es.length), j + 1 < k → bytesBefore es[j].1 es[j + 1].1 = true) ∧ ∃ q, wr = w.drewN q) (fun i _ => 1001 - (intOf i).toNat)
  case atStart => exact ⟨1, by omega, by omega, rfl, fun j _ h => by omega, 0, rfl⟩
  case round =>
    obtain ⟨k, hk1, hk, rfl, hup, q, rfl⟩ := hrel
    have HU : Hid (∀ j (hj : j + 1 < es.length), j + 1 < k → bytesBefore es[j].1 es[j + 1].1 = true) := hup
    clear hup
    by_cases hlt : k < es.length
    · obtain ⟨g, cur, rfl, hg, hcur⟩ := hin (by intro e; rw [e] at hlt; simp at hlt)
      have c1 : (k : Int) < (es.length : Int) := by omega
      have c0 : (1 : Int) ≤ (k : Int) := by omega
      have c2 : (0 : Int) ≤ (k : Int) := by omega
      have h1 := cell_of_row hg (hcur (k - 1) (by omega)).1
      have h2 := cell_of_row hg (hcur k hlt).1
      obtain ⟨j, rfl⟩ : ∃ j, k = j + 1 := ⟨k - 1, by omega⟩
      simp only [Nat.add_sub_cancel] at h1
      clear hin hcur hg
      cases hb : Op.bytesLess es[j].1 es[j + 1].1 with
      | true =>
        have HB : Hid (bytesBefore es[j].1 es[j + 1].1 = true) := by rw [← Tf.less_before]; exact hb
        have HX : Hid (∀ i (hi : i + 1 < es.length), i + 1 < j + 1 + 1 → bytesBefore es[i].1 es[i + 1].1 = true) := fun i hi hij => by
          rcases Nat.lt_or_ge (i + 1) (j + 1) with h | h
          · exact HU.out i hi h
          · obtain rfl : i = j := by omega
            exact HB.out
        clear HU HB
        generalize es[j].1 = x at *
        generalize es[j + 1].1 = y at *
        go_wp2
        go_region
        go_wp2
        go_roundw
        case rel => exact ⟨j + 1 + 1, by omega, by omega, by go_num, HX.out, q + 1, rfl⟩
        case measure => simp [intOf]; omega
      | false =>
        clear HU
        generalize es[j].1 = x at *
        generalize es[j + 1].1 = y at *
        go_wp2
        go_region
        go_wp2
        go_ret
        exact ⟨rfl, q + 1, rfl⟩
    · exact absurd (Tf.rises_of_pairs fun j hj => HU.out j hj (by omega)) hr
end Go.Proofs.YtigcogfjclohjaaGreatDoor
