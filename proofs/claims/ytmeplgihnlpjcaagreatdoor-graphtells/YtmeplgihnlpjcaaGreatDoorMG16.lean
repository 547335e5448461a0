/- The statements' closed fact: one rule needs another one. -/
import Derived.Test.YtmeplgihnlpjcaaGreatDoorMG13
import Derived.Test.YtmeplgihnlpjcaaGreatDoorMG2
namespace Go.Proofs.YtmeplgihnlpjcaaGreatDoor
open Go.RowKit Go.Shelf Go.Lib

def ahead2 : List Ru := [⟨[97], [117, 112, 112, 101, 114], [], [[98]]⟩, ⟨[98], [119, 114, 105, 116, 101], [120], []⟩]
theorem ahead2_err : Ru.errAt ahead2 0 = 0 ∧ Ru.errAt ahead2 1 = 0 := by
  have p1 : pathB [97] = true := by rw [pathB_R]; decide
  have p2 : pathB [98] = true := by rw [pathB_R]; decide
  have e1 : (⟨[97], [117, 112, 112, 101, 114], [], [[98]]⟩ : Ru).err = 0 := by
    rw [Ru.err_tail p1 (by decide)]
    simp only [List.all_cons, List.all_nil, p2]
    decide
  have e2 : (⟨[98], [119, 114, 105, 116, 101], [120], []⟩ : Ru).err = 0 := by
    rw [Ru.err_tail p2 (by decide)]
    decide
  constructor
  · rw [Ru.errAt_eq (by decide)]
    show (if Ru.err ⟨[97], [117, 112, 112, 101, 114], [], [[98]]⟩ ≠ 0 then _ else _) = 0
    rw [e1]
    decide
  · rw [Ru.errAt_eq (by decide)]
    show (if Ru.err ⟨[98], [119, 114, 105, 116, 101], [120], []⟩ ≠ 0 then _ else _) = 0
    rw [e2]
    decide
theorem ahead2_fault : Ru.fault ahead2 = (0, -1) := Ru.fault_none (by decide) fun j hj => by
  have : j = 0 ∨ j = 1 := by simp [ahead2] at hj; omega
  rcases this with rfl | rfl
  · exact ahead2_err.1
  · exact ahead2_err.2
theorem ahead2_order : Ru.order ahead2 allB1 = some [1, 0] := by decide
theorem ahead2_small : ∀ x ∈ ahead2, x.Small := by
  intro x hx
  simp only [ahead2, List.mem_cons, List.not_mem_nil, or_false] at hx
  rcases hx with rfl | rfl
  · exact ⟨by decide, by decide, by decide, by decide, by simp⟩
  · exact ⟨by decide, by decide, by decide, by decide, by simp⟩

set_option maxRecDepth 100000 in
set_option maxHeartbeats 4000000 in
theorem ahead_calls {w : World} {es : Nat → Addr} (hW : GraphW w es) (HG : Graphs es) :
    Calls Tryz.prog 6 #[] w fun e w' => e = .returned (.bool true) ∧ Below w.heap.size w w' := by
  have b1 : Below w.heap.size w (w.alloc (.cells #[.string ⟨#[98]⟩] 9)) := (Below.refl _ w).alloc (Nat.le_refl _) _
  have b2 : Below w.heap.size w ((w.alloc (.cells #[.string ⟨#[98]⟩] 9)).alloc (.cells #[.string ⟨#[97]⟩, .string ⟨#[117, 112, 112, 101, 114]⟩, .string ⟨#[]⟩, .slice (some ⟨w.heap.size, 0, none⟩) 1 1, .string ⟨#[98]⟩, .string ⟨#[119, 114, 105, 116, 101]⟩, .string ⟨#[120]⟩, .slice none 0 0] 57)) := b1.alloc (by simp) _
  have hrow : RRow ((w.alloc (.cells #[.string ⟨#[98]⟩] 9)).alloc (.cells #[.string ⟨#[97]⟩, .string ⟨#[117, 112, 112, 101, 114]⟩, .string ⟨#[]⟩, .slice (some ⟨w.heap.size, 0, none⟩) 1 1, .string ⟨#[98]⟩, .string ⟨#[119, 114, 105, 116, 101]⟩, .string ⟨#[120]⟩, .slice none 0 0] 57)) (.slice (some ⟨w.heap.size + 1, 0, none⟩) 2 2) ahead2 := by
    refine ⟨some ⟨w.heap.size + 1, 0, none⟩, 2, rfl, Nat.le_refl _, fun h => (by cases h), fun _ => ⟨w.heap.size + 1, 0, rfl, by simp, fun j hj => ?_⟩⟩
    have hc : ∀ k, ((w.alloc (.cells #[.string ⟨#[98]⟩] 9)).alloc (.cells #[.string ⟨#[97]⟩, .string ⟨#[117, 112, 112, 101, 114]⟩, .string ⟨#[]⟩, .slice (some ⟨w.heap.size, 0, none⟩) 1 1, .string ⟨#[98]⟩, .string ⟨#[119, 114, 105, 116, 101]⟩, .string ⟨#[120]⟩, .slice none 0 0] 57)).cell? ⟨w.heap.size + 1, k, none⟩ = (#[.string ⟨#[97]⟩, .string ⟨#[117, 112, 112, 101, 114]⟩, .string ⟨#[]⟩, .slice (some ⟨w.heap.size, 0, none⟩) 1 1, .string ⟨#[98]⟩, .string ⟨#[119, 114, 105, 116, 101]⟩, .string ⟨#[120]⟩, .slice none 0 0] : Array Value)[k]? := fun k => World.cell?_alloc_at _ _ _ _ (by simp)
    have : j = 0 ∨ j = 1 := by simp [ahead2] at hj; omega
    rcases this with rfl | rfl
    · refine ⟨hc 0, hc 1, hc 2, _, hc 3, some ⟨w.heap.size, 0, none⟩, 1, rfl, Nat.le_refl _, fun h => (by cases h), fun _ => ⟨w.heap.size, 0, rfl, by simp; omega, fun i hi => ?_⟩⟩
      obtain rfl : i = 0 := by simp [ahead2] at hi; omega
      rw [World.cell?_alloc_lt _ _ _ (by simp)]
      exact World.cell?_alloc_at _ _ _ _ rfl
    · exact ⟨hc 4, hc 5, hc 6, _, hc 7, XRow.nil _⟩
  have HO := hid1 (HG.order _ _ _ (hW.below b2) hrow (by decide) ahead2_small)
  have HT : Hid (∀ (W : World) u ev, OrderTells es ahead2 W u ev → ev = .nilIface ∧ NIRow W u [1, 0]) := hid1 fun W u ev h => by
    rcases h with ⟨h, _⟩ | ⟨_, h, _⟩ | ⟨_, o, h, he, hn⟩
    · rw [ahead2_fault] at h
      exact absurd rfl h
    · rw [ahead2_order] at h
      cases h
    · rw [ahead2_order] at h
      cases h
      exact ⟨he, hn⟩
  have HSm := hid1 fun (W : World) a b ha hb => SameInts_ni (w := W) a b [1, 0] ha hb (by decide)
  clear hrow HG hW
  go_enter Tryz.func6, Tryz.ntmps6
  go_wp2_with fail
  refine HO.out.mono ?_
  rintro e w1 ⟨u, ev, rfl, g, ht⟩
  obtain ⟨rfl, hn⟩ := HT.out _ _ _ ht
  have g1 := b2.trans (g.mono b2.size)
  have HN := hid1 hn
  have hb3 : Below w1.heap.size w1 (w1.alloc (.cells #[.int .i64 1, .int .i64 0] 3)) := (Below.refl _ w1).alloc (Nat.le_refl _) _
  have hn2 : NIRow (w1.alloc (.cells #[.int .i64 1, .int .i64 0] 3)) (.slice (some ⟨w1.heap.size, 0, none⟩) 2 2) [1, 0] := by
    refine ⟨_, 2, rfl, fun _ => ⟨w1.heap.size, 0, rfl, by simp, fun j hj => ?_⟩⟩
    rw [Nat.zero_add, World.cell?_alloc_at _ _ _ _ rfl]
    have : j = 0 ∨ j = 1 := by simp at hj; omega
    rcases this with rfl | rfl <;> rfl
  have HC := hid1 (HSm.out _ _ _ (hn.below hb3) hn2)
  have g2 := g1.alloc g1.size (.cells #[.int .i64 1, .int .i64 0] 3)
  clear hn hn2 ht g HSm HT HO b1 b2
  obtain ⟨pu, cu, rfl, -⟩ := HN.out
  go_wp2_with fail
  refine HC.out.mono ?_
  rintro e w2 ⟨rfl, q, rfl⟩
  go_wp2
  go_ret
  exact ⟨rfl, below_draws g2 q⟩
end Go.Proofs.YtmeplgihnlpjcaaGreatDoor
/- Statements' LongTexts and OwnTexts. -/
namespace Go.Proofs.YtmeplgihnlpjcaaGreatDoor
open Go.RowKit Go.Shelf Go.Lib

set_option maxRecDepth 100000 in
set_option maxHeartbeats 4000000 in
theorem LongTexts_any {w : World} (v : Value) (ls : List (List UInt8)) (many most : Nat) (hmany : many ≤ 1000000) (hmost : most ≤ 1000000) (hrow : IRow w v ls) :
    Calls Tryz.prog 12 #[v, .int .i64 many, .int .i64 most] w fun e w' => ∃ r : Int, e = .returned (.int .i64 r) ∧ w' = w ∧ (r = 1 ∨ (r = 0 ∧ ls.length ≤ many ∧ ∀ x ∈ ls, x.length ≤ most)) := by
  obtain ⟨p, cap, rfl, hin⟩ := hrow
  have zM : (most : Int) ≤ 1000000 := by omega
  have zN : (many : Int) ≤ 1000000 := by omega
  have HI := hid1 hin
  clear hin
  by_cases h12 : ls.length ≤ many
  · have z12 : (ls.length : Int) ≤ (many : Int) := by omega
    go_enter Tryz.func12, Tryz.ntmps12
    go_wp2
    go_loopw [7, 8] (fun n i wr => ∃ k m : Nat, k ≤ ls.length ∧ m ≤ most ∧ n = .int .i64 m ∧ i = .int .i64 k ∧ (∀ j (hj : j < ls.length), j < k → ls[j].length ≤ most) ∧ w = wr) (fun _ i _ => ls.length - (intOf i).toNat)
    case atStart => exact ⟨0, 0, Nat.zero_le _, Nat.zero_le _, rfl, rfl, fun j hj h => by omega, rfl⟩
    case round =>
      obtain ⟨k, m, hk, hm, rfl, rfl, hall, rfl⟩ := hrel
      have HA := hid1 hall
      clear hall
      have c0 : (0 : Int) ≤ (k : Int) := by omega
      have zm : (m : Int) ≤ (most : Int) := by omega
      have q8 : IntKind.i64.wrap (k : Int) = (k : Int) := by rw [IntKind.wrap_i64]; omega
      by_cases hlt : k < ls.length
      · have c1 : (k : Int) < (ls.length : Int) := by omega
        obtain ⟨g, o, rfl, hg, hcur⟩ := HI.out (by intro e; rw [e] at hlt; simp at hlt)
        have hcell := hcur k hlt
        have HS : Hid (ls[k].length ≤ most → ∀ j (hj : j < ls.length), j < k + 1 → ls[j].length ≤ most) := by
          refine hid1 fun h j hj hjk => ?_
          by_cases e : j = k
          · subst e; exact h
          · exact HA.out j hj (by omega)
        clear hcur HI HA
        generalize ls[k] = y at *
        by_cases hy : y.length ≤ most
        · have zy : (y.length : Int) ≤ (most : Int) := by omega
          have HN := hid1 (HS.out hy)
          clear HS
          have q7 : IntKind.i64.wrap ((m : Int) + (y.length : Int)) = ((m + y.length : Nat) : Int) := by rw [IntKind.wrap_i64]; omega
          by_cases hs : m + y.length ≤ most
          · have zs : ((m + y.length : Nat) : Int) ≤ (most : Int) := by omega
            generalize hmy : m + y.length = m1 at *
            clear hmy
            go_wp2
            exact ⟨⟨k + 1, m1, by omega, hs, rfl, by go_num, HN.out, trivial⟩, by simp [intOf]; omega⟩
          · have zs : (most : Int) < ((m + y.length : Nat) : Int) := by omega
            generalize hmy : m + y.length = m1 at *
            clear hmy
            go_wp2
            go_ret
            exact ⟨1, rfl, rfl, .inl rfl⟩
        · have zy : (most : Int) < (y.length : Int) := by omega
          clear HS
          go_wp2
          go_ret
          exact ⟨1, rfl, rfl, .inl rfl⟩
      · obtain rfl : k = ls.length := by omega
        have c1 : ¬ (ls.length : Int) < (ls.length : Int) := by omega
        have HF : Hid (∀ x ∈ ls, x.length ≤ most) := by
          refine hid1 fun x hx => ?_
          obtain ⟨j, hj, rfl⟩ := List.getElem_of_mem hx
          exact HA.out j hj hj
        clear HI HA
        go_wp2
        go_ret
        exact ⟨0, rfl, rfl, .inr ⟨rfl, HF.out⟩⟩
  · have z12 : (many : Int) < (ls.length : Int) := by omega
    go_enter Tryz.func12, Tryz.ntmps12
    go_wp2
    go_ret
    exact ⟨1, rfl, rfl, .inl rfl⟩

set_option maxRecDepth 100000 in
set_option maxHeartbeats 4000000 in
theorem OwnTexts_nil (w : World) :
    Calls Tryz.prog 14 #[.slice none 0 0] w fun e w' => ∃ v', e = .returned v' ∧ XRow w' v' [] ∧ TRow w' v' [] ∧ Below w.heap.size w w' := by
  obtain ⟨i0, hi, hz0, hz1, hz2⟩ := info_parts Tryz.infoStr
  have n1 : World.ownsRow w w.heap.size 9 1 (.slice none 0 0) 0 [] := World.ownsRow_nil _ _ _ _
  go_enter Tryz.func14, Tryz.ntmps14
  go_wp2_with (first
    | (at_builtin; refine wpList_append_own_none rfl _ _ 34 rfl w.heap.size 9 i0 1 Tryz.underlying34 hi _ _ _ rfl n1 rfl ?_)
    | go_in)
  go_ret
  exact ⟨_, rfl, XRow.of_owns (l := []) n1, TRow.of_owns (l := []) n1, Below.refl _ _⟩

set_option maxRecDepth 100000 in
set_option maxHeartbeats 4000000 in
theorem OwnTexts_some (w : World) (a : Addr) (cap : Nat) (ls : List (List UInt8)) (hn : ls.length ≤ 12) (hsrc : ∀ j u, (ls.map sv)[j]? = some u → w.cell? (a.add j) = some u) :
    Calls Tryz.prog 14 #[.slice (some a) ls.length cap] w fun e w' => ∃ v', e = .returned v' ∧ XRow w' v' ls ∧ TRow w' v' ls ∧ Below w.heap.size w w' := by
  obtain ⟨i0, hi, hz0, hz1, hz2⟩ := info_parts Tryz.infoStr
  have n1 : World.ownsRow w w.heap.size 9 1 (.slice none 0 0) 0 [] := World.ownsRow_nil _ _ _ _
  go_enter Tryz.func14, Tryz.ntmps14
  go_wp2_with (first
    | (at_builtin; refine wpList_append_own _ rfl _ _ 34 rfl w.heap.size 9 i0 (.string ⟨#[]⟩) 1 16 Tryz.underlying34 hi hz0 hz1 hz2 rfl (by decide) _ _ _ rfl n1 a ls.length cap (ls.map sv) rfl (by simp) hsrc one_sv (by unfold maxLen; omega) (by omega) (Nat.le_refl _) ?_; intro v1 w1 hown1 hgrow1 _; have b1 := lay_b1 n1 hgrow1; clear hsrc n1 hgrow1)
    | go_in)
  go_ret
  exact ⟨_, rfl, XRow.of_owns hown1, TRow.of_owns hown1, b1⟩

theorem OwnTexts_calls {w : World} (v : Value) (ls : List (List UInt8)) (hrow : IRow w v ls) (hv : v = .slice none 0 0 ∨ ∃ a n cap, v = .slice (some a) n cap) (h12 : ls.length ≤ 12) :
    Calls Tryz.prog 14 #[v] w fun e w' => ∃ v', e = .returned v' ∧ TRow w' v' ls ∧ Below w.heap.size w w' := by
  obtain ⟨p, cap, rfl, hin⟩ := hrow
  rcases hv with e | ⟨a, n, c, e⟩
  · obtain ⟨rfl, e2, rfl⟩ : p = none ∧ ls.length = 0 ∧ cap = 0 := by simpa using e
    obtain rfl := List.length_eq_zero_iff.1 e2
    exact (OwnTexts_nil w).mono fun e w' ⟨v', a, _, b⟩ => ⟨v', a, b⟩
  · obtain ⟨rfl, rfl, rfl⟩ : p = some a ∧ ls.length = n ∧ cap = c := by simpa using e
    refine (OwnTexts_some w a cap ls h12 fun j u hj => ?_).mono fun e w' ⟨v', a, _, b⟩ => ⟨v', a, b⟩
    have hjl : j < ls.length := by simpa using (List.getElem?_eq_some_iff.1 hj).1
    obtain ⟨g, o, e1, hg, hcur⟩ := hin (by intro e; rw [e] at hjl; simp at hjl)
    obtain rfl := Option.some.inj e1
    rw [List.getElem?_map, List.getElem?_eq_getElem hjl] at hj
    simp only [Option.map_some, Option.some.injEq] at hj
    rw [← hj, add_at2]
    exact hcur j hjl
theorem OwnTexts_x {w : World} (v : Value) (ls : List (List UInt8)) (hrow : XRow w v ls) (h12 : ls.length ≤ 12) :
    Calls Tryz.prog 14 #[v] w fun e w' => ∃ v', e = .returned v' ∧ XRow w' v' ls ∧ TRow w' v' ls ∧ Below w.heap.size w w' := by
  have hx := hrow.irow
  have hv := hrow.shape
  obtain ⟨p, cap, rfl, hin⟩ := hx
  rcases hv with e | ⟨a, n, c, e⟩
  · obtain ⟨rfl, e2, rfl⟩ : p = none ∧ ls.length = 0 ∧ cap = 0 := by simpa using e
    obtain rfl := List.length_eq_zero_iff.1 e2
    exact OwnTexts_nil w
  · obtain ⟨rfl, rfl, rfl⟩ : p = some a ∧ ls.length = n ∧ cap = c := by simpa using e
    refine OwnTexts_some w a cap ls h12 fun j u hj => ?_
    have hjl : j < ls.length := by simpa using (List.getElem?_eq_some_iff.1 hj).1
    obtain ⟨g, o, e1, hg, hcur⟩ := hin (by intro e; rw [e] at hjl; simp at hjl)
    obtain rfl := Option.some.inj e1
    rw [List.getElem?_map, List.getElem?_eq_getElem hjl] at hj
    simp only [Option.map_some, Option.some.injEq] at hj
    rw [← hj, add_at2]
    exact hcur j hjl
end Go.Proofs.YtmeplgihnlpjcaaGreatDoor
