/- Statements' LongTexts and OwnTexts. -/
import Derived.Test.YthokjegephlpmaaDoorIRowT
import Derived.Test.YthokjegephlpmaaDoorRLay
namespace Go.Proofs.YthokjegephlpmaaDoor
open Go.RowKit Go.Shelf Go.Lib

set_option maxRecDepth 100000 in
set_option maxHeartbeats 4000000 in
theorem LongTexts_any {w : World} (v : Value) (ls : List (List UInt8)) (many most : Nat) (hmany : many ≤ 1000000) (hmost : most ≤ 1000000) (hrow : IRow w v ls) :
    Calls Tryd.prog 7 #[v, .int .i64 many, .int .i64 most] w fun e w' => ∃ r : Int, e = .returned (.int .i64 r) ∧ w' = w ∧ (r = 1 ∨ (r = 0 ∧ ls.length ≤ many ∧ ∀ x ∈ ls, x.length ≤ most)) := by
  obtain ⟨p, cap, rfl, hin⟩ := hrow
  have zM : (most : Int) ≤ 1000000 := by omega
  have zN : (many : Int) ≤ 1000000 := by omega
  have HI := hid1 hin
  clear hin
  by_cases h12 : ls.length ≤ many
  · have z12 : (ls.length : Int) ≤ (many : Int) := by omega
    go_enter Tryd.func7, Tryd.ntmps7
    go_wp2
    go_loopw [7, 8] (fun n i wr => ∃ k m : Nat, k ≤ ls.length ∧ m ≤ most ∧ n = .int .i64 m ∧ i = .int .i64 k ∧ (∀ j (hj : j < ls.length), j < k → ls[j].length ≤ most) ∧ w = wr) (fun _ i _ => ls.length - (intOf i).toNat)
    case atStart => exact ⟨0, 0, Nat.zero_le _, Nat.zero_le _, rfl, rfl, fun j hj h => by omega, rfl⟩
    case round =>
      obtain ⟨k, m, hk, hm, rfl, rfl, hall, rfl⟩ := hrel
      have HA := hid1 hall
      clear hall
      have c0 : (0 : Int) ≤ (k : Int) := by omega
      have zm : (m : Int) ≤ (most : Int) := by omega
      have q8 : IntKind.i64.wrap (k : Int) = (k : Int) := by rw [IntKind.wrap_i64]; omega
      by_cases hlt : k < ls.length
      · have c1 : (k : Int) < (ls.length : Int) := by omega
        obtain ⟨g, o, rfl, hg, hcur⟩ := HI.out (by intro e; rw [e] at hlt; simp at hlt)
        have hcell := hcur k hlt
        have HS : Hid (ls[k].length ≤ most → ∀ j (hj : j < ls.length), j < k + 1 → ls[j].length ≤ most) := by
          refine hid1 fun h j hj hjk => ?_
          by_cases e : j = k
          · subst e; exact h
          · exact HA.out j hj (by omega)
        clear hcur HI HA
        generalize ls[k] = y at *
        by_cases hy : y.length ≤ most
        · have zy : (y.length : Int) ≤ (most : Int) := by omega
          have HN := hid1 (HS.out hy)
          clear HS
          have q7 : IntKind.i64.wrap ((m : Int) + (y.length : Int)) = ((m + y.length : Nat) : Int) := by rw [IntKind.wrap_i64]; omega
          by_cases hs : m + y.length ≤ most
          · have zs : ((m + y.length : Nat) : Int) ≤ (most : Int) := by omega
            generalize hmy : m + y.length = m1 at *
            clear hmy
            go_wp2
            exact ⟨⟨k + 1, m1, by omega, hs, rfl, by go_num, HN.out, trivial⟩, by simp [intOf]; omega⟩
          · have zs : (most : Int) < ((m + y.length : Nat) : Int) := by omega
            generalize hmy : m + y.length = m1 at *
            clear hmy
            go_wp2
            go_ret
            exact ⟨1, rfl, rfl, .inl rfl⟩
        · have zy : (most : Int) < (y.length : Int) := by omega
          clear HS
          go_wp2
          go_ret
          exact ⟨1, rfl, rfl, .inl rfl⟩
      · obtain rfl : k = ls.length := by omega
        have c1 : ¬ (ls.length : Int) < (ls.length : Int) := by omega
        have HF : Hid (∀ x ∈ ls, x.length ≤ most) := by
          refine hid1 fun x hx => ?_
          obtain ⟨j, hj, rfl⟩ := List.getElem_of_mem hx
          exact HA.out j hj hj
        clear HI HA
        go_wp2
        go_ret
        exact ⟨0, rfl, rfl, .inr ⟨rfl, HF.out⟩⟩
  · have z12 : (many : Int) < (ls.length : Int) := by omega
    go_enter Tryd.func7, Tryd.ntmps7
    go_wp2
    go_ret
    exact ⟨1, rfl, rfl, .inl rfl⟩

set_option maxRecDepth 100000 in
set_option maxHeartbeats 4000000 in
theorem OwnTexts_nil (w : World) :
    Calls Tryd.prog 9 #[.slice none 0 0] w fun e w' => ∃ v', e = .returned v' ∧ XRow w' v' [] ∧ TRow w' v' [] ∧ Below w.heap.size w w' := by
  obtain ⟨i0, hi, hz0, hz1, hz2⟩ := info_parts Tryd.infoStr
  have n1 : World.ownsRow w w.heap.size 9 1 (.slice none 0 0) 0 [] := World.ownsRow_nil _ _ _ _
  go_enter Tryd.func9, Tryd.ntmps9
  go_wp2_with (first
    | (at_builtin; refine wpList_append_own_none rfl _ _ 22 rfl w.heap.size 9 i0 1 Tryd.underlying22 hi _ _ _ rfl n1 rfl ?_)
    | go_in)
  go_ret
  exact ⟨_, rfl, XRow.of_owns (l := []) n1, TRow.of_owns (l := []) n1, Below.refl _ _⟩

set_option maxRecDepth 100000 in
set_option maxHeartbeats 4000000 in
theorem OwnTexts_some (w : World) (a : Addr) (cap : Nat) (ls : List (List UInt8)) (hn : ls.length ≤ 12) (hsrc : ∀ j u, (ls.map sv)[j]? = some u → w.cell? (a.add j) = some u) :
    Calls Tryd.prog 9 #[.slice (some a) ls.length cap] w fun e w' => ∃ v', e = .returned v' ∧ XRow w' v' ls ∧ TRow w' v' ls ∧ Below w.heap.size w w' := by
  obtain ⟨i0, hi, hz0, hz1, hz2⟩ := info_parts Tryd.infoStr
  have n1 : World.ownsRow w w.heap.size 9 1 (.slice none 0 0) 0 [] := World.ownsRow_nil _ _ _ _
  go_enter Tryd.func9, Tryd.ntmps9
  go_wp2_with (first
    | (at_builtin; refine wpList_append_own _ rfl _ _ 22 rfl w.heap.size 9 i0 (.string ⟨#[]⟩) 1 16 Tryd.underlying22 hi hz0 hz1 hz2 rfl (by decide) _ _ _ rfl n1 a ls.length cap (ls.map sv) rfl (by simp) hsrc one_sv (by unfold maxLen; omega) (by omega) (Nat.le_refl _) ?_; intro v1 w1 hown1 hgrow1 _; have b1 := lay_b1 n1 hgrow1; clear hsrc n1 hgrow1)
    | go_in)
  go_ret
  exact ⟨_, rfl, XRow.of_owns hown1, TRow.of_owns hown1, b1⟩

theorem OwnTexts_calls {w : World} (v : Value) (ls : List (List UInt8)) (hrow : IRow w v ls) (hv : v = .slice none 0 0 ∨ ∃ a n cap, v = .slice (some a) n cap) (h12 : ls.length ≤ 12) :
    Calls Tryd.prog 9 #[v] w fun e w' => ∃ v', e = .returned v' ∧ TRow w' v' ls ∧ Below w.heap.size w w' := by
  obtain ⟨p, cap, rfl, hin⟩ := hrow
  rcases hv with e | ⟨a, n, c, e⟩
  · obtain ⟨rfl, e2, rfl⟩ : p = none ∧ ls.length = 0 ∧ cap = 0 := by simpa using e
    obtain rfl := List.length_eq_zero_iff.1 e2
    exact (OwnTexts_nil w).mono fun e w' ⟨v', a, _, b⟩ => ⟨v', a, b⟩
  · obtain ⟨rfl, rfl, rfl⟩ : p = some a ∧ ls.length = n ∧ cap = c := by simpa using e
    refine (OwnTexts_some w a cap ls h12 fun j u hj => ?_).mono fun e w' ⟨v', a, _, b⟩ => ⟨v', a, b⟩
    have hjl : j < ls.length := by simpa using (List.getElem?_eq_some_iff.1 hj).1
    obtain ⟨g, o, e1, hg, hcur⟩ := hin (by intro e; rw [e] at hjl; simp at hjl)
    obtain rfl := Option.some.inj e1
    rw [List.getElem?_map, List.getElem?_eq_getElem hjl] at hj
    simp only [Option.map_some, Option.some.injEq] at hj
    rw [← hj, add_at2]
    exact hcur j hjl
theorem OwnTexts_x {w : World} (v : Value) (ls : List (List UInt8)) (hrow : XRow w v ls) (h12 : ls.length ≤ 12) :
    Calls Tryd.prog 9 #[v] w fun e w' => ∃ v', e = .returned v' ∧ XRow w' v' ls ∧ TRow w' v' ls ∧ Below w.heap.size w w' := by
  have hx := hrow.irow
  have hv := hrow.shape
  obtain ⟨p, cap, rfl, hin⟩ := hx
  rcases hv with e | ⟨a, n, c, e⟩
  · obtain ⟨rfl, e2, rfl⟩ : p = none ∧ ls.length = 0 ∧ cap = 0 := by simpa using e
    obtain rfl := List.length_eq_zero_iff.1 e2
    exact OwnTexts_nil w
  · obtain ⟨rfl, rfl, rfl⟩ : p = some a ∧ ls.length = n ∧ cap = c := by simpa using e
    refine OwnTexts_some w a cap ls h12 fun j u hj => ?_
    have hjl : j < ls.length := by simpa using (List.getElem?_eq_some_iff.1 hj).1
    obtain ⟨g, o, e1, hg, hcur⟩ := hin (by intro e; rw [e] at hjl; simp at hjl)
    obtain rfl := Option.some.inj e1
    rw [List.getElem?_map, List.getElem?_eq_getElem hjl] at hj
    simp only [Option.map_some, Option.some.injEq] at hj
    rw [← hj, add_at2]
    exact hcur j hjl
end Go.Proofs.YthokjegephlpmaaDoor
