import Derived.Test.YtmhipgompplkdaaGreatDoorWL07
import Derived.Test.YtmhipgompplkdaaGreatDoorWL20
import Derived.Test.YtmhipgompplkdaaGreatDoorWL18
import Derived.Test.YtmhipgompplkdaaGreatDoorWL09
import Derived.Test.YtmhipgompplkdaaGreatDoorWL10
import Derived.Deep.AppendLies
import Derived.Test.YtmhipgompplkdaaGreatDoorWL30
namespace Go.Proofs.YtmhipgompplkdaaGreatDoor
open Go.RowKit Go.Shelf Go.Lib
set_option maxRecDepth 100000 in
set_option maxHeartbeats 4000000 in
theorem LongTexts_any {w : World} (v : Value) (ls : List (List UInt8)) (many most : Nat) (hmany : many ≤ 1000000) (hmost : most ≤ 1000000) (hrow : IRow w v ls) :
    Calls Tryz.prog 32 #[v, .int .i64 many, .int .i64 most] w fun e w' => ∃ r : Int, e = .returned (.int .i64 r) ∧ w' = w ∧ (r = 1 ∨ (r = 0 ∧ ls.length ≤ many ∧ ∀ x ∈ ls, x.length ≤ most)) := by
  obtain ⟨p, cap, rfl, hin⟩ := hrow
  have zM : (most : Int) ≤ 1000000 := by omega
  have zN : (many : Int) ≤ 1000000 := by omega
  have HI := hid1 hin
  clear hin
  by_cases h12 : ls.length ≤ many
  · have z12 : (ls.length : Int) ≤ (many : Int) := by omega
    go_enter Tryz.func32, Tryz.ntmps32
    go_wp2
    go_loopw [7, 8] (fun n i wr => ∃ k m : Nat, k ≤ ls.length ∧ m ≤ most ∧ n = .int .i64 m ∧ i = .int .i64 k ∧ (∀ j (hj : j < ls.length), j < k → ls[j].length ≤ most) ∧ w = wr) (fun _ i _ => ls.length - (intOf i).toNat)
    case atStart => exact ⟨0, 0, Nat.zero_le _, Nat.zero_le _, rfl, rfl, fun j hj h => by omega, rfl⟩
    case round =>
      obtain ⟨k, m, hk, hm, rfl, rfl, hall, rfl⟩ := hrel
      have HA := hid1 hall
      clear hall
      have c0 : (0 : Int) ≤ (k : Int) := by omega
      have zm : (m : Int) ≤ (most : Int) := by omega
      have q8 : IntKind.i64.wrap (k : Int) = (k : Int) := by rw [IntKind.wrap_i64]; omega
      by_cases hlt : k < ls.length
      · have c1 : (k : Int) < (ls.length : Int) := by omega
        obtain ⟨g, o, rfl, hg, hcur⟩ := HI.out (by intro e; rw [e] at hlt; simp at hlt)
        have hcell := hcur k hlt
        have HS : Hid (ls[k].length ≤ most → ∀ j (hj : j < ls.length), j < k + 1 → ls[j].length ≤ most) := by
          refine hid1 fun h j hj hjk => ?_
          by_cases e : j = k
          · subst e; exact h
          · exact HA.out j hj (by omega)
        clear hcur HI HA
        generalize ls[k] = y at *
        by_cases hy : y.length ≤ most
        · have zy : (y.length : Int) ≤ (most : Int) := by omega
          have HN := hid1 (HS.out hy)
          clear HS
          have q7 : IntKind.i64.wrap ((m : Int) + (y.length : Int)) = ((m + y.length : Nat) : Int) := by rw [IntKind.wrap_i64]; omega
          by_cases hs : m + y.length ≤ most
          · have zs : ((m + y.length : Nat) : Int) ≤ (most : Int) := by omega
            generalize hmy : m + y.length = m1 at *
            clear hmy
            go_wp2
            exact ⟨⟨k + 1, m1, by omega, hs, rfl, by go_num, HN.out, trivial⟩, by simp [intOf]; omega⟩
          · have zs : (most : Int) < ((m + y.length : Nat) : Int) := by omega
            generalize hmy : m + y.length = m1 at *
            clear hmy
            go_wp2
            go_ret
            exact ⟨1, rfl, rfl, .inl rfl⟩
        · have zy : (most : Int) < (y.length : Int) := by omega
          clear HS
          go_wp2
          go_ret
          exact ⟨1, rfl, rfl, .inl rfl⟩
      · obtain rfl : k = ls.length := by omega
        have c1 : ¬ (ls.length : Int) < (ls.length : Int) := by omega
        have HF : Hid (∀ x ∈ ls, x.length ≤ most) := by
          refine hid1 fun x hx => ?_
          obtain ⟨j, hj, rfl⟩ := List.getElem_of_mem hx
          exact HA.out j hj hj
        clear HI HA
        go_wp2
        go_ret
        exact ⟨0, rfl, rfl, .inr ⟨rfl, HF.out⟩⟩
  · have z12 : (many : Int) < (ls.length : Int) := by omega
    go_enter Tryz.func32, Tryz.ntmps32
    go_wp2
    go_ret
    exact ⟨1, rfl, rfl, .inl rfl⟩
set_option maxRecDepth 100000 in
set_option maxHeartbeats 4000000 in
theorem OwnTexts_nil (w : World) :
    Calls Tryz.prog 34 #[.slice none 0 0] w fun e w' => ∃ v', e = .returned v' ∧ XRow w' v' [] ∧ TRow w' v' [] ∧ Below w.heap.size w w' := by
  obtain ⟨i0, hi, hz0, hz1, hz2⟩ := info_parts Tryz.infoStr
  have n1 : World.ownsRow w w.heap.size 9 1 (.slice none 0 0) 0 [] := World.ownsRow_nil _ _ _ _
  go_enter Tryz.func34, Tryz.ntmps34
  go_wp2_with (first
    | (at_builtin; refine wpList_append_own_none rfl _ _ 45 rfl w.heap.size 9 i0 1 Tryz.underlying45 hi _ _ _ rfl n1 rfl ?_)
    | go_in)
  go_ret
  exact ⟨_, rfl, XRow.of_owns (l := []) n1, TRow.of_owns (l := []) n1, Below.refl _ _⟩
set_option maxRecDepth 100000 in
set_option maxHeartbeats 4000000 in
theorem OwnTexts_some (w : World) (a : Addr) (cap : Nat) (ls : List (List UInt8)) (hn : ls.length ≤ 12) (hsrc : ∀ j u, (ls.map sv)[j]? = some u → w.cell? (a.add j) = some u) :
    Calls Tryz.prog 34 #[.slice (some a) ls.length cap] w fun e w' => ∃ v', e = .returned v' ∧ XRow w' v' ls ∧ TRow w' v' ls ∧ Below w.heap.size w w' := by
  obtain ⟨i0, hi, hz0, hz1, hz2⟩ := info_parts Tryz.infoStr
  have n1 : World.ownsRow w w.heap.size 9 1 (.slice none 0 0) 0 [] := World.ownsRow_nil _ _ _ _
  go_enter Tryz.func34, Tryz.ntmps34
  go_wp2_with (first
    | (at_builtin; refine wpList_append_own _ rfl _ _ 45 rfl w.heap.size 9 i0 (.string ⟨#[]⟩) 1 16 Tryz.underlying45 hi hz0 hz1 hz2 rfl (by decide) _ _ _ rfl n1 a ls.length cap (ls.map sv) rfl (by simp) hsrc one_sv (by unfold maxLen; omega) (by omega) (Nat.le_refl _) ?_; intro v1 w1 hown1 hgrow1 _; have b1 := lay_b1 n1 hgrow1; clear hsrc n1 hgrow1)
    | go_in)
  go_ret
  exact ⟨_, rfl, XRow.of_owns hown1, TRow.of_owns hown1, b1⟩
theorem OwnTexts_x {w : World} (v : Value) (ls : List (List UInt8)) (hrow : XRow w v ls) (h12 : ls.length ≤ 12) :
    Calls Tryz.prog 34 #[v] w fun e w' => ∃ v', e = .returned v' ∧ XRow w' v' ls ∧ TRow w' v' ls ∧ Below w.heap.size w w' := by
  have hx := hrow.irow
  have hv := hrow.shape
  obtain ⟨p, cap, rfl, hin⟩ := hx
  rcases hv with e | ⟨a, n, c, e⟩
  · obtain ⟨rfl, e2, rfl⟩ : p = none ∧ ls.length = 0 ∧ cap = 0 := by simpa using e
    obtain rfl := List.length_eq_zero_iff.1 e2
    exact OwnTexts_nil w
  · obtain ⟨rfl, rfl, rfl⟩ : p = some a ∧ ls.length = n ∧ cap = c := by simpa using e
    refine OwnTexts_some w a cap ls h12 fun j u hj => ?_
    have hjl : j < ls.length := by simpa using (List.getElem?_eq_some_iff.1 hj).1
    obtain ⟨g, o, e1, hg, hcur⟩ := hin (by intro e; rw [e] at hjl; simp at hjl)
    obtain rfl := Option.some.inj e1
    rw [List.getElem?_map, List.getElem?_eq_getElem hjl] at hj
    simp only [Option.map_some, Option.some.injEq] at hj
    rw [← hj, add_at2]
    exact hcur j hjl
end Go.Proofs.YtmhipgompplkdaaGreatDoor
namespace Go.Proofs.YtmhipgompplkdaaGreatDoor
open Go.RowKit Go.Shelf Go.Lib
set_option maxRecDepth 100000 in
set_option maxHeartbeats 8000000 in
theorem LongRules_any {w : World} (v : Value) (l : List Ru) (many : Nat) (hmany : many ≤ 40) (hrow : RRow w v l) :
    Calls Tryz.prog 39 #[v, .int .i64 many] w fun e w' => ∃ r : Int, e = .returned (.int .i64 r) ∧ w' = w ∧ (r = 1 ∨ (r = 0 ∧ (l.length ≤ many ∨ l.length = 41) ∧ ∀ x ∈ l, x.Small)) := by
  obtain ⟨p, cap, rfl, hcap, hnn, hin⟩ := hrow
  have HI := hid1 hin
  clear hin hnn
  have zM : (many : Int) ≤ 40 := by omega
  by_cases hm : l.length ≤ many ∨ l.length = 41
  · have HM := hid1 hm
    have hm' : (l.length : Int) ≤ (many : Int) ∨ ((many : Int) < (l.length : Int) ∧ ((l.length : Int) != 41) = false) := by
      rcases hm with h | h
      · exact .inl (by omega)
      · exact .inr ⟨by omega, by simp [h]⟩
    have hl : l.length ≤ 41 := by omega
    have zl : (l.length : Int) ≤ 41 := by omega
    clear hm
    rcases hm' with hm' | ⟨hm', hm2⟩
    all_goals
      go_enter Tryz.func39, Tryz.ntmps39
      go_wp2
      go_loopw [5] (fun i wr => ∃ k : Nat, k ≤ l.length ∧ i = .int .i64 k ∧ (∀ j (hj : j < l.length), j < k → l[j].Small) ∧ w = wr) (fun i _ => l.length - (intOf i).toNat)
      case atStart => exact ⟨0, Nat.zero_le _, rfl, fun j hj h => by omega, rfl⟩
      case round =>
        obtain ⟨k, hk, rfl, hz, rfl⟩ := hrel
        have HZ := hid1 hz
        clear hz
        have c0 : (0 : Int) ≤ (k : Int) := by omega
        by_cases hlt : k < l.length
        · have c1 : (k : Int) < (l.length : Int) := by omega
          obtain ⟨g', o, rfl, hg, hcur⟩ := HI.out (by intro e; rw [e] at hlt; simp at hlt)
          obtain ⟨u0, u1, u2, u, u3, ux⟩ := hcur k hlt
          have HT := hid1 (LongTexts_any u l[k].ins 12 300 (by omega) (by omega) ux.irow)
          have HN : Hid (l[k].Small → ∀ j (hj : j < l.length), j < k + 1 → l[j].Small) := hid1 fun hs j hj hjk => by
            rcases Nat.lt_or_ge j k with h | h
            · exact HZ.out j hj h
            · obtain rfl : j = k := by omega
              exact hs
          have HU := hid1 ux
          clear hcur HI HZ ux
          generalize l[k] = y at *
          obtain ⟨p3, cap3, rfl, _⟩ := HU.out
          by_cases h1 : 100 < y.out.length
          · have z1 : (100 : Int) < (y.out.length : Int) := by omega
            clear HT HN
            go_wp2
            go_ret
            exact ⟨1, rfl, rfl, .inl rfl⟩
          by_cases h2 : 60 < y.kind.length
          · have z1 : (y.out.length : Int) ≤ (100 : Int) := by omega
            have z2 : (60 : Int) < (y.kind.length : Int) := by omega
            clear HT HN
            go_wp2
            go_ret
            exact ⟨1, rfl, rfl, .inl rfl⟩
          by_cases h3 : 150 < y.word.length
          · have z1 : (y.out.length : Int) ≤ (100 : Int) := by omega
            have z2 : (y.kind.length : Int) ≤ (60 : Int) := by omega
            have z3 : (150 : Int) < (y.word.length : Int) := by omega
            clear HT HN
            go_wp2
            go_ret
            exact ⟨1, rfl, rfl, .inl rfl⟩
          have z1 : (y.out.length : Int) ≤ (100 : Int) := by omega
          have z2 : (y.kind.length : Int) ≤ (60 : Int) := by omega
          have z3 : (y.word.length : Int) ≤ (150 : Int) := by omega
          go_wp2_with fail
          refine HT.out.mono ?_
          rintro e w1 ⟨r, rfl, rfl, rfl | ⟨rfl, hy1, hy2⟩⟩
          · clear HT HN
            go_wp2
            go_ret
            exact ⟨1, rfl, rfl, .inl rfl⟩
          · have HNN := hid1 (HN.out ⟨by omega, by omega, by omega, hy1, hy2⟩)
            clear HT HN hy2
            go_wp2
            exact ⟨⟨k + 1, by omega, by go_num, HNN.out, trivial⟩, by simp [intOf]; omega⟩
        · have c1 : (l.length : Int) ≤ (k : Int) := by omega
          have HN : Hid (∀ x ∈ l, x.Small) := hid1 fun x hx => by
            obtain ⟨j, hj, rfl⟩ := List.getElem_of_mem hx
            exact HZ.out j hj (by omega)
          clear HI HZ
          go_wp2
          go_ret
          exact ⟨0, rfl, rfl, .inr ⟨rfl, HM.out, HN.out⟩⟩
  · have z1 : (many : Int) < (l.length : Int) := by omega
    have z2 : ((l.length : Int) != 41) = true := by simp; omega
    clear hm HI
    go_enter Tryz.func39, Tryz.ntmps39
    go_wp2
    go_ret
    exact ⟨1, rfl, rfl, .inl rfl⟩
end Go.Proofs.YtmhipgompplkdaaGreatDoor
namespace Go.Proofs.YtmhipgompplkdaaGreatDoor
open Go.RowKit Go.Shelf Go.Lib
theorem Tryz.infoRule : (Tryz.prog.info? 90).map (fun i => (i.zero, i.size, i.bytes)) = some (some (.agg #[.string ⟨#[]⟩, .string ⟨#[]⟩, .string ⟨#[]⟩, .slice none 0 0]), 4, 72) := by kernel_rfl
theorem row_low4 {w : World} {base : Nat} {e : TypeId} {size : Nat} {v : Value} {n : Nat} {xs : List Value} (h : w.ownsRow base e size v n xs) : ∀ k, v.ownBlock = some k → base ≤ k := by
  intro k hk
  rcases h.2 with ⟨rfl, _⟩ | ⟨g, cap, cur, rfl, hb, _⟩
  · cases hk
  · cases hk; exact hb
def ruCells (l : List (Ru × Value)) : List Value := l.flatMap fun x => [.string (ba x.1.out), .string (ba x.1.kind), .string (ba x.1.word), x.2]
theorem ruCells_snoc (l : List (Ru × Value)) (x : Ru × Value) : ruCells (l ++ [x]) = ruCells l ++ [.string (ba x.1.out), .string (ba x.1.kind), .string (ba x.1.word), x.2] := by simp [ruCells]
theorem ruCells_at : ∀ (l : List (Ru × Value)) (j : Nat) (h : j < l.length), (ruCells l)[j * 4]? = some (.string (ba l[j].1.out)) ∧ (ruCells l)[j * 4 + 1]? = some (.string (ba l[j].1.kind)) ∧ (ruCells l)[j * 4 + 2]? = some (.string (ba l[j].1.word)) ∧ (ruCells l)[j * 4 + 3]? = some l[j].2
  | x :: r, 0, _ => by simp [ruCells]
  | x :: r, j + 1, h => by
    have ih := ruCells_at r j (by simpa using h)
    have e : ruCells (x :: r) = .string (ba x.1.out) :: .string (ba x.1.kind) :: .string (ba x.1.word) :: x.2 :: ruCells r := by simp [ruCells]
    rw [e, show (j + 1) * 4 = j * 4 + 1 + 1 + 1 + 1 by omega]
    simpa [Nat.add_assoc] using ih
def XT (w : World) (v : Value) (l : List (List UInt8)) : Prop := XRow w v l ∧ TRow w v l
theorem XT.below {w w' : World} {v : Value} {l : List (List UInt8)} (h : XT w v l) (hb : Below w.heap.size w w') : XT w' v l := ⟨h.1.below hb, h.2.below hb⟩
theorem XT.grown {w w1 : World} {v : Value} {l : List (List UInt8)} {base e : Nat} {size n : Nat} {u : Value} {xs : List Value} (h : XT w v l) (hrow : w.ownsRow base e size u n xs) (he : e ≠ 9) (hg : w.grownBy w1 u.ownBlock) : XT w1 v l := by
  obtain ⟨⟨p, cap, rfl, h0, hn, h1⟩, ⟨p2, cap2, e2, h02, h2⟩⟩ := h
  obtain ⟨rfl, rfl⟩ : p = p2 ∧ cap = cap2 := by simpa using e2
  have key : ∀ (g : Nat) (cur : Array Value), w.heap[g]? = some (Obj.cells cur 9 (0, 0)) → w1.heap[g]? = some (Obj.cells cur 9 (0, 0)) := fun g cur hgc => by
    refine (hg.block g (Array.getElem?_eq_some_iff.1 hgc).1 ?_).trans hgc
    rcases hrow.2 with ⟨rfl, _⟩ | ⟨b, c, cu, rfl, _, hb, _⟩
    · simp [Value.ownBlock]
    · simp only [Value.ownBlock, ne_eq, Option.some.injEq]
      rintro rfl
      rw [hgc] at hb
      simp at hb
      exact he hb.2.symm
  refine ⟨⟨p, cap, rfl, h0, hn, fun hl => ?_⟩, ⟨p, cap, rfl, h02, fun hl => ?_⟩⟩
  · obtain ⟨g, cur, rfl, hgc, hc⟩ := h2 hl
    have := key g cur hgc
    exact ⟨g, 0, rfl, (Array.getElem?_eq_some_iff.1 this).1, fun j hj => by rw [Nat.zero_add]; exact cell_of_row this (hc j hj)⟩
  · obtain ⟨g, cur, rfl, hgc, hc⟩ := h2 hl
    exact ⟨g, cur, rfl, key g cur hgc, hc⟩
theorem RRow.of_owns {w : World} {base : Nat} {v : Value} {l : List (Ru × Value)} {n : Nat} (h : w.ownsRow base 90 4 v n (ruCells l)) (hn : n = l.length) (hx : ∀ x ∈ l, XRow w x.2 x.1.ins) : RRow w v (l.map Prod.fst) := by
  subst hn
  rcases h.2 with ⟨rfl, hn⟩ | ⟨g, cap, cur, rfl, _, hb, h1, _, _, h4⟩
  · obtain rfl : l = [] := by simpa using hn
    exact RRow.nil w
  · refine ⟨some ⟨g, 0, none⟩, cap, by simp, by simpa using h1, fun h => (by cases h), fun _ => ⟨g, 0, rfl, (Array.getElem?_eq_some_iff.1 hb).1, fun j hj => ?_⟩⟩
    have hj' : j < l.length := by simpa using hj
    have key : ∀ i x, i < l.length * 4 → (ruCells l)[i]? = some x → w.cell? ⟨g, i, none⟩ = some x := fun i x hi hx => by
      have := congrArg (fun y => y[i]?) h4
      simp only [List.getElem?_take, hi, if_true, hx, Array.getElem?_toList] at this
      exact cell_of_row hb this
    obtain ⟨a0, a1, a2, a3⟩ := ruCells_at l j hj'
    rw [Nat.zero_add, List.getElem_map]
    exact ⟨key _ _ (by omega) a0, key _ _ (by omega) a1, key _ _ (by omega) a2, _, key _ _ (by omega) a3, hx _ (List.getElem_mem hj')⟩
theorem four_new (W : World) (x0 x1 x2 x3 : Value) (t : TypeId) (n : Nat) (hn : W.heap.size = n) (j : Nat) (u : Value) (h : [x0, x1, x2, x3][j]? = some u) : (W.alloc (.cells #[x0, x1, x2, x3] t)).cell? ((⟨n, 0, none⟩ : Addr).add j) = some u := by
  subst hn
  rw [add_at2, Nat.zero_add, World.cell?_alloc_at _ _ _ _ rfl]
  simpa using h
set_option maxRecDepth 100000 in
set_option maxHeartbeats 8000000 in
theorem OwnRules_calls {w : World} (v : Value) (l : List Ru) (hl : l.length ≤ 1000) (hrow : RRow w v l) (h12 : ∀ x ∈ l, x.ins.length ≤ 12) :
    Calls Tryz.prog 41 #[v] w fun e w' => ∃ v', e = .returned v' ∧ RRow w' v' l ∧ Below w.heap.size w w' := by
  obtain ⟨i0, hi, hz0, hz1, hz2⟩ := info_parts Tryz.infoRule
  obtain ⟨p, cap, rfl, hcap, hnn, hin⟩ := hrow
  have HI := hid1 hin
  have H12 := hid1 h12
  clear hin hnn h12
  have zl : (l.length : Int) ≤ 1000 := by omega
  have n1 : World.ownsRow w w.heap.size 90 4 (.slice none 0 0) 0 (ruCells []) := World.ownsRow_nil _ _ _ _
  go_enter Tryz.func41, Tryz.ntmps41
  go_wp2
  go_loopw [3, 4] (fun out i wr => ∃ dn : List (Ru × Value), dn.length ≤ l.length ∧ dn.map Prod.fst = l.take dn.length ∧ i = .int .i64 dn.length ∧ wr.ownsRow w.heap.size 90 4 out dn.length (ruCells dn) ∧ (∀ x ∈ dn, XT wr x.2 x.1.ins) ∧ Below w.heap.size w wr) (fun _ i _ => l.length - (intOf i).toNat)
  case atStart => exact ⟨[], by simp, by simp, rfl, n1, by simp, Below.refl _ _⟩
  case round =>
    obtain ⟨dn, hk, hdn, rfl, hown, hxt, hB⟩ := hrel
    have HD := hid1 hdn
    have HXT := hid1 hxt
    clear hdn hxt
    have c0 : (0 : Int) ≤ (dn.length : Int) := by omega
    by_cases hlt : dn.length < l.length
    · have c1 : (dn.length : Int) < (l.length : Int) := by omega
      obtain ⟨g', o, rfl, hg, hcur⟩ := HI.out (by intro e; rw [e] at hlt; simp at hlt)
      obtain ⟨a0, a1, a2, u, a3, ax⟩ := hcur dn.length hlt
      have d3 := cell_below' a3 hB
      have HO := hid1 (OwnTexts_x u l[dn.length].ins (ax.below hB) (H12.out _ (List.getElem_mem hlt)))
      have HU := hid1 ax
      have HDN : Hid (∀ y : Value, (dn ++ [(l[dn.length], y)]).map Prod.fst = l.take (dn.length + 1)) := hid1 fun y => by
        rw [List.map_append, HD.out, List.take_succ_eq_append_getElem hlt]
        rfl
      clear hcur HI HD ax
      generalize l[dn.length] = y at *
      obtain ⟨p3, cap3, rfl, -⟩ := HU.out
      go_wp2_with fail
      refine HO.out.mono ?_
      rintro e w1 ⟨v1, rfl, hx1, ht1, hb1⟩
      have HXT1 : Hid (∀ x ∈ dn, XT w1 x.2 x.1.ins) := hid1 fun x hx => (HXT.out x hx).below hb1
      have HX1 : Hid (XT w1 v1 y.ins) := hid1 ⟨hx1, ht1⟩
      have hB1 := below_then hB hb1
      have hown1 : w1.ownsRow w.heap.size 90 4 u3 dn.length (ruCells dn) := hown.kept (row := none) ⟨hb1.os, hb1.tape, hb1.output, hb1.size, fun k hk _ => hb1.block k hk⟩ (by cases u3.ownBlock <;> simp)
      have d0 := cell_below' a0 hB1
      have d1 := cell_below' a1 hB1
      have d2 := cell_below' a2 hB1
      obtain ⟨p4, cap4, rfl, -⟩ := hx1
      clear hown HXT HO ht1 d3 a0 a1 a2 a3 hb1 hB
      have hownd : w1.drew.ownsRow w.heap.size 90 4 u3 dn.length (ruCells dn) := hown1
      have hsz := hB1.size
      go_wp2
      go_region_law (refine step_append_lies _ rfl (.tmp 18) (.tmp 36) 66 rfl w.heap.size 90 i0 (.agg #[.string ⟨#[]⟩, .string ⟨#[]⟩, .string ⟨#[]⟩, .slice none 0 0]) 4 72 Tryz.underlying66 hi hz0 hz1 hz2 rfl (by decide) _ _ _ rfl (hownd.alloc _) ⟨w1.heap.size, 0, none⟩ 1 1 [.string (ba y.out), .string (ba y.kind), .string (ba y.word), .slice p4 y.ins.length cap4] rfl rfl (four_new _ _ _ _ _ _ _ (by simp)) (by simp [Value.oneCell']) (by decide) (by unfold maxLen; omega) (by omega) (by simp; omega) _ rfl ?_; intro g cap5 w2 hown2 hgrow0 hat hlt1; (have hgrow : (w1.alloc (Obj.cells #[Value.string (ba y.out), Value.string (ba y.kind), Value.string (ba y.word), Value.slice p4 y.ins.length cap4] 90)).drew.grownBy w2 u3.ownBlock := hgrow0); clear hgrow0 hat hlt1)
      all_goals
        go_wp2
        refine ⟨⟨dn ++ [(y, .slice p4 y.ins.length cap4)], ?_, ?_, by simp, ?_, ?_, ?_⟩, ?_⟩
        rotate_right
        · simp [intOf]; try omega
        · simp; try omega
        · have := HDN.out (.slice p4 y.ins.length cap4)
          simpa using this
        · rw [ruCells_snoc]
          simpa using hown2
        · intro x hx
          have hXd : ∀ (v : Value) (ls : List (List UInt8)), XT w1 v ls → XT w2 v ls := fun v ls h => by
            have hb2 : Below w1.heap.size w1 (w1.alloc (Obj.cells #[Value.string (ba y.out), Value.string (ba y.kind), Value.string (ba y.word), Value.slice p4 y.ins.length cap4] 90)).drew := ((Below.refl _ w1).alloc (Nat.le_refl _) _).drew
            exact (h.below hb2).grown (hownd.alloc _) (by decide) hgrow
          rcases List.mem_append.1 hx with h | h
          · exact hXd _ _ (HXT1.out x h)
          · obtain rfl := List.mem_singleton.1 h
            exact hXd _ _ HX1.out
        · exact ((hB1.alloc hsz _).drew).grown hgrow (by simp; omega) (row_low4 hownd)
    · have c1 : (l.length : Int) ≤ (dn.length : Int) := by omega
      have HN : Hid (RRow wr u3 l) := hid1 (by
        have := RRow.of_owns hown rfl (fun x hx => (HXT.out x hx).1)
        rwa [HD.out, List.take_of_length_le (by omega)] at this)
      clear HI HD
      go_wp2
      go_ret
      exact ⟨_, rfl, HN.out, hB⟩
end Go.Proofs.YtmhipgompplkdaaGreatDoor
namespace Go.Proofs.YtmhipgompplkdaaGreatDoor
open Go.RowKit Go.Shelf Go.Lib Go.Maps
def Inp.get (st : Nat → Bf.St) : Inp → Option (List UInt8)
  | .rule k => some (st k).out
  | .file b => some b
  | .gone => none
end Go.Proofs.YtmhipgompplkdaaGreatDoor
