import Derived.Test.YtbgkfmodbofalaaGreatDoorPL19
import Derived.Test.YtbgkfmodbofalaaGreatDoorPL36
import Derived.Deep.AppendLies
import Derived.Test.YtbgkfmodbofalaaGreatDoorPL20
import Derived.Test.YtbgkfmodbofalaaGreatDoorPL16
import Derived.Test.YtbgkfmodbofalaaGreatDoorPL32
import Derived.Test.YtbgkfmodbofalaaGreatDoorPL18
import Derived.Test.YtbgkfmodbofalaaGreatDoorPL22
import Derived.Test.YtbgkfmodbofalaaGreatDoorPL24
import Derived.Deep.RegionHeld3
import Derived.Test.YtbgkfmodbofalaaGreatDoorPL38
import Derived.Test.YtbgkfmodbofalaaGreatDoorPL27
import Derived.Test.YtbgkfmodbofalaaGreatDoorPL21
import Derived.Test.YtbgkfmodbofalaaGreatDoorPL09
import Derived.Test.YtbgkfmodbofalaaGreatDoorPL35
namespace Go.Proofs.YtbgkfmodbofalaaGreatDoor
open Go.RowKit Go.Shelf Go.Lib
set_option maxRecDepth 100000 in
set_option maxHeartbeats 8000000 in
theorem LongRules_any {w : World} (v : Value) (l : List Ru) (many : Nat) (hmany : many ≤ 40) (hrow : RRow w v l) :
    Calls Tryz.prog 41 #[v, .int .i64 many] w fun e w' => ∃ r : Int, e = .returned (.int .i64 r) ∧ w' = w ∧ (r = 1 ∨ (r = 0 ∧ (l.length ≤ many ∨ l.length = 41) ∧ ∀ x ∈ l, x.Small)) := by
  obtain ⟨p, cap, rfl, hcap, hnn, hin⟩ := hrow
  have HI := hid1 hin
  clear hin hnn
  have zM : (many : Int) ≤ 40 := by omega
  by_cases hm : l.length ≤ many ∨ l.length = 41
  · have HM := hid1 hm
    have hm' : (l.length : Int) ≤ (many : Int) ∨ ((many : Int) < (l.length : Int) ∧ ((l.length : Int) != 41) = false) := by
      rcases hm with h | h
      · exact .inl (by omega)
      · exact .inr ⟨by omega, by simp [h]⟩
    have hl : l.length ≤ 41 := by omega
    have zl : (l.length : Int) ≤ 41 := by omega
    clear hm
    rcases hm' with hm' | ⟨hm', hm2⟩
    all_goals
      go_enter Tryz.func41, Tryz.ntmps41
      go_wp2
      go_loopw [5] (fun i wr => ∃ k : Nat, k ≤ l.length ∧ i = .int .i64 k ∧ (∀ j (hj : j < l.length), j < k → l[j].Small) ∧ w = wr) (fun i _ => l.length - (intOf i).toNat)
      case atStart => exact ⟨0, Nat.zero_le _, rfl, fun j hj h => by omega, rfl⟩
      case round =>
        obtain ⟨k, hk, rfl, hz, rfl⟩ := hrel
        have HZ := hid1 hz
        clear hz
        have c0 : (0 : Int) ≤ (k : Int) := by omega
        by_cases hlt : k < l.length
        · have c1 : (k : Int) < (l.length : Int) := by omega
          obtain ⟨g', o, rfl, hg, hcur⟩ := HI.out (by intro e; rw [e] at hlt; simp at hlt)
          obtain ⟨u0, u1, u2, u, u3, ux⟩ := hcur k hlt
          have HT := hid1 (LongTexts_any u l[k].ins 12 300 (by omega) (by omega) ux.irow)
          have HN : Hid (l[k].Small → ∀ j (hj : j < l.length), j < k + 1 → l[j].Small) := hid1 fun hs j hj hjk => by
            rcases Nat.lt_or_ge j k with h | h
            · exact HZ.out j hj h
            · obtain rfl : j = k := by omega
              exact hs
          have HU := hid1 ux
          clear hcur HI HZ ux
          generalize l[k] = y at *
          obtain ⟨p3, cap3, rfl, _⟩ := HU.out
          by_cases h1 : 100 < y.out.length
          · have z1 : (100 : Int) < (y.out.length : Int) := by omega
            clear HT HN
            go_wp2
            go_ret
            exact ⟨1, rfl, rfl, .inl rfl⟩
          by_cases h2 : 60 < y.kind.length
          · have z1 : (y.out.length : Int) ≤ (100 : Int) := by omega
            have z2 : (60 : Int) < (y.kind.length : Int) := by omega
            clear HT HN
            go_wp2
            go_ret
            exact ⟨1, rfl, rfl, .inl rfl⟩
          by_cases h3 : 150 < y.word.length
          · have z1 : (y.out.length : Int) ≤ (100 : Int) := by omega
            have z2 : (y.kind.length : Int) ≤ (60 : Int) := by omega
            have z3 : (150 : Int) < (y.word.length : Int) := by omega
            clear HT HN
            go_wp2
            go_ret
            exact ⟨1, rfl, rfl, .inl rfl⟩
          have z1 : (y.out.length : Int) ≤ (100 : Int) := by omega
          have z2 : (y.kind.length : Int) ≤ (60 : Int) := by omega
          have z3 : (y.word.length : Int) ≤ (150 : Int) := by omega
          go_wp2_with fail
          refine HT.out.mono ?_
          rintro e w1 ⟨r, rfl, rfl, rfl | ⟨rfl, hy1, hy2⟩⟩
          · clear HT HN
            go_wp2
            go_ret
            exact ⟨1, rfl, rfl, .inl rfl⟩
          · have HNN := hid1 (HN.out ⟨by omega, by omega, by omega, hy1, hy2⟩)
            clear HT HN hy2
            go_wp2
            exact ⟨⟨k + 1, by omega, by go_num, HNN.out, trivial⟩, by simp [intOf]; omega⟩
        · have c1 : (l.length : Int) ≤ (k : Int) := by omega
          have HN : Hid (∀ x ∈ l, x.Small) := hid1 fun x hx => by
            obtain ⟨j, hj, rfl⟩ := List.getElem_of_mem hx
            exact HZ.out j hj (by omega)
          clear HI HZ
          go_wp2
          go_ret
          exact ⟨0, rfl, rfl, .inr ⟨rfl, HM.out, HN.out⟩⟩
  · have z1 : (many : Int) < (l.length : Int) := by omega
    have z2 : ((l.length : Int) != 41) = true := by simp; omega
    clear hm HI
    go_enter Tryz.func41, Tryz.ntmps41
    go_wp2
    go_ret
    exact ⟨1, rfl, rfl, .inl rfl⟩
end Go.Proofs.YtbgkfmodbofalaaGreatDoor
namespace Go.Proofs.YtbgkfmodbofalaaGreatDoor
open Go.RowKit Go.Shelf Go.Lib
theorem Tryz.infoRule : (Tryz.prog.info? 90).map (fun i => (i.zero, i.size, i.bytes)) = some (some (.agg #[.string ⟨#[]⟩, .string ⟨#[]⟩, .string ⟨#[]⟩, .slice none 0 0]), 4, 72) := by kernel_rfl
theorem row_low4 {w : World} {base : Nat} {e : TypeId} {size : Nat} {v : Value} {n : Nat} {xs : List Value} (h : w.ownsRow base e size v n xs) : ∀ k, v.ownBlock = some k → base ≤ k := by
  intro k hk
  rcases h.2 with ⟨rfl, _⟩ | ⟨g, cap, cur, rfl, hb, _⟩
  · cases hk
  · cases hk; exact hb
def ruCells (l : List (Ru × Value)) : List Value := l.flatMap fun x => [.string (ba x.1.out), .string (ba x.1.kind), .string (ba x.1.word), x.2]
theorem ruCells_snoc (l : List (Ru × Value)) (x : Ru × Value) : ruCells (l ++ [x]) = ruCells l ++ [.string (ba x.1.out), .string (ba x.1.kind), .string (ba x.1.word), x.2] := by simp [ruCells]
theorem ruCells_at : ∀ (l : List (Ru × Value)) (j : Nat) (h : j < l.length), (ruCells l)[j * 4]? = some (.string (ba l[j].1.out)) ∧ (ruCells l)[j * 4 + 1]? = some (.string (ba l[j].1.kind)) ∧ (ruCells l)[j * 4 + 2]? = some (.string (ba l[j].1.word)) ∧ (ruCells l)[j * 4 + 3]? = some l[j].2
  | x :: r, 0, _ => by simp [ruCells]
  | x :: r, j + 1, h => by
    have ih := ruCells_at r j (by simpa using h)
    have e : ruCells (x :: r) = .string (ba x.1.out) :: .string (ba x.1.kind) :: .string (ba x.1.word) :: x.2 :: ruCells r := by simp [ruCells]
    rw [e, show (j + 1) * 4 = j * 4 + 1 + 1 + 1 + 1 by omega]
    simpa [Nat.add_assoc] using ih
def XT (w : World) (v : Value) (l : List (List UInt8)) : Prop := XRow w v l ∧ TRow w v l
theorem XT.below {w w' : World} {v : Value} {l : List (List UInt8)} (h : XT w v l) (hb : Below w.heap.size w w') : XT w' v l := ⟨h.1.below hb, h.2.below hb⟩
theorem XT.grown {w w1 : World} {v : Value} {l : List (List UInt8)} {base e : Nat} {size n : Nat} {u : Value} {xs : List Value} (h : XT w v l) (hrow : w.ownsRow base e size u n xs) (he : e ≠ 9) (hg : w.grownBy w1 u.ownBlock) : XT w1 v l := by
  obtain ⟨⟨p, cap, rfl, h0, hn, h1⟩, ⟨p2, cap2, e2, h02, h2⟩⟩ := h
  obtain ⟨rfl, rfl⟩ : p = p2 ∧ cap = cap2 := by simpa using e2
  have key : ∀ (g : Nat) (cur : Array Value), w.heap[g]? = some (Obj.cells cur 9 (0, 0)) → w1.heap[g]? = some (Obj.cells cur 9 (0, 0)) := fun g cur hgc => by
    refine (hg.block g (Array.getElem?_eq_some_iff.1 hgc).1 ?_).trans hgc
    rcases hrow.2 with ⟨rfl, _⟩ | ⟨b, c, cu, rfl, _, hb, _⟩
    · simp [Value.ownBlock]
    · simp only [Value.ownBlock, ne_eq, Option.some.injEq]
      rintro rfl
      rw [hgc] at hb
      simp at hb
      exact he hb.2.symm
  refine ⟨⟨p, cap, rfl, h0, hn, fun hl => ?_⟩, ⟨p, cap, rfl, h02, fun hl => ?_⟩⟩
  · obtain ⟨g, cur, rfl, hgc, hc⟩ := h2 hl
    have := key g cur hgc
    exact ⟨g, 0, rfl, (Array.getElem?_eq_some_iff.1 this).1, fun j hj => by rw [Nat.zero_add]; exact cell_of_row this (hc j hj)⟩
  · obtain ⟨g, cur, rfl, hgc, hc⟩ := h2 hl
    exact ⟨g, cur, rfl, key g cur hgc, hc⟩
theorem RRow.of_owns {w : World} {base : Nat} {v : Value} {l : List (Ru × Value)} {n : Nat} (h : w.ownsRow base 90 4 v n (ruCells l)) (hn : n = l.length) (hx : ∀ x ∈ l, XRow w x.2 x.1.ins) : RRow w v (l.map Prod.fst) := by
  subst hn
  rcases h.2 with ⟨rfl, hn⟩ | ⟨g, cap, cur, rfl, _, hb, h1, _, _, h4⟩
  · obtain rfl : l = [] := by simpa using hn
    exact RRow.nil w
  · refine ⟨some ⟨g, 0, none⟩, cap, by simp, by simpa using h1, fun h => (by cases h), fun _ => ⟨g, 0, rfl, (Array.getElem?_eq_some_iff.1 hb).1, fun j hj => ?_⟩⟩
    have hj' : j < l.length := by simpa using hj
    have key : ∀ i x, i < l.length * 4 → (ruCells l)[i]? = some x → w.cell? ⟨g, i, none⟩ = some x := fun i x hi hx => by
      have := congrArg (fun y => y[i]?) h4
      simp only [List.getElem?_take, hi, if_true, hx, Array.getElem?_toList] at this
      exact cell_of_row hb this
    obtain ⟨a0, a1, a2, a3⟩ := ruCells_at l j hj'
    rw [Nat.zero_add, List.getElem_map]
    exact ⟨key _ _ (by omega) a0, key _ _ (by omega) a1, key _ _ (by omega) a2, _, key _ _ (by omega) a3, hx _ (List.getElem_mem hj')⟩
theorem four_new (W : World) (x0 x1 x2 x3 : Value) (t : TypeId) (n : Nat) (hn : W.heap.size = n) (j : Nat) (u : Value) (h : [x0, x1, x2, x3][j]? = some u) : (W.alloc (.cells #[x0, x1, x2, x3] t)).cell? ((⟨n, 0, none⟩ : Addr).add j) = some u := by
  subst hn
  rw [add_at2, Nat.zero_add, World.cell?_alloc_at _ _ _ _ rfl]
  simpa using h
set_option maxRecDepth 100000 in
set_option maxHeartbeats 8000000 in
theorem OwnRules_calls {w : World} (v : Value) (l : List Ru) (hl : l.length ≤ 1000) (hrow : RRow w v l) (h12 : ∀ x ∈ l, x.ins.length ≤ 12) :
    Calls Tryz.prog 43 #[v] w fun e w' => ∃ v', e = .returned v' ∧ RRow w' v' l ∧ Below w.heap.size w w' := by
  obtain ⟨i0, hi, hz0, hz1, hz2⟩ := info_parts Tryz.infoRule
  obtain ⟨p, cap, rfl, hcap, hnn, hin⟩ := hrow
  have HI := hid1 hin
  have H12 := hid1 h12
  clear hin hnn h12
  have zl : (l.length : Int) ≤ 1000 := by omega
  have n1 : World.ownsRow w w.heap.size 90 4 (.slice none 0 0) 0 (ruCells []) := World.ownsRow_nil _ _ _ _
  go_enter Tryz.func43, Tryz.ntmps43
  go_wp2
  go_loopw [3, 4] (fun out i wr => ∃ dn : List (Ru × Value), dn.length ≤ l.length ∧ dn.map Prod.fst = l.take dn.length ∧ i = .int .i64 dn.length ∧ wr.ownsRow w.heap.size 90 4 out dn.length (ruCells dn) ∧ (∀ x ∈ dn, XT wr x.2 x.1.ins) ∧ Below w.heap.size w wr) (fun _ i _ => l.length - (intOf i).toNat)
  case atStart => exact ⟨[], by simp, by simp, rfl, n1, by simp, Below.refl _ _⟩
  case round =>
    obtain ⟨dn, hk, hdn, rfl, hown, hxt, hB⟩ := hrel
    have HD := hid1 hdn
    have HXT := hid1 hxt
    clear hdn hxt
    have c0 : (0 : Int) ≤ (dn.length : Int) := by omega
    by_cases hlt : dn.length < l.length
    · have c1 : (dn.length : Int) < (l.length : Int) := by omega
      obtain ⟨g', o, rfl, hg, hcur⟩ := HI.out (by intro e; rw [e] at hlt; simp at hlt)
      obtain ⟨a0, a1, a2, u, a3, ax⟩ := hcur dn.length hlt
      have d3 := cell_below' a3 hB
      have HO := hid1 (OwnTexts_x u l[dn.length].ins (ax.below hB) (H12.out _ (List.getElem_mem hlt)))
      have HU := hid1 ax
      have HDN : Hid (∀ y : Value, (dn ++ [(l[dn.length], y)]).map Prod.fst = l.take (dn.length + 1)) := hid1 fun y => by
        rw [List.map_append, HD.out, List.take_succ_eq_append_getElem hlt]
        rfl
      clear hcur HI HD ax
      generalize l[dn.length] = y at *
      obtain ⟨p3, cap3, rfl, -⟩ := HU.out
      go_wp2_with fail
      refine HO.out.mono ?_
      rintro e w1 ⟨v1, rfl, hx1, ht1, hb1⟩
      have HXT1 : Hid (∀ x ∈ dn, XT w1 x.2 x.1.ins) := hid1 fun x hx => (HXT.out x hx).below hb1
      have HX1 : Hid (XT w1 v1 y.ins) := hid1 ⟨hx1, ht1⟩
      have hB1 := below_then hB hb1
      have hown1 : w1.ownsRow w.heap.size 90 4 u3 dn.length (ruCells dn) := hown.kept (row := none) ⟨hb1.os, hb1.tape, hb1.output, hb1.size, fun k hk _ => hb1.block k hk⟩ (by cases u3.ownBlock <;> simp)
      have d0 := cell_below' a0 hB1
      have d1 := cell_below' a1 hB1
      have d2 := cell_below' a2 hB1
      obtain ⟨p4, cap4, rfl, -⟩ := hx1
      clear hown HXT HO ht1 d3 a0 a1 a2 a3 hb1 hB
      have hownd : w1.drew.ownsRow w.heap.size 90 4 u3 dn.length (ruCells dn) := hown1
      have hsz := hB1.size
      go_wp2
      go_region_law (refine step_append_lies _ rfl (.tmp 18) (.tmp 36) 66 rfl w.heap.size 90 i0 (.agg #[.string ⟨#[]⟩, .string ⟨#[]⟩, .string ⟨#[]⟩, .slice none 0 0]) 4 72 Tryz.underlying66 hi hz0 hz1 hz2 rfl (by decide) _ _ _ rfl (hownd.alloc _) ⟨w1.heap.size, 0, none⟩ 1 1 [.string (ba y.out), .string (ba y.kind), .string (ba y.word), .slice p4 y.ins.length cap4] rfl rfl (four_new _ _ _ _ _ _ _ (by simp)) (by simp [Value.oneCell']) (by decide) (by unfold maxLen; omega) (by omega) (by simp; omega) _ rfl ?_; intro g cap5 w2 hown2 hgrow0 hat hlt1; (have hgrow : (w1.alloc (Obj.cells #[Value.string (ba y.out), Value.string (ba y.kind), Value.string (ba y.word), Value.slice p4 y.ins.length cap4] 90)).drew.grownBy w2 u3.ownBlock := hgrow0); clear hgrow0 hat hlt1)
      all_goals
        go_wp2
        refine ⟨⟨dn ++ [(y, .slice p4 y.ins.length cap4)], ?_, ?_, by simp, ?_, ?_, ?_⟩, ?_⟩
        rotate_right
        · simp [intOf]; try omega
        · simp; try omega
        · have := HDN.out (.slice p4 y.ins.length cap4)
          simpa using this
        · rw [ruCells_snoc]
          simpa using hown2
        · intro x hx
          have hXd : ∀ (v : Value) (ls : List (List UInt8)), XT w1 v ls → XT w2 v ls := fun v ls h => by
            have hb2 : Below w1.heap.size w1 (w1.alloc (Obj.cells #[Value.string (ba y.out), Value.string (ba y.kind), Value.string (ba y.word), Value.slice p4 y.ins.length cap4] 90)).drew := ((Below.refl _ w1).alloc (Nat.le_refl _) _).drew
            exact (h.below hb2).grown (hownd.alloc _) (by decide) hgrow
          rcases List.mem_append.1 hx with h | h
          · exact hXd _ _ (HXT1.out x h)
          · obtain rfl := List.mem_singleton.1 h
            exact hXd _ _ HX1.out
        · exact ((hB1.alloc hsz _).drew).grown hgrow (by simp; omega) (row_low4 hownd)
    · have c1 : (l.length : Int) ≤ (dn.length : Int) := by omega
      have HN : Hid (RRow wr u3 l) := hid1 (by
        have := RRow.of_owns hown rfl (fun x hx => (HXT.out x hx).1)
        rwa [HD.out, List.take_of_length_le (by omega)] at this)
      clear HI HD
      go_wp2
      go_ret
      exact ⟨_, rfl, HN.out, hB⟩
end Go.Proofs.YtbgkfmodbofalaaGreatDoor
namespace Go.Proofs.YtbgkfmodbofalaaGreatDoor
open Go.RowKit Go.Shelf Go.Lib
theorem compact_upto {zs : List (List UInt8)} (hs : zs.Pairwise (fun x y => x ≤ y)) : ∀ m, m ≤ zs.length → (compactUpTo zs.toArray m).Pairwise (fun x y => x ≤ y) ∧ (compactUpTo zs.toArray m).Nodup ∧ ∀ x, x ∈ compactUpTo zs.toArray m ↔ x ∈ zs.take m
  | 0, _ => by simp [compactUpTo]
  | m + 1, h => by
    obtain ⟨h1, h2, h3⟩ := compact_upto hs m (by omega)
    have hm : m < zs.length := by omega
    have em : zs.toArray[m]! = zs[m] := by simp [hm]
    have hsd := List.pairwise_iff_getElem.1 hs
    rw [Af.compact_succ, List.take_succ_eq_append_getElem hm]
    by_cases hk : keeps zs.toArray m = true
    · rw [if_pos hk, em]
      have hnew : zs[m] ∉ zs.take m := by
        intro hmem
        obtain ⟨j, hj, ej⟩ := List.getElem_of_mem hmem
        rw [List.getElem_take] at ej
        have hjm : j < m := by simp at hj; omega
        unfold keeps at hk
        have hk' : m = 0 ∨ zs.toArray[m]! ≠ zs.toArray[m - 1]! := by simpa using hk
        rcases hk' with h0 | h0
        · omega
        · rw [em, show zs.toArray[m - 1]! = zs[m - 1] by simp [show m - 1 < zs.length by omega]] at h0
          refine h0 (List.le_antisymm ?_ (hsd (m - 1) m (by omega) hm (by omega)))
          rw [← ej]
          by_cases e : j = m - 1
          · subst e; exact List.le_refl _
          · exact hsd j (m - 1) (by omega) (by omega) (by omega)
      refine ⟨?_, ?_, fun x => ?_⟩
      · rw [List.pairwise_append]
        refine ⟨h1, by simp, fun a ha b hb => ?_⟩
        rw [List.mem_singleton.1 hb]
        obtain ⟨j, hj, ej⟩ := List.getElem_of_mem ((h3 a).1 ha)
        rw [List.getElem_take] at ej
        rw [← ej]
        exact hsd j m (by simp at hj; omega) hm (by simp at hj; omega)
      · rw [List.nodup_append]
        refine ⟨h2, by simp, fun a ha b hb => ?_⟩
        rw [List.mem_singleton.1 hb]
        rintro rfl
        exact hnew ((h3 _).1 ha)
      · rw [List.mem_append, List.mem_append, h3]
    · rw [if_neg hk, List.append_nil]
      refine ⟨h1, h2, fun x => ?_⟩
      have hk' : ¬ (m = 0 ∨ zs.toArray[m]! ≠ zs.toArray[m - 1]!) := by
        unfold keeps at hk
        simpa using hk
      have h0 : m ≠ 0 := fun e => hk' (.inl e)
      have hq : zs.toArray[m]! = zs.toArray[m - 1]! := Classical.byContradiction fun e => hk' (.inr e)
      rw [em, show zs.toArray[m - 1]! = zs[m - 1] by simp [show m - 1 < zs.length by omega]] at hq
      rw [h3, List.mem_append, List.mem_singleton]
      constructor
      · exact .inl
      · rintro (h4 | rfl)
        · exact h4
        · rw [hq]
          exact List.mem_take_iff_getElem.2 ⟨m - 1, by omega, rfl⟩
theorem compact_sorted {zs : List (List UInt8)} (hs : zs.Pairwise (fun x y => x ≤ y)) : (Lib.compact zs).Pairwise (fun x y => x ≤ y) ∧ (Lib.compact zs).Nodup ∧ ∀ x, x ∈ Lib.compact zs ↔ x ∈ zs := by
  have := compact_upto hs zs.length (Nat.le_refl _)
  rwa [List.take_length] at this
structure LeafU (l : List Ru) (i k : Nat) (r : List (List UInt8)) : Prop where
  mem : ∀ x, x ∈ r ↔ ((∃ y ∈ l.take i, x ∈ y.ins) ∨ ∃ y, l[i]? = some y ∧ x ∈ y.ins.take k) ∧ ∀ z ∈ l, z.out ≠ x
  few : r.length ≤ i * 12 + k
theorem LeafU.first (l : List Ru) : LeafU l 0 0 [] := ⟨fun x => by simp, by simp⟩
theorem LeafU.made {l : List Ru} {i k : Nat} {r : List (List UInt8)} (hi : i < l.length) (hk : k < l[i].ins.length) (h : LeafU l i k r) (hs : ∃ z ∈ l, z.out = l[i].ins[k]) : LeafU l i (k + 1) r := by
  refine ⟨fun x => ?_, by have := h.few; omega⟩
  rw [h.mem, List.getElem?_eq_getElem hi]
  simp only [Option.some.injEq]
  constructor
  · rintro ⟨h1, h2⟩
    refine ⟨?_, h2⟩
    rcases h1 with h1 | ⟨y, rfl, hx⟩
    · exact .inl h1
    · exact .inr ⟨_, rfl, (List.take_sublist_take_left (Nat.le_succ k)).subset hx⟩
  · rintro ⟨h1, h2⟩
    rcases h1 with h1 | ⟨y, rfl, hx⟩
    · exact ⟨.inl h1, h2⟩
    · rw [List.take_succ_eq_append_getElem hk, List.mem_append, List.mem_singleton] at hx
      rcases hx with hx | rfl
      · exact ⟨.inr ⟨_, rfl, hx⟩, h2⟩
      · obtain ⟨z, hz, e⟩ := hs
        exact absurd e (h2 z hz)
theorem LeafU.more {l : List Ru} {i k : Nat} {r : List (List UInt8)} (hi : i < l.length) (hk : k < l[i].ins.length) (h : LeafU l i k r) (hm : ∀ z ∈ l, z.out ≠ l[i].ins[k]) : LeafU l i (k + 1) (r ++ [l[i].ins[k]]) := by
  refine ⟨fun x => ?_, by rw [List.length_append, List.length_singleton]; have := h.few; omega⟩
  rw [List.mem_append, List.mem_singleton, h.mem, List.getElem?_eq_getElem hi]
  simp only [Option.some.injEq]
  constructor
  · rintro (⟨h1, h2⟩ | rfl)
    · refine ⟨?_, h2⟩
      rcases h1 with h1 | ⟨y, rfl, hx⟩
      · exact .inl h1
      · exact .inr ⟨_, rfl, (List.take_sublist_take_left (Nat.le_succ k)).subset hx⟩
    · exact ⟨.inr ⟨_, rfl, by rw [List.take_succ_eq_append_getElem hk]; exact List.mem_append_right _ (List.mem_singleton.2 rfl)⟩, hm⟩
  · rintro ⟨h1, h2⟩
    rcases h1 with h1 | ⟨y, rfl, hx⟩
    · exact .inl ⟨.inl h1, h2⟩
    · rw [List.take_succ_eq_append_getElem hk, List.mem_append, List.mem_singleton] at hx
      rcases hx with hx | rfl
      · exact .inl ⟨.inr ⟨_, rfl, hx⟩, h2⟩
      · exact .inr rfl
theorem LeafU.done {l : List Ru} {r : List (List UInt8)} (h : LeafU l l.length 0 r) : Ru.Leaves l (Lib.compact (Af.srt r)) := by
  obtain ⟨h1, h2, h3⟩ := compact_sorted (Af.srt_sorted r)
  refine ⟨h1, h2, fun x => ?_⟩
  rw [h3, (Af.srt_perm r).mem_iff, h.mem, List.take_length]
  unfold Ru.Leaf
  simp
end Go.Proofs.YtbgkfmodbofalaaGreatDoor
namespace Go.Proofs.YtbgkfmodbofalaaGreatDoor
open Go.RowKit Go.Shelf Go.Lib Go.Maps
theorem want_err {fs : Tf.Fs} {l : List Ru} {x : List UInt8} (h : (Bf.want Af.actO fs l x).2 ≠ 0) : (Bf.want Af.actO fs l x).1 = [] := by
  unfold Bf.want Bf.wantF at h ⊢
  split
  · rename_i i hm
    simp only [hm] at h
    unfold Bf.wrule at h ⊢
    split
    · rename_i h0
      rw [if_pos h0] at h
      unfold Af.actO at h ⊢
      split
      · rename_i h1
        rw [if_pos h1] at h
        split
        · rename_i k hk
          simp only [hk] at h
          split
          · rfl
          · rename_i h2
            rw [if_neg h2] at h
            exact absurd rfl h
        · rfl
      · rfl
    · rfl
  · rename_i hm
    simp only [hm] at h
    split
    · rename_i b hb
      simp only [hb] at h
      exact absurd rfl h
    · rfl
theorem RRow.vals {w : World} {v : Value} {l : List Ru} (h : RRow w v l) : ∃ p cap, ∃ uv : Nat → Value, v = .slice p l.length cap ∧ ∀ i (hi : i < l.length), ∃ g o, p = some ⟨g, o, none⟩ ∧ w.cell? ⟨g, o + i * 4, none⟩ = some (.string (ba l[i].out)) ∧ w.cell? ⟨g, o + i * 4 + 1, none⟩ = some (.string (ba l[i].kind)) ∧ w.cell? ⟨g, o + i * 4 + 2, none⟩ = some (.string (ba l[i].word)) ∧ w.cell? ⟨g, o + i * 4 + 3, none⟩ = some (uv i) ∧ XRow w (uv i) l[i].ins := by
  obtain ⟨p, cap, rfl, hcap, hnn, hin⟩ := h
  by_cases h0 : l = []
  · exact ⟨p, cap, fun _ => .nilIface, rfl, fun i hi => by rw [h0] at hi; simp at hi⟩
  · obtain ⟨g, o, rfl, hg, hat⟩ := hin h0
    refine ⟨_, cap, fun i => (w.cell? ⟨g, o + i * 4 + 3, none⟩).getD .nilIface, rfl, fun i hi => ?_⟩
    obtain ⟨b0, b1, b2, u, b3, hu⟩ := hat i hi
    refine ⟨g, o, rfl, b0, b1, b2, ?_, ?_⟩
    · show _ = some ((w.cell? ⟨g, o + i * 4 + 3, none⟩).getD .nilIface)
      rw [b3]; rfl
    · show XRow w ((w.cell? ⟨g, o + i * 4 + 3, none⟩).getD .nilIface) _
      rw [b3]; exact hu
structure PutL (wL : World) (T : Nat) (oU : Option Nat) (B : Nat) (lv : List (List UInt8)) (fs : Tf.Fs) (wr : World) (fs' : Tf.Fs) (o' : Option Nat) : Prop where
  tree : TreeAt B wr T fs' o'
  well : Tf.Well pathB fs'
  len : ∀ f ∈ fs', f.1.length ≤ 1000
  same : ∀ x ∈ lv, Tf.get fs x = Tf.get fs' x
  new : ∀ j, o' = some j → oU = some j ∨ wL.heap.size ≤ j
  only : Only (fun j => j = T ∨ oU = some j) wL wr
theorem PutL.below {wL : World} {T : Nat} {oU : Option Nat} {B : Nat} {lv : List (List UInt8)} {fs : Tf.Fs} {wr w' : World} {fs' : Tf.Fs} {o' : Option Nat} (h : PutL wL T oU B lv fs wr fs' o') (hb : Below wr.heap.size wr w') : PutL wL T oU B lv fs w' fs' o' :=
  ⟨h.tree.below hb, h.well, h.len, h.same, h.new, h.only.trans (Only.of hb (S := fun j => j = T ∨ oU = some j)) fun _ hj => .inl hj⟩
theorem PutL.put {wL : World} {T : Nat} {oU : Option Nat} {B : Nat} {lv : List (List UInt8)} {fs : Tf.Fs} {wr w' : World} {fs' : Tf.Fs} {o' o2 : Option Nat} (h : PutL wL T oU B lv fs wr fs' o') {p b : List UInt8} (hp : p ∉ lv) (hpl : p.length ≤ 1000) (hon : OldNew wr o' o2) (hT : TreeAt B w' T (Tf.putF pathB fs' p b) o2) (hB : Below B wr w') (hk : Kept (tS T o') wr w') : PutL wL T oU B lv fs w' (Tf.putF pathB fs' p b) o2 := by
  refine ⟨hT, h.well.putF p b, fun f hf => ?_, fun x hx => ?_, fun j hj => ?_, ⟨hB.os.trans h.only.os, hB.tape.trans h.only.tape, hB.output.trans h.only.output, Nat.le_trans h.only.size hB.size, fun j hj hn => (hk.block j (Nat.lt_of_lt_of_le hj h.only.size) fun hs => ?_).trans (h.only.block j hj hn)⟩⟩
  · rcases Tf.putF_mem hf with h1 | h1
    · exact h.len f h1
    · rw [h1]; exact hpl
  · rw [h.same x hx, Tf.get_putF fun e => hp (by rw [e]; exact hx)]
  · rcases hon with e | ⟨q, e1, e2⟩
    · exact h.new j (by rw [← e]; exact hj)
    · rw [e1] at hj; cases hj
      exact .inr (Nat.le_trans h.only.size e2)
  · rcases hs with e | e
    · exact hn (.inl e)
    · rcases h.new j e with h1 | h1
      · exact hn (.inr h1)
      · omega
end Go.Proofs.YtbgkfmodbofalaaGreatDoor
namespace Go.Proofs.YtbgkfmodbofalaaGreatDoor
namespace Bf
structure Sheet (fs : Tf.Fs) (l : List Ru) (o : List Nat) : Prop where
  fine : (Ru.fault l).1 = 0
  order : Ru.order l (need l (l.map Ru.out)) = some o
theorem Sheet.topo {fs : Tf.Fs} {l : List Ru} {o : List Nat} (h : Sheet fs l o) : Ru.Topo l o ∧ o.Nodup ∧ (∀ i ∈ o, i < l.length) ∧ ∀ i, i < l.length → i ∈ o := by
  obtain ⟨h1, h2⟩ := Ru.order_some h.order
  obtain ⟨h3, h4⟩ := Ru.order_nodup h.order
  exact ⟨h1, h3, h4, fun i hi => h2 i hi (need_all hi)⟩
theorem Sheet.wanted {fs : Tf.Fs} {l : List Ru} {o : List Nat} (h : Sheet fs l o) : Wanted Af.actO fs l (inO o) (want Af.actO fs l) := want_is h.topo.1 h.topo.2.1 h.topo.2.2.1
theorem Sheet.at {fs : Tf.Fs} {l : List Ru} {o : List Nat} (h : Sheet fs l o) : ∀ k (hk : k < l.length), mkr l l[k].out = some k := fun k hk => by
  obtain ⟨-, hA⟩ := Ru.fault_ok h.fine
  unfold mkr
  rw [List.findIdx?_eq_some_iff_getElem]
  refine ⟨hk, by simp, fun j hj => ?_⟩
  have : l[j].out ≠ l[k].out := fun e => by
    have := hA j k (by omega) hk e
    omega
  simpa using this
theorem Sheet.some {fs : Tf.Fs} {l : List Ru} {o : List Nat} (h : Sheet fs l o) (x : List UInt8) : (Ru.order l (need l [x])).isSome = true := by
  cases ho : Ru.order l (need l [x]) with
  | some _ => rfl
  | none =>
    exfalso
    obtain ⟨i, t, hi, hw⟩ := Ru.order_none2 (Ru.need_closed l [x]) ho
    exact h.topo.1.none i t (h.topo.2.2.2 i (Ru.need_lt hi)) hw
theorem Sheet.rule {fs : Tf.Fs} {l : List Ru} {o : List Nat} (h : Sheet fs l o) {i : Nat} (hi : i < l.length) : want Af.actO fs l l[i].out = wrule Af.actO (want Af.actO fs l) (l.getD i ⟨[], [], [], []⟩) := h.wanted.rule _ i (h.at i hi) (h.topo.2.2.2 i hi)
structure Going (fs : Tf.Fs) (l : List Ru) (o : List Nat) (d : Bd) (c : Ca) : Prop where
  good : Good d
  fit : Fit d
  cfit : CFit c
  hl : d.l = l
  hfs : d.fs = fs
  makes : Makes Af.actO (inO o) (want Af.actO fs l) d
  sound : CSound Af.actO c
theorem Going.wanted {fs : Tf.Fs} {l : List Ru} {o : List Nat} (hs : Sheet fs l o) {d : Bd} {c : Ca} (h : Going fs l o d c) : Wanted Af.actO d.fs d.l (inO o) (want Af.actO fs l) := by rw [h.hfs, h.hl]; exact hs.wanted
theorem Going.at {fs : Tf.Fs} {l : List Ru} {o : List Nat} (hs : Sheet fs l o) {d : Bd} {c : Ca} (h : Going fs l o d c) : ∀ k (hk : k < d.l.length), mkr d.l d.l[k].out = some k := by rw [h.hl]; exact hs.at
theorem Going.init {fs : Tf.Fs} {l : List Ru} {o : List Nat} (hs : Sheet fs l o) (hf : ∀ f ∈ fs, f.2.length ≤ 2000) {c : Ca} (hc : CFit c) (hd : CSound Af.actO c) : Going fs l o (Bf.init fs l (l.map Ru.out)) c := by
  refine ⟨Good.init fun k => init_all k, init_fit hf, hc, rfl, rfl, Makes.init (fun k hk => ?_) (fun k => ?_), hd⟩
  · rw [init_all] at hk
    by_cases h : k < l.length
    · exact hs.topo.2.2.2 k h
    · rw [if_neg h] at hk; cases hk
  · rw [init_all]
    by_cases h : k < l.length
    · rw [if_pos h]; exact .inl rfl
    · rw [if_neg h]; exact .inr rfl
theorem Going.run {fs : Tf.Fs} {l : List Ru} {o : List Nat} (hs : Sheet fs l o) {d : Bd} {c : Ca} (h : Going fs l o d c) (i : Int) : Going fs l o (Bf.run Af.actO c d i).d (Bf.run Af.actO c d i).c := by
  have hm := run_makes (h.wanted hs) (h.at hs) h.sound h.makes i
  have hl := run_l Af.actO c d i
  have hf := run_fit actFit h.cfit h.fit i
  refine ⟨?_, hf.1, hf.2, hl.1.trans h.hl, hl.2.trans h.hfs, hm.1, hm.2⟩
  rcases run_cases Af.actO c d i with ⟨k, _, _, hr, e⟩ | ⟨e0, _, e⟩
  · rw [e]; exact h.good.go Af.actO c hr
  · rw [e]; exact h.good
theorem allF_good (act : Act) : ∀ (n : Nat) (c : Ca) (d : Bd), Good d → Good (allF act n c d).1
  | 0, _, _, h => h
  | n + 1, c, d, h => by
    unfold allF
    cases hr : d.ready with
    | nil => exact h
    | cons i r =>
      have hm := mem_ready.1 (show i ∈ d.ready by rw [hr]; simp)
      exact allF_good act n _ _ (h.go act c hm.2)
theorem allF_end (act : Act) : ∀ (n : Nat) (c : Ca) (d : Bd), d.waits < n → (allF act n c d).1.ready = []
  | 0, _, _, h => by omega
  | n + 1, c, d, h => by
    unfold allF
    cases hr : d.ready with
    | nil => exact hr
    | cons i r =>
      have hm := mem_ready.1 (show i ∈ d.ready by rw [hr]; simp)
      have := (go_less act c d i hm.1 hm.2).1
      exact allF_end act n _ _ (by omega)
theorem Going.all {fs : Tf.Fs} {l : List Ru} {o : List Nat} (hs : Sheet fs l o) {d : Bd} {c : Ca} (h : Going fs l o d c) : Going fs l o (Bf.all Af.actO c d).1 (Bf.all Af.actO c d).2 ∧ (Bf.all Af.actO c d).1.waits = 0 := by
  have hm := all_makes (h.wanted hs) (h.at hs) h.sound h.makes
  have hk := allF_keeps actFit (d.waits + 1) c d h.fit h.cfit
  have hg := allF_good Af.actO (d.waits + 1) c d h.good
  refine ⟨⟨hg, hk.2.2.1, hk.2.2.2, hm.2.2.1.trans h.hl, hm.2.2.2.trans h.hfs, hm.1, hm.2.1⟩, ?_⟩
  have he := allF_end Af.actO (d.waits + 1) c d (by omega)
  have hl : (Bf.all Af.actO c d).1.l = l := hm.2.2.1.trans h.hl
  refine many_none fun k hk => ?_
  rw [Bool.eq_false_iff]
  intro hw
  refine Good.ready hg (rank := fun i => o.idxOf i) (fun i k hn => ?_) hk hw he
  rw [show (allF Af.actO (d.waits + 1) c d).1.l = l from hl] at hn
  exact rank_order hs.order i k hn
theorem Going.result {fs : Tf.Fs} {l : List Ru} {o : List Nat} (hs : Sheet fs l o) {d : Bd} {c : Ca} (h : Going fs l o d c) (hw : d.waits = 0) {i : Nat} (hi : i < l.length) : (d.st i).out = (want Af.actO fs l l[i].out).1 ∧ (d.st i).isDone = decide ((want Af.actO fs l l[i].out).2 = 0) := by
  have he := (h.good.ends hw (k := i) (by rw [h.hl]; exact hi)).1
  have hr := hs.rule hi
  have hrule : d.rule i = l.getD i ⟨[], [], [], []⟩ := by unfold Bd.rule; rw [h.hl]
  cases hst : d.st i with
  | no => rw [hst] at he; simp [St.isDone, St.isFailed, St.isLeft] at he
  | waits => rw [hst] at he; simp [St.isDone, St.isFailed, St.isLeft] at he
  | done s b =>
    have := h.makes.done i s b hst
    rw [hrule, ← hr] at this
    rw [this]
    exact ⟨rfl, rfl⟩
  | failed e =>
    have := h.makes.bad i (by rw [hst]; rfl)
    rw [hrule, ← hr] at this
    refine ⟨(want_err this).symm, ?_⟩
    rw [decide_eq_false this]; rfl
  | left =>
    have := h.makes.bad i (by rw [hst]; rfl)
    rw [hrule, ← hr] at this
    refine ⟨(want_err this).symm, ?_⟩
    rw [decide_eq_false this]; rfl
theorem many_or {st : Nat → St} {p q r : St → Bool} : ∀ {n : Nat}, (∀ k, k < n → r (st k) = (p (st k) || q (st k)) ∧ (p (st k) && q (st k)) = false) → many st p n + many st q n = many st r n
  | 0, _ => rfl
  | n + 1, h => by
    have ih := many_or (st := st) (p := p) (q := q) (r := r) (n := n) fun k hk => h k (by omega)
    have h1 := h n (by omega)
    unfold many
    cases hp : p (st n) <;> cases hq : q (st n) <;> rw [hp, hq] at h1 <;> simp at h1 <;> simp [h1] <;> omega
theorem many_full {st : Nat → St} {p : St → Bool} : ∀ {n : Nat}, (∀ k, k < n → p (st k) = true) → many st p n = n
  | 0, _ => rfl
  | n + 1, h => by
    unfold many
    rw [many_full fun k hk => h k (by omega), h n (by omega)]
    rfl
theorem done_count (d : Bd) : d.ran + d.hits = many d.st St.isDone d.l.length := by
  unfold Bd.ran Bd.hits
  refine many_or fun k _ => ?_
  cases d.st k with
  | done s b => cases b <;> exact ⟨rfl, rfl⟩
  | no => exact ⟨rfl, rfl⟩
  | waits => exact ⟨rfl, rfl⟩
  | failed c => exact ⟨rfl, rfl⟩
  | left => exact ⟨rfl, rfl⟩
theorem Going.count {fs : Tf.Fs} {l : List Ru} {o : List Nat} {d : Bd} {c : Ca} (h : Going fs l o d c) (hw : d.waits = 0) : d.ran + d.hits + d.fails + d.lefts = l.length := by
  have h1 := done_count d
  have h2 : d.fails + d.lefts = many d.st St.isBad d.l.length := by
    unfold Bd.fails Bd.lefts
    refine many_or fun k _ => ?_
    cases d.st k <;> exact ⟨rfl, rfl⟩
  have h3 : many d.st St.isDone d.l.length + many d.st St.isBad d.l.length = many d.st (fun _ => true) d.l.length := by
    refine many_or fun k hk => ?_
    have := (h.good.ends hw hk).1
    cases hst : d.st k with
    | no => rw [hst] at this; simp [St.isDone, St.isFailed, St.isLeft] at this
    | waits => rw [hst] at this; simp [St.isDone, St.isFailed, St.isLeft] at this
    | done s b => exact ⟨rfl, rfl⟩
    | failed c => exact ⟨rfl, rfl⟩
    | left => exact ⟨rfl, rfl⟩
  have h4 : many d.st (fun _ => true) d.l.length = d.l.length := many_full fun _ _ => rfl
  rw [← h.hl]
  omega
theorem Going.dones {fs : Tf.Fs} {l : List Ru} {o : List Nat} (hs : Sheet fs l o) {d d' : Bd} {c c' : Ca} (h : Going fs l o d c) (hw : d.waits = 0) (h' : Going fs l o d' c') (hw' : d'.waits = 0) : d.ran + d.hits = d'.ran + d'.hits := by
  rw [done_count, done_count, h.hl, h'.hl]
  refine many_congr fun k hk => ?_
  rw [(h.result hs hw hk).2, (h'.result hs hw' hk).2]
theorem fresh_hits {d : Bd} (h : Fresh d) : d.hits = 0 := by
  unfold Bd.hits
  refine many_none fun k _ => ?_
  cases hst : d.st k with
  | done s b => rw [h k s b hst]; rfl
  | no => rfl
  | waits => rfl
  | failed c => rfl
  | left => rfl
theorem init_waits {fs : Tf.Fs} {l : List Ru} (k : Nat) : (∀ s b, (Bf.init fs l (l.map Ru.out)).st k ≠ .done s b) := fun s b e => by
  rw [init_all] at e
  split at e <;> cases e
theorem Going.full {fs : Tf.Fs} {l : List Ru} {o : List Nat} (hs : Sheet fs l o) {d : Bd} {m : Nat} {es : Cf.Ens} (h : Going fs l o d (some (m, es))) (hw : d.waits = 0) (hh : CHeld (want Af.actO fs l) d (some (m, es))) : Full Af.actO (want Af.actO fs l) l (some (m, es)) := by
  refine ⟨h.cfit.2.2.1, fun k hk h0 => ?_⟩
  have hr := hs.rule hk
  have hrule : d.rule k = l.getD k ⟨[], [], [], []⟩ := by unfold Bd.rule; rw [h.hl]
  rw [← hrule]
  refine hh.2.has k ?_
  rw [(h.result hs hw hk).2, hr]
  exact decide_eq_true h0
end Bf
end Go.Proofs.YtbgkfmodbofalaaGreatDoor
