import Derived.Test.YtmhipgompplkdaaGreatDoorWT30
import Derived.Deep.AppendLies
import Derived.Test.YtmhipgompplkdaaGreatDoorWT29
namespace Go.Proofs.YtmhipgompplkdaaGreatDoor
open Go.RowKit Go.Shelf Go.Lib
theorem Tryz.infoRule : (Tryz.prog.info? 90).map (fun i => (i.zero, i.size, i.bytes)) = some (some (.agg #[.string ⟨#[]⟩, .string ⟨#[]⟩, .string ⟨#[]⟩, .slice none 0 0]), 4, 72) := by kernel_rfl
theorem row_low4 {w : World} {base : Nat} {e : TypeId} {size : Nat} {v : Value} {n : Nat} {xs : List Value} (h : w.ownsRow base e size v n xs) : ∀ k, v.ownBlock = some k → base ≤ k := by
  intro k hk
  rcases h.2 with ⟨rfl, _⟩ | ⟨g, cap, cur, rfl, hb, _⟩
  · cases hk
  · cases hk; exact hb
def ruCells (l : List (Ru × Value)) : List Value := l.flatMap fun x => [.string (ba x.1.out), .string (ba x.1.kind), .string (ba x.1.word), x.2]
theorem ruCells_snoc (l : List (Ru × Value)) (x : Ru × Value) : ruCells (l ++ [x]) = ruCells l ++ [.string (ba x.1.out), .string (ba x.1.kind), .string (ba x.1.word), x.2] := by simp [ruCells]
theorem ruCells_at : ∀ (l : List (Ru × Value)) (j : Nat) (h : j < l.length), (ruCells l)[j * 4]? = some (.string (ba l[j].1.out)) ∧ (ruCells l)[j * 4 + 1]? = some (.string (ba l[j].1.kind)) ∧ (ruCells l)[j * 4 + 2]? = some (.string (ba l[j].1.word)) ∧ (ruCells l)[j * 4 + 3]? = some l[j].2
  | x :: r, 0, _ => by simp [ruCells]
  | x :: r, j + 1, h => by
    have ih := ruCells_at r j (by simpa using h)
    have e : ruCells (x :: r) = .string (ba x.1.out) :: .string (ba x.1.kind) :: .string (ba x.1.word) :: x.2 :: ruCells r := by simp [ruCells]
    rw [e, show (j + 1) * 4 = j * 4 + 1 + 1 + 1 + 1 by omega]
    simpa [Nat.add_assoc] using ih
def XT (w : World) (v : Value) (l : List (List UInt8)) : Prop := XRow w v l ∧ TRow w v l
theorem XT.below {w w' : World} {v : Value} {l : List (List UInt8)} (h : XT w v l) (hb : Below w.heap.size w w') : XT w' v l := ⟨h.1.below hb, h.2.below hb⟩
theorem XT.grown {w w1 : World} {v : Value} {l : List (List UInt8)} {base e : Nat} {size n : Nat} {u : Value} {xs : List Value} (h : XT w v l) (hrow : w.ownsRow base e size u n xs) (he : e ≠ 9) (hg : w.grownBy w1 u.ownBlock) : XT w1 v l := by
  obtain ⟨⟨p, cap, rfl, h0, hn, h1⟩, ⟨p2, cap2, e2, h02, h2⟩⟩ := h
  obtain ⟨rfl, rfl⟩ : p = p2 ∧ cap = cap2 := by simpa using e2
  have key : ∀ (g : Nat) (cur : Array Value), w.heap[g]? = some (Obj.cells cur 9 (0, 0)) → w1.heap[g]? = some (Obj.cells cur 9 (0, 0)) := fun g cur hgc => by
    refine (hg.block g (Array.getElem?_eq_some_iff.1 hgc).1 ?_).trans hgc
    rcases hrow.2 with ⟨rfl, _⟩ | ⟨b, c, cu, rfl, _, hb, _⟩
    · simp [Value.ownBlock]
    · simp only [Value.ownBlock, ne_eq, Option.some.injEq]
      rintro rfl
      rw [hgc] at hb
      simp at hb
      exact he hb.2.symm
  refine ⟨⟨p, cap, rfl, h0, hn, fun hl => ?_⟩, ⟨p, cap, rfl, h02, fun hl => ?_⟩⟩
  · obtain ⟨g, cur, rfl, hgc, hc⟩ := h2 hl
    have := key g cur hgc
    exact ⟨g, 0, rfl, (Array.getElem?_eq_some_iff.1 this).1, fun j hj => by rw [Nat.zero_add]; exact cell_of_row this (hc j hj)⟩
  · obtain ⟨g, cur, rfl, hgc, hc⟩ := h2 hl
    exact ⟨g, cur, rfl, key g cur hgc, hc⟩
theorem RRow.of_owns {w : World} {base : Nat} {v : Value} {l : List (Ru × Value)} {n : Nat} (h : w.ownsRow base 90 4 v n (ruCells l)) (hn : n = l.length) (hx : ∀ x ∈ l, XRow w x.2 x.1.ins) : RRow w v (l.map Prod.fst) := by
  subst hn
  rcases h.2 with ⟨rfl, hn⟩ | ⟨g, cap, cur, rfl, _, hb, h1, _, _, h4⟩
  · obtain rfl : l = [] := by simpa using hn
    exact RRow.nil w
  · refine ⟨some ⟨g, 0, none⟩, cap, by simp, by simpa using h1, fun h => (by cases h), fun _ => ⟨g, 0, rfl, (Array.getElem?_eq_some_iff.1 hb).1, fun j hj => ?_⟩⟩
    have hj' : j < l.length := by simpa using hj
    have key : ∀ i x, i < l.length * 4 → (ruCells l)[i]? = some x → w.cell? ⟨g, i, none⟩ = some x := fun i x hi hx => by
      have := congrArg (fun y => y[i]?) h4
      simp only [List.getElem?_take, hi, if_true, hx, Array.getElem?_toList] at this
      exact cell_of_row hb this
    obtain ⟨a0, a1, a2, a3⟩ := ruCells_at l j hj'
    rw [Nat.zero_add, List.getElem_map]
    exact ⟨key _ _ (by omega) a0, key _ _ (by omega) a1, key _ _ (by omega) a2, _, key _ _ (by omega) a3, hx _ (List.getElem_mem hj')⟩
theorem four_new (W : World) (x0 x1 x2 x3 : Value) (t : TypeId) (n : Nat) (hn : W.heap.size = n) (j : Nat) (u : Value) (h : [x0, x1, x2, x3][j]? = some u) : (W.alloc (.cells #[x0, x1, x2, x3] t)).cell? ((⟨n, 0, none⟩ : Addr).add j) = some u := by
  subst hn
  rw [add_at2, Nat.zero_add, World.cell?_alloc_at _ _ _ _ rfl]
  simpa using h
set_option maxRecDepth 100000 in
set_option maxHeartbeats 8000000 in
theorem OwnRules_calls {w : World} (v : Value) (l : List Ru) (hl : l.length ≤ 1000) (hrow : RRow w v l) (h12 : ∀ x ∈ l, x.ins.length ≤ 12) :
    Calls Tryz.prog 41 #[v] w fun e w' => ∃ v', e = .returned v' ∧ RRow w' v' l ∧ Below w.heap.size w w' := by
  obtain ⟨i0, hi, hz0, hz1, hz2⟩ := info_parts Tryz.infoRule
  obtain ⟨p, cap, rfl, hcap, hnn, hin⟩ := hrow
  have HI := hid1 hin
  have H12 := hid1 h12
  clear hin hnn h12
  have zl : (l.length : Int) ≤ 1000 := by omega
  have n1 : World.ownsRow w w.heap.size 90 4 (.slice none 0 0) 0 (ruCells []) := World.ownsRow_nil _ _ _ _
  go_enter Tryz.func41, Tryz.ntmps41
  go_wp2
  go_loopw [3, 4] (fun out i wr => ∃ dn : List (Ru × Value), dn.length ≤ l.length ∧ dn.map Prod.fst = l.take dn.length ∧ i = .int .i64 dn.length ∧ wr.ownsRow w.heap.size 90 4 out dn.length (ruCells dn) ∧ (∀ x ∈ dn, XT wr x.2 x.1.ins) ∧ Below w.heap.size w wr) (fun _ i _ => l.length - (intOf i).toNat)
  case atStart => exact ⟨[], by simp, by simp, rfl, n1, by simp, Below.refl _ _⟩
  case round =>
    obtain ⟨dn, hk, hdn, rfl, hown, hxt, hB⟩ := hrel
    have HD := hid1 hdn
    have HXT := hid1 hxt
    clear hdn hxt
    have c0 : (0 : Int) ≤ (dn.length : Int) := by omega
    by_cases hlt : dn.length < l.length
    · have c1 : (dn.length : Int) < (l.length : Int) := by omega
      obtain ⟨g', o, rfl, hg, hcur⟩ := HI.out (by intro e; rw [e] at hlt; simp at hlt)
      obtain ⟨a0, a1, a2, u, a3, ax⟩ := hcur dn.length hlt
      have d3 := cell_below' a3 hB
      have HO := hid1 (OwnTexts_x u l[dn.length].ins (ax.below hB) (H12.out _ (List.getElem_mem hlt)))
      have HU := hid1 ax
      have HDN : Hid (∀ y : Value, (dn ++ [(l[dn.length], y)]).map Prod.fst = l.take (dn.length + 1)) := hid1 fun y => by
        rw [List.map_append, HD.out, List.take_succ_eq_append_getElem hlt]
        rfl
      clear hcur HI HD ax
      generalize l[dn.length] = y at *
      obtain ⟨p3, cap3, rfl, -⟩ := HU.out
      go_wp2_with fail
      refine HO.out.mono ?_
      rintro e w1 ⟨v1, rfl, hx1, ht1, hb1⟩
      have HXT1 : Hid (∀ x ∈ dn, XT w1 x.2 x.1.ins) := hid1 fun x hx => (HXT.out x hx).below hb1
      have HX1 : Hid (XT w1 v1 y.ins) := hid1 ⟨hx1, ht1⟩
      have hB1 := below_then hB hb1
      have hown1 : w1.ownsRow w.heap.size 90 4 u3 dn.length (ruCells dn) := hown.kept (row := none) ⟨hb1.os, hb1.tape, hb1.output, hb1.size, fun k hk _ => hb1.block k hk⟩ (by cases u3.ownBlock <;> simp)
      have d0 := cell_below' a0 hB1
      have d1 := cell_below' a1 hB1
      have d2 := cell_below' a2 hB1
      obtain ⟨p4, cap4, rfl, -⟩ := hx1
      clear hown HXT HO ht1 d3 a0 a1 a2 a3 hb1 hB
      have hownd : w1.drew.ownsRow w.heap.size 90 4 u3 dn.length (ruCells dn) := hown1
      have hsz := hB1.size
      go_wp2
      go_region_law (refine step_append_lies _ rfl (.tmp 18) (.tmp 36) 66 rfl w.heap.size 90 i0 (.agg #[.string ⟨#[]⟩, .string ⟨#[]⟩, .string ⟨#[]⟩, .slice none 0 0]) 4 72 Tryz.underlying66 hi hz0 hz1 hz2 rfl (by decide) _ _ _ rfl (hownd.alloc _) ⟨w1.heap.size, 0, none⟩ 1 1 [.string (ba y.out), .string (ba y.kind), .string (ba y.word), .slice p4 y.ins.length cap4] rfl rfl (four_new _ _ _ _ _ _ _ (by simp)) (by simp [Value.oneCell']) (by decide) (by unfold maxLen; omega) (by omega) (by simp; omega) _ rfl ?_; intro g cap5 w2 hown2 hgrow0 hat hlt1; (have hgrow : (w1.alloc (Obj.cells #[Value.string (ba y.out), Value.string (ba y.kind), Value.string (ba y.word), Value.slice p4 y.ins.length cap4] 90)).drew.grownBy w2 u3.ownBlock := hgrow0); clear hgrow0 hat hlt1)
      all_goals
        go_wp2
        refine ⟨⟨dn ++ [(y, .slice p4 y.ins.length cap4)], ?_, ?_, by simp, ?_, ?_, ?_⟩, ?_⟩
        rotate_right
        · simp [intOf]; try omega
        · simp; try omega
        · have := HDN.out (.slice p4 y.ins.length cap4)
          simpa using this
        · rw [ruCells_snoc]
          simpa using hown2
        · intro x hx
          have hXd : ∀ (v : Value) (ls : List (List UInt8)), XT w1 v ls → XT w2 v ls := fun v ls h => by
            have hb2 : Below w1.heap.size w1 (w1.alloc (Obj.cells #[Value.string (ba y.out), Value.string (ba y.kind), Value.string (ba y.word), Value.slice p4 y.ins.length cap4] 90)).drew := ((Below.refl _ w1).alloc (Nat.le_refl _) _).drew
            exact (h.below hb2).grown (hownd.alloc _) (by decide) hgrow
          rcases List.mem_append.1 hx with h | h
          · exact hXd _ _ (HXT1.out x h)
          · obtain rfl := List.mem_singleton.1 h
            exact hXd _ _ HX1.out
        · exact ((hB1.alloc hsz _).drew).grown hgrow (by simp; omega) (row_low4 hownd)
    · have c1 : (l.length : Int) ≤ (dn.length : Int) := by omega
      have HN : Hid (RRow wr u3 l) := hid1 (by
        have := RRow.of_owns hown rfl (fun x hx => (HXT.out x hx).1)
        rwa [HD.out, List.take_of_length_le (by omega)] at this)
      clear HI HD
      go_wp2
      go_ret
      exact ⟨_, rfl, HN.out, hB⟩
end Go.Proofs.YtmhipgompplkdaaGreatDoor
namespace Go.Proofs.YtmhipgompplkdaaGreatDoor
open Go.RowKit Go.Shelf Go.Lib Go.Maps
def Inp.get (st : Nat → Bf.St) : Inp → Option (List UInt8)
  | .rule k => some (st k).out
  | .file b => some b
  | .gone => none
end Go.Proofs.YtmhipgompplkdaaGreatDoor
