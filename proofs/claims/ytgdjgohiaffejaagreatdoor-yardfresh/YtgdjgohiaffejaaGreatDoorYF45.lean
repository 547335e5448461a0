import Derived.Test.YtgdjgohiaffejaaGreatDoorYF39
import Derived.Test.YtgdjgohiaffejaaGreatDoorYF44
import Derived.Deep.RegionHeld3
import Derived.Test.YtgdjgohiaffejaaGreatDoorYF41
import Derived.Test.YtgdjgohiaffejaaGreatDoorYF37
import Derived.Test.YtgdjgohiaffejaaGreatDoorYF19
import Derived.Test.YtgdjgohiaffejaaGreatDoorYF14
import Derived.Test.YtgdjgohiaffejaaGreatDoorYF29
import Derived.Test.YtgdjgohiaffejaaGreatDoorYF38
import Derived.Test.YtgdjgohiaffejaaGreatDoorYF33
import Derived.Test.YtgdjgohiaffejaaGreatDoorYF43
namespace Go.Proofs.YtgdjgohiaffejaaGreatDoor
open Go.RowKit Go.Shelf Go.Lib
theorem YC.row_new (W : World) (o : Obj) : (W.alloc o).heap[W.heap.size]? = some o := by
  show (W.heap.push _)[W.heap.size]? = _
  simp
def XIn (P : Nat → Prop) (w : World) (v : Value) (l : List (List UInt8)) : Prop := XRow w v l ∧ ∀ a n cap, v = .slice (some a) n cap → l ≠ [] → P a.block
theorem XIn.same {P : Nat → Prop} {w V : World} {v : Value} {l : List (List UInt8)} (h : XIn P w v l) (hz : w.heap.size ≤ V.heap.size) (hb : ∀ j, P j → j < w.heap.size → V.heap[j]? = w.heap[j]?) : XIn P V v l := by
  obtain ⟨⟨p, cap, rfl, h0, hn, h1⟩, h2⟩ := h
  refine ⟨⟨p, cap, rfl, h0, hn, fun hl => ?_⟩, h2⟩
  obtain ⟨g, o, rfl, hg, hc⟩ := h1 hl
  have hP := h2 _ _ _ rfl hl
  exact ⟨g, o, rfl, Nat.lt_of_lt_of_le hg hz, fun j hj => (World.cell?_of_block (a := ⟨g, o + j, none⟩) (hb g hP hg)).trans (hc j hj)⟩
theorem XIn.imp {P Q : Nat → Prop} {w : World} {v : Value} {l : List (List UInt8)} (h : XIn P w v l) (hPQ : ∀ j, P j → Q j) : XIn Q w v l := ⟨h.1, fun a n cap e hl => hPQ _ (h.2 a n cap e hl)⟩
def RuIn (P : Nat → Prop) (w : World) (g o : Nat) (r : Ru) : Prop :=
  w.cell? ⟨g, o, none⟩ = some (.string (ba r.out)) ∧ w.cell? ⟨g, o + 1, none⟩ = some (.string (ba r.kind)) ∧ w.cell? ⟨g, o + 2, none⟩ = some (.string (ba r.word)) ∧ ∃ v, w.cell? ⟨g, o + 3, none⟩ = some v ∧ XIn P w v r.ins
theorem RuIn.same {P : Nat → Prop} {w V : World} {g o : Nat} {r : Ru} (h : RuIn P w g o r) (hg : V.heap[g]? = w.heap[g]?) (hz : w.heap.size ≤ V.heap.size) (hb : ∀ j, P j → j < w.heap.size → V.heap[j]? = w.heap[j]?) : RuIn P V g o r := by
  obtain ⟨h0, h1, h2, v, h3, h4⟩ := h
  exact ⟨(World.cell?_of_block (a := ⟨g, o, none⟩) hg).trans h0, (World.cell?_of_block (a := ⟨g, o + 1, none⟩) hg).trans h1, (World.cell?_of_block (a := ⟨g, o + 2, none⟩) hg).trans h2, v, (World.cell?_of_block (a := ⟨g, o + 3, none⟩) hg).trans h3, h4.same hz hb⟩
theorem RuIn.imp {P Q : Nat → Prop} {w : World} {g o : Nat} {r : Ru} (h : RuIn P w g o r) (hPQ : ∀ j, P j → Q j) : RuIn Q w g o r := by
  obtain ⟨h0, h1, h2, v, h3, h4⟩ := h
  exact ⟨h0, h1, h2, v, h3, h4.imp hPQ⟩
theorem RuIn.at {P : Nat → Prop} {w : World} {g o : Nat} {r : Ru} (h : RuIn P w g o r) : RuAt w g o r := by
  obtain ⟨h0, h1, h2, v, h3, h4⟩ := h
  exact ⟨h0, h1, h2, v, h3, h4.1⟩
def RNew (n : Nat) (w : World) (v : Value) (l : List Ru) : Prop := ∀ V : World, w.heap.size ≤ V.heap.size → (∀ j, n ≤ j → j < w.heap.size → V.heap[j]? = w.heap[j]?) → RRow V v l
theorem cloneS_calls {w : World} (v : Value) (l : List (List UInt8)) (hrow : XRow w v l) (hl : l.length ≤ 1000) :
    Calls Tryz.prog 203 #[v] w fun e w' => ∃ v', e = .returned v' ∧ XIn (fun j => w.heap.size ≤ j) w' v' l ∧ Below w.heap.size w w' := by
  have key : ∀ {w' : World} {v' : Value}, w'.ownsRow w.heap.size 9 1 v' l.length (l.map sv) → XIn (fun j => w.heap.size ≤ j) w' v' l := fun {w' v'} h => by
    refine ⟨XRow.of_owns h, fun a n cap e _ => ?_⟩
    subst e
    exact row_low4 h _ (by simp [Value.ownBlock])
  obtain ⟨p, cap, rfl, hcap, hn, h1⟩ := hrow
  cases p with
  | none =>
    have hc := hn rfl
    subst hc
    obtain rfl : l = [] := List.length_eq_zero_iff.1 (by omega)
    refine (Tryz.slices_Clone_string_nil 0 0 w).mono ?_
    rintro e w' ⟨rfl, rfl⟩
    exact ⟨_, rfl, ⟨XRow.nil _, fun a n cap e => by cases e⟩, Below.refl _ _⟩
  | some a =>
    by_cases he : l = []
    · subst he
      refine (Tryz.slices_Clone_string_zero a cap w).mono ?_
      rintro e w' ⟨v', rfl, ho, _, hb⟩
      exact ⟨v', rfl, key ho, hb⟩
    · obtain ⟨g, o, e, hg, hc⟩ := h1 he
      obtain rfl : a = ⟨g, o, none⟩ := Option.some.inj e
      refine (Tryz.slices_Clone_string g o l.length cap (l.map ba) w (by simp) (by omega) (fun j hj => by
        have hj' : j < l.length := by simpa using hj
        rw [hc j hj']
        simp [hj'])).mono ?_
      rintro e w' ⟨v', rfl, ho, _, hb⟩
      rw [List.take_of_length_le (by simp), List.map_map] at ho
      exact ⟨v', rfl, key ho, hb⟩
theorem ruAt_cells {w : World} {g o : Nat} : ∀ {l : List Ru}, (∀ j (hj : j < l.length), RuAt w g (o + j * 4) l[j]) → ∃ dn : List (Ru × Value), dn.map Prod.fst = l ∧ (∀ j (hj : j < dn.length), w.cell? ⟨g, o + j * 4, none⟩ = some (.string (ba dn[j].1.out)) ∧ w.cell? ⟨g, o + j * 4 + 1, none⟩ = some (.string (ba dn[j].1.kind)) ∧ w.cell? ⟨g, o + j * 4 + 2, none⟩ = some (.string (ba dn[j].1.word)) ∧ w.cell? ⟨g, o + j * 4 + 3, none⟩ = some dn[j].2 ∧ XRow w dn[j].2 dn[j].1.ins) := by
  intro l h
  have h' : ∀ j (hj : j < l.length), ∃ v, w.cell? ⟨g, o + j * 4 + 3, none⟩ = some v ∧ XRow w v l[j].ins := fun j hj => (h j hj).2.2.2
  refine ⟨(List.range l.length).attach.map fun x => (l[x.1]'(List.mem_range.1 x.2), (h' x.1 (List.mem_range.1 x.2)).choose), ?_, fun j hj => ?_⟩
  · apply List.ext_getElem
    · simp
    · intro n h1 h2
      simp
  · have hj' : j < l.length := by simpa using hj
    obtain ⟨a0, a1, a2, -⟩ := h j hj'
    have := (h' j hj').choose_spec
    simp only [List.getElem_map, List.getElem_attach, List.getElem_range]
    exact ⟨a0, a1, a2, this.1, this.2⟩
theorem ruCells_len (l : List (Ru × Value)) : (ruCells l).length = l.length * 4 := by
  induction l with
  | nil => rfl
  | cons x r ih =>
    have e : ruCells (x :: r) = .string (ba x.1.out) :: .string (ba x.1.kind) :: .string (ba x.1.word) :: x.2 :: ruCells r := by simp [ruCells]
    rw [e]
    simp only [List.length_cons, ih]
    omega
theorem ruCells_get {l : List (Ru × Value)} {w : World} {g o : Nat} (h : ∀ j (hj : j < l.length), w.cell? ⟨g, o + j * 4, none⟩ = some (.string (ba l[j].1.out)) ∧ w.cell? ⟨g, o + j * 4 + 1, none⟩ = some (.string (ba l[j].1.kind)) ∧ w.cell? ⟨g, o + j * 4 + 2, none⟩ = some (.string (ba l[j].1.word)) ∧ w.cell? ⟨g, o + j * 4 + 3, none⟩ = some l[j].2) (i : Nat) (u : Value) (hu : (ruCells l)[i]? = some u) : w.cell? ⟨g, o + i, none⟩ = some u := by
  have hi : i < l.length * 4 := by
    have := (List.getElem?_eq_some_iff.1 hu).1
    rwa [ruCells_len] at this
  have hj : i / 4 < l.length := by omega
  obtain ⟨a0, a1, a2, a3⟩ := ruCells_at l (i / 4) hj
  obtain ⟨b0, b1, b2, b3⟩ := h (i / 4) hj
  have hc : i = i / 4 * 4 ∨ i = i / 4 * 4 + 1 ∨ i = i / 4 * 4 + 2 ∨ i = i / 4 * 4 + 3 := by omega
  generalize i / 4 = q at *
  rcases hc with rfl | rfl | rfl | rfl
  · rw [a0] at hu; rw [b0, Option.some.inj hu]
  · rw [a1] at hu; rw [show o + (q * 4 + 1) = o + q * 4 + 1 by omega, b1, Option.some.inj hu]
  · rw [a2] at hu; rw [show o + (q * 4 + 2) = o + q * 4 + 2 by omega, b2, Option.some.inj hu]
  · rw [a3] at hu; rw [show o + (q * 4 + 3) = o + q * 4 + 3 by omega, b3, Option.some.inj hu]
theorem ruCells_one {l : List (Ru × Value)} {w : World} (h : ∀ x ∈ l, XRow w x.2 x.1.ins) : ∀ u ∈ ruCells l, u.oneCell' = true := by
  intro u hu
  obtain ⟨x, hx, hm⟩ := List.mem_flatMap.1 hu
  obtain ⟨p, cap, e, -⟩ := h x hx
  simp only [List.mem_cons, List.not_mem_nil, or_false] at hm
  rcases hm with rfl | rfl | rfl | rfl
  · rfl
  · rfl
  · rfl
  · rw [e]; rfl
set_option maxRecDepth 100000 in
set_option maxHeartbeats 4000000 in
theorem cloneR_calls {w : World} (v : Value) (l : List Ru) (hrow : RRow w v l) (hl : l.length ≤ 1000) :
    Calls Tryz.prog 202 #[v] w fun e w' => ∃ v', e = .returned v' ∧ Below w.heap.size w w' ∧ ((l = [] ∧ ∃ p c, v' = .slice p 0 c ∧ (p = none → c = 0)) ∨ ∃ g cap, l ≠ [] ∧ v' = .slice (some ⟨g, 0, none⟩) l.length cap ∧ w.heap.size ≤ g ∧ g < w'.heap.size ∧ l.length ≤ cap ∧ (∀ i, w'.frozen? ⟨g, i, none⟩ = false) ∧ ∀ j (hj : j < l.length), RuIn (fun b => b < w.heap.size) w' g (j * 4) l[j]) := by
  obtain ⟨i0, hi, hz0, hz1, hz2⟩ := info_parts Tryz.infoRule
  have q22 : ∀ (w : World) (a : Option Addr) (n c n' c' : Nat), (binOp .eql 66 (.slice a n c) (.slice none n' c')).run Tryz.prog w = .ok (.bool a.isNone) w := fun w a n c n' c' => Lib.run_eql_slice_nil w _ _ a n c n' c' Tryz.underlying66
  obtain ⟨p, cap, rfl, hcap, hn, hin⟩ := hrow
  cases p with
  | none =>
    have hc := hn rfl
    subst hc
    obtain rfl : l = [] := List.length_eq_zero_iff.1 (by omega)
    clear hin hn
    go_enter Tryz.func202, Tryz.ntmps202
    go_wp2
    go_ret
    exact ⟨_, rfl, Below.refl _ _, .inl ⟨by trivial, none, 0, rfl, fun _ => rfl⟩⟩
  | some a =>
    have key : ∃ dn : List (Ru × Value), dn.map Prod.fst = l ∧ (∀ x ∈ dn, XRow w x.2 x.1.ins) ∧ ∀ j u, (ruCells dn)[j]? = some u → w.cell? (a.add j) = some u := by
      by_cases he : l = []
      · exact ⟨[], by rw [he]; rfl, fun x hx => by simp at hx, fun j u h => by simp [ruCells] at h⟩
      · obtain ⟨g, o, e, hg, hc⟩ := hin he
        obtain rfl : a = ⟨g, o, none⟩ := Option.some.inj e
        obtain ⟨dn, e1, h2⟩ := ruAt_cells hc
        refine ⟨dn, e1, fun x hx => ?_, fun j u hu => ?_⟩
        · obtain ⟨k, hk, rfl⟩ := List.getElem_of_mem hx
          exact (h2 k hk).2.2.2.2
        · rw [add_at2]
          exact ruCells_get (fun j hj => ⟨(h2 j hj).1, (h2 j hj).2.1, (h2 j hj).2.2.1, (h2 j hj).2.2.2.1⟩) j u hu
    obtain ⟨dn, e1, hx, hc⟩ := key
    have hlen : dn.length = l.length := by rw [← e1]; simp
    have HC : Hid (∀ j u, (ruCells dn)[j]? = some u → w.cell? (a.add j) = some u) := hid1 hc
    have HX := hid1 hx
    have h1 := ruCells_one hx
    have hrl := ruCells_len dn
    rw [hlen] at hrl
    clear hc hx hin hn
    go_enter Tryz.func202, Tryz.ntmps202
    go_wp2_with (at_builtin; refine wpList_append_own _ rfl _ _ 66 rfl w.heap.size 90 i0 (.agg #[.string ⟨#[]⟩, .string ⟨#[]⟩, .string ⟨#[]⟩, .slice none 0 0]) 4 72 Tryz.underlying66 hi hz0 hz1 hz2 rfl (by decide) _ _ _ rfl (World.ownsRow_made w #[] 0 (Nat.le_refl _) (Nat.zero_le _) (by simp)) a l.length cap (ruCells dn) rfl hrl (fun j u hj => Lib.cell?_alloc_some _ (HC.out j u hj)) h1 (by unfold maxLen; omega) (by omega) (by simp) ?_; intro v' w1 hown hgrow hnil)
    go_wp2
    go_ret
    have hgrow' : (w.alloc (.cells #[] 90)).grownBy w1 (some w.heap.size) := hgrow
    have hB : Below w.heap.size w w1 := ((Below.refl _ w).alloc (Nat.le_refl _) _).grown hgrow' (by simp) (by intro k hk; cases hk; exact Nat.le_refl _)
    refine ⟨v', rfl, hB, ?_⟩
    have hown' : w1.ownsRow w.heap.size 90 4 v' l.length (ruCells dn) := by simpa using hown
    rcases hown'.2 with ⟨rfl, _⟩ | ⟨g, cap', cur, rfl, hbg, hgc, hc1, -, -, -⟩
    · have hn := (hnil.1 rfl).1
      cases hn
    · by_cases he : l = []
      · exact .inl ⟨he, some ⟨g, 0, none⟩, cap', by rw [he]; rfl, fun h => by cases h⟩
      · refine .inr ⟨g, cap', he, rfl, hbg, (Array.getElem?_eq_some_iff.1 hgc).1, hc1, fun i => World.ownsRow.frozenAt hown' i, fun j hj => ?_⟩
        have hj' : j < dn.length := by omega
        obtain ⟨a0, a1, a2, a3⟩ := ruCells_at dn j hj'
        have ej : dn[j].1 = l[j] := by subst e1; simp
        have hat : ∀ i u, (ruCells dn)[i]? = some u → w1.cell? ⟨g, i, none⟩ = some u := fun i u hu => by
          rw [World.ownsRow.cellAt hown' i (by have := (List.getElem?_eq_some_iff.1 hu).1; omega)]
          exact hu
        have hxr := HX.out dn[j] (List.getElem_mem hj')
        rw [ej] at a0 a1 a2 hxr
        refine ⟨hat _ _ a0, hat _ _ a1, hat _ _ a2, _, hat _ _ a3, hxr.below hB, fun b n c eb hne => ?_⟩
        obtain ⟨p3, c3, e3, -, -, h3⟩ := hxr
        obtain ⟨g3, o3, e4, hg3, -⟩ := h3 hne
        rw [e3, e4] at eb
        cases eb
        exact hg3
set_option maxRecDepth 100000 in
set_option maxHeartbeats 8000000 in
theorem ycopy_calls {w : World} (v : Value) (l : List Ru) (hrow : RRow w v l) (hl : l.length ≤ 1000) (h12 : ∀ x ∈ l, x.ins.length ≤ 1000) :
    Calls Tryz.prog 146 #[v] w fun e w' => ∃ v', e = .returned v' ∧ Below w.heap.size w w' ∧ RNew w.heap.size w' v' l := by
  have HC := hid1 (cloneR_calls v l hrow hl)
  have H12 := hid1 h12
  have zl : (l.length : Int) ≤ 1000 := by omega
  obtain ⟨pv, cv, rfl, -⟩ := hrow
  clear h12
  go_enter Tryz.func146, Tryz.ntmps146
  go_wp2_with fail
  refine HC.out.mono ?_
  rintro e w1 ⟨v', rfl, g1, hcase⟩
  clear HC
  rcases hcase with ⟨rfl, p, c, rfl, hpc⟩ | ⟨g, cap, hne, rfl, hg, hg1, hcap, hfz, hru⟩
  · have HP := hid1 hpc
    clear hpc H12
    go_wp2
    go_loopw [10] (fun iv wr => iv = .int .i64 0 ∧ wr = w1) (fun _ _ => 0)
    case atStart => exact ⟨rfl, rfl⟩
    case round =>
      obtain ⟨rfl, rfl⟩ := hrel
      go_wp2
      go_ret
      exact ⟨_, rfl, g1, fun V _ _ => ⟨p, c, rfl, Nat.zero_le _, HP.out, fun h => absurd rfl h⟩⟩
  · have HRu : Hid (∀ j (hj : j < l.length), RuIn (fun b => b ≠ g ∧ (j < 0 → g < b)) w1 g (j * 4) l[j]) := hid1 fun j hj => (hru j hj).imp fun b hb => ⟨by omega, fun h => by omega⟩
    have HFz := hid1 hfz
    clear hru hfz
    go_wp2
    go_loopw [10] (fun iv wr => ∃ k : Nat, k ≤ l.length ∧ iv = .int .i64 k ∧ Below w.heap.size w wr ∧ w1.heap.size ≤ wr.heap.size ∧ (∀ i, wr.frozen? ⟨g, i, none⟩ = false) ∧ ∀ j (hj : j < l.length), RuIn (fun b => b ≠ g ∧ (j < k → g < b)) wr g (j * 4) l[j]) (fun iv _ => l.length - (intOf iv).toNat)
    case atStart => exact ⟨0, Nat.zero_le _, rfl, g1, Nat.le_refl _, HFz.out, HRu.out⟩
    case round =>
      obtain ⟨k, hk, rfl, B, hz1, hfz, hru⟩ := hrel
      have HF := hid1 hfz
      have HR : Hid (∀ j (hj : j < l.length), RuIn (fun b => b ≠ g ∧ (j < k → g < b)) wr g (j * 4) l[j]) := hid1 hru
      clear HRu HFz hfz hru
      have k0 : (0 : Int) ≤ (k : Int) := by omega
      have hcapi : (l.length : Int) ≤ (cap : Int) := by omega
      by_cases hlt : k < l.length
      · have k1 : (k : Int) < (l.length : Int) := by omega
        obtain ⟨d0, d1, d2, v3, d3, hx3⟩ := HR.out k hlt
        have hxr := hx3.1
        have hml := H12.out _ (List.getElem_mem hlt)
        obtain ⟨p3, cap3, rfl, -⟩ := hx3.1
        have hst : ∀ (a : Addr) (m : Mode) (W : World), Sem.run Tryz.prog (store a (.slice p3 l[k].ins.length cap3) m) W = stored Tryz.prog W a (.slice p3 l[k].ins.length cap3) m := fun a m W => run_store _ W a _ m rfl
        have gA : Below wr.heap.size wr (wr.alloc (.cells #[.string (ba l[k].out), .string (ba l[k].kind), .string (ba l[k].word), .slice p3 l[k].ins.length cap3] 90)) := (Below.refl _ wr).alloc (Nat.le_refl _) _
        have cA3 := cell_of_row (j := 3) (YC.row_new wr (.cells #[.string (ba l[k].out), .string (ba l[k].kind), .string (ba l[k].word), .slice p3 l[k].ins.length cap3] 90)) rfl
        have HS := hid1 (cloneS_calls (.slice p3 l[k].ins.length cap3) l[k].ins (hxr.below gA) hml)
        have HLk := hid1 (show ∀ r : Ru, r = l[k] → r.out = l[k].out ∧ r.kind = l[k].kind ∧ r.word = l[k].word from fun r e => by rw [e]; exact ⟨rfl, rfl, rfl⟩)
        clear hx3 hxr HLk
        have hgw : g < wr.heap.size := by omega
        generalize hwa : wr.alloc (.cells #[.string (ba l[k].out), .string (ba l[k].kind), .string (ba l[k].word), .slice p3 l[k].ins.length cap3] 90) = wa at *
        go_wp2_with fail
        refine HS.out.mono ?_
        rintro e w4 ⟨v4, rfl, hx4, g4⟩
        have gB := below_then gA g4
        have c3 := cell_below' d3 gB
        have f3 : w4.frozen? ⟨g, k * 4 + 3, none⟩ = false := (gB.frozen (p := ⟨g, k * 4 + 3, none⟩) hgw).trans (HF.out _)
        have HX4 := hid1 hx4
        obtain ⟨p4, cap4, rfl, -⟩ := hx4.1
        have hst4 : ∀ (a : Addr) (m : Mode) (W : World), Sem.run Tryz.prog (store a (.slice p4 l[k].ins.length cap4) m) W = stored Tryz.prog W a (.slice p4 l[k].ins.length cap4) m := fun a m W => run_store _ W a _ m rfl
        have HAW := hid1 gA.size
        have HGB := hid1 gB
        clear hx4 HS d0 d1 d2 d3 hst gA g4 cA3
        go_wp2
        have eS : (w4.setCell ⟨g, k * 4 + 3, none⟩ (.slice p4 l[k].ins.length cap4)).heap.size = w4.heap.size := by simp
        have hbo : ∀ j, j ≠ g → (w4.setCell ⟨g, k * 4 + 3, none⟩ (.slice p4 l[k].ins.length cap4)).heap[j]? = w4.heap[j]? := fun j hj => Below.heap_setCell _ _ _ _ hj
        refine ⟨⟨k + 1, by omega, by go_num, ?_, by rw [eS]; have := HGB.out.size; omega, fun i => ?_, fun j hj => ?_⟩, by simp [intOf]; omega⟩
        · exact (below_then B HGB.out).setCell (p := ⟨g, k * 4 + 3, none⟩) hg _
        · rw [World.frozen?_setCell]
          exact (HGB.out.frozen (p := ⟨g, i, none⟩) hgw).trans (HF.out i)
        · have hold := HR.out j hj
          by_cases e : j = k
          · subst e
            obtain ⟨a0, a1, a2, -⟩ := hold
            have oc : ∀ i u, i ≠ j * 4 + 3 → wr.cell? ⟨g, i, none⟩ = some u → (w4.setCell ⟨g, j * 4 + 3, none⟩ (.slice p4 l[j].ins.length cap4)).cell? ⟨g, i, none⟩ = some u := fun i u hi hu => by
              rw [World.cell?_setCell_other _ _ _ _ (fun e => hi (by cases e; rfl))]
              exact cell_below' hu HGB.out
            refine ⟨oc _ _ (by omega) a0, oc _ _ (by omega) a1, oc _ _ (by omega) a2, _, World.cell?_setCell_same _ _ _ c3, ?_⟩
            refine (HX4.out.imp (Q := fun b => b ≠ g ∧ (j < j + 1 → g < b)) fun b hb => ?_).same (by rw [eS]; exact Nat.le_refl _) fun b hb _ => hbo b hb.1
            have := HAW.out
            exact ⟨by omega, fun _ => by omega⟩
          · obtain ⟨a0, a1, a2, u, a3, ax⟩ := hold
            have oc : ∀ i u, i ≠ k * 4 + 3 → wr.cell? ⟨g, i, none⟩ = some u → (w4.setCell ⟨g, k * 4 + 3, none⟩ (.slice p4 l[k].ins.length cap4)).cell? ⟨g, i, none⟩ = some u := fun i u hi hu => by
              rw [World.cell?_setCell_other _ _ _ _ (fun e => hi (by cases e; rfl))]
              exact cell_below' hu HGB.out
            refine ⟨oc _ _ (by omega) a0, oc _ _ (by omega) a1, oc _ _ (by omega) a2, _, oc _ _ (by omega) a3, ?_⟩
            have h1 : XIn (fun b => b ≠ g ∧ (j < k → g < b)) w4 u l[j].ins := ax.same HGB.out.size fun b _ hb => HGB.out.block b hb
            exact (h1.same (V := w4.setCell ⟨g, k * 4 + 3, none⟩ (.slice p4 l[k].ins.length cap4)) (by rw [eS]; exact Nat.le_refl _) fun b hb _ => hbo b hb.1).imp fun b hb => ⟨hb.1, fun h => hb.2 (by omega)⟩
      · have k1 : (l.length : Int) ≤ (k : Int) := by omega
        obtain rfl : k = l.length := by omega
        have hgw : g < wr.heap.size := by omega
        clear HF
        go_wp2
        go_ret
        refine ⟨_, rfl, B, fun V hz hV => ⟨some ⟨g, 0, none⟩, cap, rfl, hcap, fun h => (by cases h), fun _ => ⟨g, 0, rfl, by omega, fun j hj => ?_⟩⟩⟩
        rw [Nat.zero_add]
        exact ((HR.out j hj).same (hV g hg hgw) hz fun b hb hlt => hV b (by have := hb.2 hj; omega) hlt).at
end Go.Proofs.YtgdjgohiaffejaaGreatDoor
namespace Go.Proofs.YtgdjgohiaffejaaGreatDoor
open Go.RowKit Go.Shelf Go.Lib
variable {es : Nat → Addr} {At : (Nat → Prop) → World → Value → Nat → Cf.Ens → Prop}
set_option maxRecDepth 100000 in
set_option maxHeartbeats 8000000 in
theorem yRules_calls (HC : Caches0 es At) {B : Nat} {W : World} {yb : Nat} {L : YL} {y : Bf.Yd} (h : YdAt At B W yb L y) (hG : GraphW W es) (v : Value) (l : List Ru) (hrow : RRow W v l) (hl : l.length ≤ 1000) (hS : ∀ x ∈ l, x.Small) :
    Calls Tryz.prog 82 #[Ptr yb, v] W fun e w' => ∃ ev, e = .returned ev ∧ Below B W w' ∧
      (((∃ t u, ev = .iface t u) ∧ ¬ ((Ru.fault l).1 = 0 ∧ (Ru.order l allB1).isSome = true) ∧ Below W.heap.size W w') ∨
       (ev = .nilIface ∧ (Ru.fault l).1 = 0 ∧ (Ru.order l allB1).isSome = true ∧ ∃ L', L'.tb = L.tb ∧ L'.ob = L.ob ∧ YdAt At B w' yb L' { y with l := l })) := by
  have HO := hid1 (gOrder_calls hG v l hrow hl hS)
  have HCp := hid1 fun (V : World) (g : Below W.heap.size W V) => ycopy_calls v l (hrow.below g) hl fun x hx => by have := (hS x hx).many; omega
  have HY := hid1 h
  have hBW : B ≤ W.heap.size := by have := h.low; have := h.lt; omega
  have HCs := hid1 HC
  obtain ⟨pl, cl, rfl, -⟩ := hrow
  clear h hG hS HC
  go_enter Tryz.func82, Tryz.ntmps82
  go_wp2_with fail
  refine HO.out.mono ?_
  rintro e w1 ⟨u1, ev, rfl, g1, hT⟩
  clear HO
  have hcase : (∃ p n c, u1 = .slice p n c) ∧ ((∃ t x, ev = .iface t x) ∧ ¬ ((Ru.fault l).1 = 0 ∧ (Ru.order l allB1).isSome = true) ∨ (ev = .nilIface ∧ (Ru.fault l).1 = 0 ∧ (Ru.order l allB1).isSome = true)) := by
    rcases hT with ⟨hf, hE, p, c, rfl⟩ | ⟨hf, ho, rfl, p, c, rfl⟩ | ⟨hf, o, ho, rfl, p, c, rfl, -⟩
    · exact ⟨⟨_, _, _, rfl⟩, .inl ⟨hE.some hf, fun e => hf e.1⟩⟩
    · exact ⟨⟨_, _, _, rfl⟩, .inl ⟨⟨_, _, rfl⟩, fun e => by have := e.2; rw [ho] at this; cases this⟩⟩
    · exact ⟨⟨_, _, _, rfl⟩, .inr ⟨rfl, hf, by rw [ho]; rfl⟩⟩
  clear hT
  obtain ⟨⟨p1, n1, c1, rfl⟩, hcase⟩ := hcase
  rcases hcase with ⟨⟨t, x, rfl⟩, hbad⟩ | ⟨rfl, hok⟩
  · have HB := hid1 hbad
    clear hbad HCp HY
    go_wp2
    go_ret
    exact ⟨_, rfl, g1.mono hBW, .inl ⟨⟨_, _, rfl⟩, HB.out, g1⟩⟩
  · have HOk := hid1 hok
    have HC1 := hid1 (HCp.out w1 g1)
    clear hok HCp
    go_wp2_with fail
    refine HC1.out.mono ?_
    rintro e w2 ⟨v2, rfl, g2, hN⟩
    have G2 := below_then g1 g2
    have HN := hid1 hN
    obtain ⟨p2, c2, rfl, -⟩ := hN w2 (Nat.le_refl _) fun _ _ _ => rfl
    have hy2 := HY.out.below HCs.out G2
    have d2 := hy2.c2
    have f2 : w2.frozen? ⟨yb, 2, none⟩ = false := by simp [World.frozen?, hy2.row]
    have HR : Hid ((w2.setCell ⟨yb, 2, none⟩ (.slice p2 l.length c2)).heap[yb]? = some (.cells #[Ptr L.tb, Ptr L.ob, .slice p2 l.length c2, L.cv] 234 (0, 0))) := hid1 (by
      rw [heap_setCell_same w2 yb 2 _ _ _ hy2.row]
      rfl)
    have hst : ∀ (a : Addr) (m : Mode) (W : World), Sem.run Tryz.prog (store a (.slice p2 l.length c2) m) W = stored Tryz.prog W a (.slice p2 l.length c2) m := fun a m W => run_store _ W a _ m rfl
    have hlow := HY.out.low
    have HG1 := hid1 g1
    clear HC1 hN hy2 g1 g2
    go_wp2
    go_ret
    have hNew : ∀ V : World, w2.heap.size ≤ V.heap.size → (∀ j, W.heap.size ≤ j → j < w2.heap.size → V.heap[j]? = w2.heap[j]?) → RRow V (.slice p2 l.length c2) l := fun V hz hV => HN.out V hz fun j h1 h2 => hV j (by have := HG1.out.size; omega) h2
    refine ⟨_, rfl, (G2.mono hBW).setCell (p := ⟨yb, 2, none⟩) hlow _, .inr ⟨rfl, HOk.out.1, HOk.out.2, _, ?_, ?_, HY.out.ruled HCs.out G2 hNew HR.out⟩⟩ <;> rfl
end Go.Proofs.YtgdjgohiaffejaaGreatDoor
namespace Go.Proofs.YtgdjgohiaffejaaGreatDoor
namespace Lb
abbrev fs : Tf.Fs := [([97], [120])]
abbrev r : Ru := ⟨[98], [117, 112, 112, 101, 114], [], [[97]]⟩
abbrev l : List Ru := [r]
abbrev outs : List (List UInt8) := [[98]]
abbrev key : List UInt8 := Kp.key [117, 112, 112, 101, 114] [] [[120]]
abbrev d : Bf.Bd := ⟨fs, l, fun k => if k = 0 then .waits else .no⟩
theorem fault0 : (Ru.fault l).1 = 0 := by kernel_rfl
theorem needs0 (i k : Nat) : Ru.needs l i k = false := by
  cases hn : Ru.needs l i k with
  | false => rfl
  | true =>
    obtain ⟨h1, h2⟩ := Ru.needs_lt hn
    obtain rfl : i = 0 := by simp at h1; omega
    obtain rfl : k = 0 := by simp at h2; omega
    have : Ru.needs l 0 0 = false := by decide
    rw [this] at hn
    cases hn
theorem needed : Ru.Needed l outs (fun k => decide (k = 0)) := by
  have hb : Ru.base l outs 0 = true := by decide
  refine ⟨fun k hk => ?_, fun i k _ h => ?_, fun P h1 _ k hk h => ?_⟩
  · cases k with
    | zero => rfl
    | succ k =>
      simp [Ru.base] at hk
  · rw [needs0] at h
    cases h
  · obtain rfl : k = 0 := by simp at hk; omega
    exact h1 0 hb
theorem need0 : Bf.need l outs 0 = true := by
  rw [Bf.need_eq needed (by decide)]
  rfl
theorem init0 : Bf.init fs l outs = d := by
  unfold Bf.init
  congr 1
  funext k
  by_cases h : k = 0
  · subst h
    rw [need0]
    rfl
  · rw [Bf.need_out (by simp; omega)]
    simp [h]
theorem order0 : (Ru.order l (Bf.need l outs)).isSome = true := by
  rw [Ru.order_congr2 (g := fun k => decide (k = 0)) fun k hk => Bf.need_eq needed hk]
  decide
theorem ready0 : d.isReady 0 = true := Bf.ready_of rfl fun k _ hn => by
  rw [show Ru.needs d.l 0 k = false from needs0 0 k] at hn
  cases hn
theorem act0 : Af.actO [117, 112, 112, 101, 114] [] [[120]] = ([88], 0) := by decide
theorem run1 : Bf.run Af.actO (some (3, [])) d 0 = ⟨false, 0, d.set 0 (.done [88] false), some (3, [(key, [88])])⟩ := by
  rw [show (0 : Int) = ((0 : Nat) : Int) from rfl, Bf.run_ready _ _ _ _ (by decide) ready0]
  unfold Bf.go
  have e1 : d.ins 0 = some [[120]] := by decide
  have e2 : d.rule 0 = r := rfl
  rw [e1]
  simp only [e2]
  have e3 : Bf.cfind (some (3, [])) (Kp.key r.kind r.word [[120]]) = none := rfl
  rw [e3]
  simp only
  rw [act0, if_pos rfl]
  rfl
end Lb
end Go.Proofs.YtgdjgohiaffejaaGreatDoor
namespace Go.Proofs.YtgdjgohiaffejaaGreatDoor
open Go.RowKit Go.Shelf Go.Lib Go.Maps
theorem NewTells.get {es : Nat → Addr} {BAt : (Nat → Prop) → World → Value → Value → Bf.Bd → Prop} {n : Nat} {cv : Value} {w : World} {bv ev : Value} (h : NewTells es BAt n Lb.fs Lb.l Lb.outs cv w bv ev) : ev = .nilIface ∧ ∃ p S, bv = .pointer (some p) ∧ BAt S w bv cv Lb.d ∧ ∀ k, S k → n ≤ k := by
  rcases h with ⟨_, ⟨h1, _⟩ | ⟨_, k, hk, h2, _⟩ | ⟨_, _, h3, _⟩⟩ | ⟨_, _, _, h4, ⟨p, h5⟩, S, h6, h7⟩
  · exact absurd Lb.fault0 h1
  · obtain rfl : k = 0 := by simp at hk; omega
    exact absurd rfl (h2 Lb.r (by simp))
  · have := Lb.order0
    rw [h3] at this
    cases this
  · rw [Lb.init0] at h6
    exact ⟨h4, p, S, h5, h6, h7⟩
theorem lb_rises : Tf.Rises Lb.fs := by
  unfold Tf.Rises
  simp
theorem lb_small : ∀ x ∈ Lb.l, x.Small := fun x hx => by
  obtain rfl := List.mem_singleton.1 hx
  exact ⟨by decide, by decide, by decide, by decide, fun y hy => by obtain rfl := List.mem_singleton.1 hy; decide⟩
end Go.Proofs.YtgdjgohiaffejaaGreatDoor
namespace Go.Proofs.YtgdjgohiaffejaaGreatDoor
open Go.RowKit Go.Shelf Go.Lib Go.Maps
theorem lw_want : Bf.want Af.actO Lb.fs Lb.l [98] = ([88], 0) := by decide
theorem lw_rows (w : World) :
    RRow ((w.alloc (.cells #[.string ⟨#[97]⟩] 9)).alloc (.cells #[.string ⟨#[98]⟩, .string ⟨#[117, 112, 112, 101, 114]⟩, .string ⟨#[]⟩, .slice (some ⟨w.heap.size, 0, none⟩) 1 1] 90)) (.slice (some ⟨w.heap.size + 1, 0, none⟩) 1 1) Lb.l ∧
    Below w.heap.size w ((w.alloc (.cells #[.string ⟨#[97]⟩] 9)).alloc (.cells #[.string ⟨#[98]⟩, .string ⟨#[117, 112, 112, 101, 114]⟩, .string ⟨#[]⟩, .slice (some ⟨w.heap.size, 0, none⟩) 1 1] 90)) := by
  obtain ⟨w1, h1⟩ : ∃ w1, w1 = w.alloc (.cells #[.string ⟨#[97]⟩] 9) := ⟨_, rfl⟩
  obtain ⟨w2, h2⟩ : ∃ w2, w2 = w1.alloc (.cells #[.string ⟨#[98]⟩, .string ⟨#[117, 112, 112, 101, 114]⟩, .string ⟨#[]⟩, .slice (some ⟨w.heap.size, 0, none⟩) 1 1] 90) := ⟨_, rfl⟩
  have z1 : w1.heap.size = w.heap.size + 1 := by rw [h1]; simp
  have z2 : w2.heap.size = w.heap.size + 2 := by rw [h2]; simp; omega
  have b1 : Below w.heap.size w w1 := by rw [h1]; exact (Below.refl _ w).alloc (Nat.le_refl _) _
  have b2 : Below w1.heap.size w1 w2 := by rw [h2]; exact (Below.refl _ w1).alloc (Nat.le_refl _) _
  have r1 : w1.heap[w.heap.size]? = some (.cells #[.string ⟨#[97]⟩] 9) := by rw [h1]; exact row_newW _ _
  have r2 : w2.heap[w.heap.size + 1]? = some (.cells #[.string ⟨#[98]⟩, .string ⟨#[117, 112, 112, 101, 114]⟩, .string ⟨#[]⟩, .slice (some ⟨w.heap.size, 0, none⟩) 1 1] 90) := by rw [h2, ← z1]; exact row_newW _ _
  have s1 := row_below r1 b2
  rw [← h1, ← h2]
  refine ⟨⟨_, _, rfl, Nat.le_refl _, (fun e => by cases e), fun _ => ⟨_, _, rfl, by omega, fun j hj => ?_⟩⟩, below_then b1 b2⟩
  obtain rfl : j = 0 := by simp at hj; omega
  exact ⟨cell_of_row (j := 0) r2 rfl, cell_of_row (j := 1) r2 rfl, cell_of_row (j := 2) r2 rfl, _, cell_of_row (j := 3) r2 rfl, ⟨_, _, rfl, Nat.le_refl _, (fun e => by cases e), fun _ => ⟨_, _, rfl, by omega, fun j hj => by
    obtain rfl : j = 0 := by simp at hj; omega
    exact cell_of_row (j := 0) s1 rfl⟩⟩⟩
end Go.Proofs.YtgdjgohiaffejaaGreatDoor
namespace Go.Proofs.YtgdjgohiaffejaaGreatDoor
open Go.RowKit Go.Shelf Go.Lib
variable {es : Nat → Addr} {At : (Nat → Prop) → World → Value → Nat → Cf.Ens → Prop} {BAt : (Nat → Prop) → World → Value → Value → Bf.Bd → Prop}
namespace Ly
abbrev y0 : Bf.Yd := ⟨Lb.fs, [], Lb.l, some (3, [])⟩
abbrev d1 : Bf.Bd := Lb.d.set 0 (.done [88] false)
theorem sheet : SheetOk Lb.l := ⟨Lb.fault0, by decide, lb_small⟩
theorem flat : Bf.Flat Lb.l := fun i k hi hk => by
  obtain rfl : i = 0 := by simp at hi; omega
  obtain rfl : k = 0 := by simp at hk; omega
  exact Tf.above_self _
theorem well : Tf.Well pathB Lb.fs := by
  have hp1 : pathB [97] = true := by rw [pathB_R]; decide
  refine ⟨lb_rises, by simp, fun f hf => ?_, fun f hf g hg => ?_⟩
  · obtain rfl := List.mem_singleton.1 hf
    exact ⟨hp1, by simp⟩
  · obtain rfl := List.mem_singleton.1 hf
    obtain rfl := List.mem_singleton.1 hg
    exact Tf.above_self _
theorem wellnil : Tf.Well pathB [] := ⟨List.Pairwise.nil, by simp, fun f hf => by simp at hf, fun f hf => by simp at hf⟩
theorem fine : Bf.YFine Lb.l 3 y0 := ⟨rfl, well, wellnil, fun f hf => by simp at hf, ⟨_, rfl⟩, ⟨by omega, by omega, Cf.Ok.nil 3, by simp⟩, fun e he => by simp at he⟩
theorem go1 : Bf.go Af.actO (some (3, [])) Lb.d 0 = ⟨false, 0, d1, some (3, [(Lb.key, [88])])⟩ := by
  have := Lb.run1
  rw [show (0 : Int) = ((0 : Nat) : Int) from rfl, Bf.run_ready _ _ _ _ (by decide) Lb.ready0] at this
  exact this
theorem made : y0.made [] = (d1, some (3, [(Lb.key, [88])])) := by
  rw [Bf.made_eq, show y0.l.map Ru.out = Lb.outs from rfl, show Bf.init y0.fs y0.l Lb.outs = Lb.d from Lb.init0]
  have hr : Lb.d.ready = [0] := by decide
  have hw : Lb.d.waits = 1 := by decide
  have hr1 : d1.ready = [] := by decide
  unfold Bf.all
  rw [hw]
  unfold Bf.allF
  rw [hr]
  simp only
  rw [go1]
  simp only
  unfold Bf.allF
  rw [hr1]
theorem got : Tf.get (y0.makeP []).os [98] = some [88] := by
  obtain ⟨o, hs, ho⟩ := Bf.SheetOk.sheet sheet Lb.fs
  have hg := fine.going hs
  have he := fine.out sheet flat hs ho
  have := Bf.outW_fresh hs flat hg.1 hg.2 hs.topo.2.2.1 hs.topo.2.2.2 fine.os fine.outs (i := 0) (by decide)
  rw [he]
  rw [show (Lb.l[0]'(by decide)).out = [98] from rfl, lw_want, if_pos rfl] at this
  exact this
theorem stale : Bf.stale Lb.fs (y0.makeP []).os Lb.l = [] := (fine.make sheet flat).2
end Ly
theorem rules_fine (HC : Caches0 es At) {B : Nat} {W : World} {yb : Nat} {L : YL} {y : Bf.Yd} (h : YdAt At B W yb L y) (hY : YBase B W es) (v : Value) (l : List Ru) (hrow : RRow W v l) (hk : SheetOk l) :
    Calls Tryz.prog 82 #[Ptr yb, v] W fun e w' => e = .returned .nilIface ∧ Below B W w' ∧ ∃ L', YdAt At B w' yb L' { y with l := l } :=
  (yRules_calls HC h hY.build.w.g v l hrow (by have := hk.len; omega) hk.small).mono fun e w' ⟨ev, h1, h2, h3⟩ => by
    rcases h3 with ⟨_, hb, _⟩ | ⟨h4, _, _, L', _, _, h5⟩
    · exact absurd ⟨hk.fine, hk.some⟩ hb
    · exact ⟨by rw [h1, h4], h2, L', h5⟩
set_option maxRecDepth 100000 in
set_option maxHeartbeats 16000000 in
theorem yarded_calls (HB : Builds es Af.actO At BAt) (HC : Caches0 es At) {W : World} (hW : BuildW W es) (hE : TErr W (erOf es)) :
    Calls Tryz.prog 80 #[] W fun e w' => e = .returned (.bool true) ∧ Below W.heap.size W w' := by
  have H0 := hid1 (yNew_calls HC W 3 (by omega) (by omega))
  have HY := hid1 (YBase.of hW hE)
  have HCs := hid1 HC
  have HBs := hid1 HB
  clear HB HC hW hE
  go_enter Tryz.func80, Tryz.ntmps80
  go_wp2_with fail
  refine H0.out.mono ?_
  rintro e w1 ⟨yb, L1, rfl, g1, hy1⟩
  have HT1 := hid1 (yTree_calls hy1)
  have hp1 : pathB [97] = true := by rw [pathB_R]; decide
  have hcode : Tf.putCode pathB [] [97] [120] = 0 := by simp [Tf.putCode, hp1]; decide
  have hput : Tf.putF pathB [] [97] [120] = Lb.fs := by
    unfold Tf.putF
    rw [if_pos hcode]
    rfl
  have HP := PutK_calls hy1.t (HY.out.trans g1).errs (by simp) (by simp) [97] [120] (by simp)
  rw [show (⟨[], [], [], some (3, [])⟩ : Bf.Yd).fs = [] from rfl] at HP
  rw [hcode, hput, show erOf es 0 = Value.nilIface from rfl] at HP
  have HPt := hid1 HP
  have HY1 := hid1 hy1
  clear H0 HP hp1 hcode hput hy1
  go_wp2_with fail
  refine HT1.out.mono ?_
  rintro e w' ⟨rfl, hw'⟩
  subst hw'
  clear HT1
  go_wp2_with fail
  refine HPt.out.mono ?_
  rintro e w3 ⟨rfl, ⟨o3, hon, hT3⟩, g3, k3⟩
  have hy3 := HY1.out.files HCs.out hT3 hon k3
  have G3 : Below W.heap.size W w3 := g1.trans g3
  obtain ⟨hR5, g5⟩ := lw_rows w3
  have hy5 := hy3.below HCs.out g5
  have hW3 := G3.size
  have G5 := G3.trans (g5.mono hW3)
  have HRl := hid1 (rules_fine HCs.out hy5 (HY.out.trans G5) _ Lb.l hR5 Ly.sheet)
  have HG5 := hid1 G5
  clear HPt HY1 hT3 hon k3 g3 hy3 hR5 hy5 g5 G5 G3
  generalize hw5 : (w3.alloc (.cells #[.string ⟨#[97]⟩] 9)).alloc (.cells #[.string ⟨#[98]⟩, .string ⟨#[117, 112, 112, 101, 114]⟩, .string ⟨#[]⟩, .slice (some ⟨w3.heap.size, 0, none⟩) 1 1] 90) = w5 at *
  go_wp2_with fail
  refine HRl.out.mono ?_
  rintro e w6 ⟨rfl, g6, L6, hy60⟩
  have hy6 : YdAt At W.heap.size w6 yb L6 Ly.y0 := hy60
  clear hy60
  have G6 := HG5.out.trans g6
  have HMk := yMake_calls HCs.out HBs.out hy6 (HY.out.trans G6) (Ly.fine.ok Ly.sheet) (.slice none 0 0) [] (XRow.nil _) (by simp) (fun p hp => by simp at hp)
  have e1 : countV (Ly.y0.made []).1 = .agg #[.int .i64 1, .int .i64 0, .int .i64 0, .int .i64 0] := by rw [Ly.made]; rfl
  rw [e1] at HMk
  have HM := hid1 HMk
  clear HRl HMk e1 hy6 hw5 HG5 g6
  go_wp2_with fail
  refine HM.out.mono ?_
  rintro e w7 ⟨rfl, g7, -, L7, -, -, hy7⟩
  have G7 := G6.trans g7
  have gA : Below w7.heap.size w7 (w7.alloc (.cells #[.int .i64 1, .int .i64 0, .int .i64 0, .int .i64 0] 106)) := (Below.refl _ w7).alloc (Nat.le_refl _) _
  have hz7 := G7.size
  have G8 := G7.trans (gA.mono hz7)
  have hy8 := hy7.below HCs.out gA
  have rA := row_newW w7 (.cells #[.int .i64 1, .int .i64 0, .int .i64 0, .int .i64 0] 106)
  have HO := hid1 (yOut_calls hy8)
  have HGt := Get_calls hy8.o [98] (by simp)
  have hhas : Tf.hasP (Ly.y0.makeP []).os [98] = true := by
    have := Ly.got
    unfold Tf.get at this
    cases hf : (Ly.y0.makeP []).os.find? fun f => f.1 == [98] with
    | none => rw [hf] at this; cases this
    | some x =>
      unfold Tf.hasP
      exact List.any_eq_true.2 ⟨x, List.mem_of_find?_eq_some hf, by simpa using List.find?_some hf⟩
  rw [Ly.got, hhas, Option.getD_some] at HGt
  have HG8 := hid1 HGt
  have HRA := hid1 rA
  have HY8 := hid1 hy8
  clear HM hy7 HGt hhas rA g7 G6 hy8 G7
  go_wp2_with fail
  refine HO.out.mono ?_
  rintro e w8 ⟨rfl, hw8⟩
  rw [← hw8] at HG8 HRA HY8 G8
  clear HO hw8 gA
  go_wp2_with fail
  refine HG8.out.mono ?_
  rintro e w9 ⟨rfl, g9⟩
  have G9 := G8.trans (g9.mono G8.size)
  have s0 := cell_below' (cell_of_row (j := 0) HRA.out rfl) g9
  have HSt := yStale_calls HCs.out (HY8.out.below HCs.out g9) (HY.out.trans G9).want Ly.well Ly.sheet
  rw [show (Ly.y0.makeP []).fs = Lb.fs from rfl, show (Ly.y0.makeP []).l = Lb.l from rfl, Ly.stale] at HSt
  have HS := hid1 HSt
  clear HG8 HSt HY8 HRA
  go_wp2_with fail
  refine HS.out.mono ?_
  rintro e w10 ⟨u, rfl, ⟨p, cap, rfl, -⟩, g10⟩
  have G10 := G9.trans (g10.mono G9.size)
  clear HS
  go_wp2
  go_ret
  exact ⟨rfl, G10⟩
end Go.Proofs.YtgdjgohiaffejaaGreatDoor
