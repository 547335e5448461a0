import Derived.Test.YtmhipgompplkdaaGreatDoorWL18
import Derived.Test.YtmhipgompplkdaaGreatDoorWL04
import Derived.Laws.OwnMore
import Derived.OneCell
import Derived.OwnWalk
import Derived.Test.YtmhipgompplkdaaGreatDoorWL07
import Derived.Deep.RegionHeld3
namespace Go.Proofs.YtmhipgompplkdaaGreatDoor
open Go.RowKit Go.Shelf Go.Lib
theorem RRow.take {w : World} {p : Option Addr} {cap : Nat} {l : List Ru} (h : RRow w (.slice p l.length cap) l) (k : Nat) (hk : k ≤ l.length) : RRow w (.slice p k cap) (l.take k) := by
  obtain ⟨p', cap', e, h0, hn, h1⟩ := h
  obtain ⟨rfl, rfl⟩ : p = p' ∧ cap = cap' := by simpa using e
  have hl : (l.take k).length = k := by simp; omega
  refine ⟨p, cap, by rw [hl], by omega, hn, fun hne => ?_⟩
  obtain ⟨g, o, e, hg, hc⟩ := h1 (by intro e; rw [e] at hne; simp at hne)
  refine ⟨g, o, e, hg, fun j hj => ?_⟩
  rw [List.getElem_take]
  exact hc j (by omega)
theorem indexFuncR_calls {w : World} (v : Value) (l : List Ru) (hrow : RRow w v l) (hl : l.length ≤ 1000000) (f : Nat) (caps : Array Value) (eg : ∀ args w, (callFunc f args).run Tryz.prog w = .ok (.enter f args) w) (b : Nat → Bool)
    (HS : Hid (∀ k (hk : k < l.length) W, Below w.heap.size w W → ∀ u, XRow W u l[k].ins → Calls Tryz.prog f (#[ruV l[k] u] ++ caps) W fun e w' => e = .returned (.bool (b k)) ∧ Below W.heap.size W w')) :
    Calls Tryz.prog 260 #[v, .func (.func f) #[] caps] w fun e w' => ∃ r : Int, e = .returned (.int .i64 r) ∧ Below w.heap.size w w' ∧ ((r = -1 ∧ ∀ j, j < l.length → b j = false) ∨ ∃ k : Nat, r = k ∧ k < l.length ∧ b k = true) := by
  obtain ⟨p, cap, rfl, hcap, _, hin⟩ := hrow
  have HI := hid1 hin
  clear hin
  have zl : (l.length : Int) ≤ 1000000 := by omega
  go_enter Tryz.func260, Tryz.ntmps260
  go_wp2
  go_loopw [8] (fun i wr => ∃ k : Nat, k ≤ l.length ∧ i = .int .i64 k ∧ (∀ j, j < k → b j = false) ∧ Below w.heap.size w wr) (fun i _ => l.length - (intOf i).toNat)
  case atStart => exact ⟨0, Nat.zero_le _, rfl, fun j h => by omega, Below.refl _ _⟩
  case round =>
    obtain ⟨k, hk, rfl, hz, hB⟩ := hrel
    have HZ := hid1 hz
    clear hz
    have c0 : (0 : Int) ≤ (k : Int) := by omega
    by_cases hlt : k < l.length
    · have c1 : (k : Int) < (l.length : Int) := by omega
      obtain ⟨g', o, rfl, hg, hcur⟩ := HI.out (by intro e; rw [e] at hlt; simp at hlt)
      obtain ⟨u0, u1, u2, u, u3, ux⟩ := hcur k hlt
      have d0 := cell_below' u0 hB
      have d1 := cell_below' u1 hB
      have d2 := cell_below' u2 hB
      have d3 := cell_below' u3 hB
      have HC := HS.out k hlt wr hB u (ux.below hB)
      have HQ := hid1 ux
      clear hcur HI HS u0 u1 u2 u3 ux
      generalize l[k] = y at *
      obtain ⟨p3, cap3, rfl, _⟩ := HQ.out
      cases hc : b k with
      | false =>
        rw [hc] at HC
        have HN : Hid (∀ j, j < k + 1 → b j = false) := hid1 fun j hj => by
          rcases Nat.lt_or_ge j k with h | h
          · exact HZ.out j h
          · obtain rfl : j = k := by omega
            exact hc
        clear hc HZ
        go_wp2_with fail
        refine Calls.mono HC ?_
        rintro e w1 ⟨rfl, hb1⟩
        clear HC
        go_wp2
        exact ⟨⟨k + 1, by omega, by go_num, HN.out, below_then hB hb1⟩, by simp [intOf]; omega⟩
      | true =>
        rw [hc] at HC
        have HE := hid1 hc
        clear hc
        go_wp2_with fail
        refine Calls.mono HC ?_
        rintro e w1 ⟨rfl, hb1⟩
        clear HC
        go_wp2
        go_ret
        exact ⟨_, rfl, below_then hB hb1, .inr ⟨k, rfl, hlt, HE.out⟩⟩
    · have c1 : (l.length : Int) ≤ (k : Int) := by omega
      have HN : Hid (∀ j, j < l.length → b j = false) := hid1 fun j hj => HZ.out j (by omega)
      clear HI HS HZ
      go_wp2
      go_ret
      exact ⟨_, rfl, hB, .inl ⟨rfl, HN.out⟩⟩
theorem containsFuncR_calls {w : World} (v : Value) (l : List Ru) (hrow : RRow w v l) (hl : l.length ≤ 1000000) (f : Nat) (caps : Array Value) (eg : ∀ args w, (callFunc f args).run Tryz.prog w = .ok (.enter f args) w) (b : Nat → Bool)
    (HS : Hid (∀ k (hk : k < l.length) W, Below w.heap.size w W → ∀ u, XRow W u l[k].ins → Calls Tryz.prog f (#[ruV l[k] u] ++ caps) W fun e w' => e = .returned (.bool (b k)) ∧ Below W.heap.size W w')) :
    Calls Tryz.prog 178 #[v, .func (.func f) #[] caps] w fun e w' => ∃ d : Bool, e = .returned (.bool d) ∧ Below w.heap.size w w' ∧ (d = true ↔ ∃ k, k < l.length ∧ b k = true) := by
  have HC := hid1 (indexFuncR_calls v l hrow hl f caps eg b HS)
  obtain ⟨p, cap, rfl, hcap, _, hin⟩ := hrow
  clear hin HS
  go_enter Tryz.func178, Tryz.ntmps178
  go_wp2_with fail
  refine HC.out.mono ?_
  rintro e w1 ⟨r, rfl, hb, h⟩
  rcases h with ⟨rfl, h⟩ | ⟨k, rfl, hk, h⟩
  · have HN := hid1 h
    clear h
    go_wp2
    go_ret
    refine ⟨_, rfl, hb, ?_⟩
    simp
    intro k hk
    simpa using HN.out k hk
  · have HN := hid1 h
    have z : (0 : Int) ≤ (k : Int) := by omega
    clear h
    go_wp2
    go_ret
    refine ⟨true, rfl, hb, ?_⟩
    simp
    exact ⟨k, hk, HN.out⟩
set_option maxRecDepth 100000 in
set_option maxHeartbeats 4000000 in
theorem ruSheet11_calls {w : World} (x r : Ru) (b : Nat) (u : Value) (hu : XRow w u x.ins) (hR : w.cell? ⟨b, 0, none⟩ = some (.string (ba r.out))) :
    Calls Tryz.prog 179 #[ruV x u, .pointer (some ⟨b, 0, none⟩)] w fun e w' => e = .returned (.bool (x.out == r.out)) ∧ Below w.heap.size w w' := by
  have hB0 : Below w.heap.size w (w.alloc (.cells #[.string (ba x.out), .string (ba x.kind), .string (ba x.word), u] 90)) := (Below.refl _ w).alloc (Nat.le_refl _) _
  have h0 := cell_below' hR hB0
  obtain ⟨p3, cap3, rfl, _⟩ := hu
  go_enter Tryz.func179, Tryz.ntmps179
  go_wp2
  go_ret
  exact ⟨rfl, hB0⟩
structure SheetW (w : World) (es : Nat → Addr) : Prop where
  e : ES w es
  a : AE w (erOf es)
theorem SheetW.below {w W : World} {es : Nat → Addr} (h : SheetW w es) (hb : Below w.heap.size w W) : SheetW W es := ⟨h.e.below hb, h.a.stays hb⟩
set_option maxRecDepth 100000 in
set_option maxHeartbeats 4000000 in
theorem ruSheet1_calls {w : World} {es : Nat → Addr} (hW : SheetW w es) (l : List Ru) (hl : l.length ≤ 1000000) (v : Value) (hrow : RRow w v l) (hS : ∀ x ∈ l, x.Small) (b k : Nat) (hk : k < l.length) (hb : w.cell? ⟨b, 0, none⟩ = some v) (u : Value) (hu : XRow w u l[k].ins) :
    Calls Tryz.prog 176 #[.int .i64 k, ruV l[k] u, .pointer (some ⟨b, 0, none⟩)] w fun e w' => e = .returned (erOf es (Ru.errAt l k)) ∧ Below w.heap.size w w' := by
  have HQ := hid1 (Ru.errAt_eq hk)
  have HC := hid1 fun W (g : Below w.heap.size w W) => ruCheck_calls (hW.e.below g) (hW.a.stays g) l[k] (hS _ (List.getElem_mem hk)) u (hu.below g)
  have hB0 : Below w.heap.size w (w.alloc (.cells #[.string (ba l[k].out), .string (ba l[k].kind), .string (ba l[k].word), u] 90)) := (Below.refl _ w).alloc (Nat.le_refl _) _
  have hr0 : (w.alloc (.cells #[.string (ba l[k].out), .string (ba l[k].kind), .string (ba l[k].word), u] 90)).cell? ⟨w.heap.size, 0, none⟩ = some (.string (ba l[k].out)) := by simp
  have hx := hW.e.c6
  obtain ⟨p, cap, rfl, hcap, hnn, hin⟩ := hrow
  have hrow : RRow w (.slice p l.length cap) l := ⟨p, cap, rfl, hcap, hnn, hin⟩
  have HF := hid1 fun W (g : Below w.heap.size w W) (hr : W.cell? ⟨w.heap.size, 0, none⟩ = some (.string (ba l[k].out))) =>
    containsFuncR_calls (.slice p k cap) (l.take k) ((hrow.below g).take k (by omega)) (by simp; omega) 179 #[.pointer (some ⟨w.heap.size, 0, none⟩)] (enters_of Tryz.func179 (by kernel_rfl) rfl) (fun j => (l.getD j l[k]).out == l[k].out)
      (hid1 fun j hj W' g' u' hu' => by
        have hjl : j < l.length := by simp at hj; omega
        have := ruSheet11_calls (l.take k)[j] l[k] w.heap.size u' hu' (cell_below' hr g')
        rw [List.getElem_take] at this ⊢
        rw [List.getD_eq_getElem?_getD, List.getElem?_eq_getElem hjl, Option.getD_some]
        exact this)
  have HM : Hid (∀ d : Bool, (d = true ↔ ∃ j, j < (l.take k).length ∧ ((l.getD j l[k]).out == l[k].out) = true) → (if l[k].out ∈ (l.take k).map Ru.out then 7 else 0) = (if d = true then 7 else 0)) := hid1 fun d hd => by
    congr 1
    rw [eq_iff_iff, hd]
    constructor
    · intro h
      obtain ⟨x, hx, e⟩ := List.mem_map.1 h
      obtain ⟨j, hj, rfl⟩ := List.getElem_of_mem hx
      refine ⟨j, hj, ?_⟩
      rw [List.getElem_take] at e
      rw [List.getD_eq_getElem?_getD, List.getElem?_eq_getElem (by simp at hj; omega), Option.getD_some, e]
      simp
    · rintro ⟨j, hj, e⟩
      have hjl : j < l.length := by simp at hj; omega
      rw [List.getD_eq_getElem?_getD, List.getElem?_eq_getElem hjl, Option.getD_some] at e
      refine List.mem_map.2 ⟨(l.take k)[j], List.getElem_mem hj, ?_⟩
      rw [List.getElem_take]
      simpa using e
  have z1 : (k : Int) ≤ (cap : Int) := by omega
  have z0 : (0 : Int) ≤ (k : Int) := by omega
  have z2 : (k : Int) ≤ 1000000 := by omega
  have hbl := lt_of_cell hb
  simp only at hbl
  obtain ⟨p3, cap3, rfl, _⟩ := hu
  clear hin hrow hnn hS hW
  generalize l[k] = r at *
  generalize hn : l.length = n at *
  cases hc : r.err with
  | succ m =>
    have HE : Hid (Ru.errAt l k = m + 1) := hid1 (by rw [HQ.out, hc]; rfl)
    rw [HE.out]
    rw [hc] at HC
    simp only [erOf] at HC ⊢
    clear HF HM
    go_enter Tryz.func176, Tryz.ntmps176
    go_wp2_with fail
    refine (HC.out _ hB0).mono ?_
    rintro e w1 ⟨rfl, g⟩
    have g1 := below_then hB0 g
    go_wp2
    go_ret
    exact ⟨rfl, g1⟩
  | zero =>
    have HE : Hid (Ru.errAt l k = if r.out ∈ (l.take k).map Ru.out then 7 else 0) := hid1 (by rw [HQ.out, hc]; rfl)
    rw [HE.out]
    rw [hc] at HC
    simp only [erOf] at HC
    have HM2 := hid1 fun d hd => congrArg (erOf es) (HM.out d hd)
    generalize erOf es (if r.out ∈ (l.take k).map Ru.out then 7 else 0) = rv at *
    clear HM HE HQ
    go_enter Tryz.func176, Tryz.ntmps176
    go_wp2_with fail
    refine (HC.out _ hB0).mono ?_
    rintro e w1 ⟨rfl, g⟩
    have g1 := below_then hB0 g
    have hr1 := cell_below' hr0 g
    have hb1 := cell_below' hb g1
    clear g hr0 hb
    go_wp2_with fail
    refine (HF.out _ g1 hr1).mono ?_
    rintro e w2 ⟨d, rfl, g, hd⟩
    have g2 := below_then g1 g
    have hx2 := cell_below' hx g2
    have HV := hid1 (HM2.out d hd)
    clear g hd HF HM2 hx
    cases d with
    | true =>
      go_wp2
      go_ret
      exact ⟨ret_eq (by rw [HV.out]; rfl), g2⟩
    | false =>
      go_wp2
      go_ret
      exact ⟨ret_eq (by rw [HV.out]; rfl), g2⟩
end Go.Proofs.YtmhipgompplkdaaGreatDoor
namespace Go.Proofs.YtmhipgompplkdaaGreatDoor
open Go.RowKit Go.Shelf Go.Lib
set_option maxRecDepth 100000 in
set_option maxHeartbeats 4000000 in
theorem searchR_calls {w : World} {es : Nat → Addr} (v : Value) (l : List Ru) (hrow : RRow w v l) (hl : l.length ≤ 1000000) (f : Nat) (caps : Array Value) (eg : ∀ args w, (callFunc f args).run Tryz.prog w = .ok (.enter f args) w) (c : Nat → Nat)
    (HS : Hid (∀ k (hk : k < l.length) W, Below w.heap.size w W → ∀ u, XRow W u l[k].ins → Calls Tryz.prog f (#[.int .i64 k, ruV l[k] u] ++ caps) W fun e w' => e = .returned (erOf es (c k)) ∧ Below W.heap.size W w')) :
    Calls Tryz.prog 175 #[v, .func (.func f) #[] caps] w fun e w' => ∃ u, e = .returned u ∧ Below w.heap.size w w' ∧ Told w' es l.length c u := by
  obtain ⟨p, cap, rfl, hcap, _, hin⟩ := hrow
  have HI := hid1 hin
  clear hin
  have zl : (l.length : Int) ≤ 1000000 := by omega
  go_enter Tryz.func175, Tryz.ntmps175
  go_wp2
  go_loopw [10] (fun i wr => ∃ k : Nat, k ≤ l.length ∧ i = .int .i64 k ∧ (∀ j, j < k → c j = 0) ∧ Below w.heap.size w wr) (fun i _ => l.length - (intOf i).toNat)
  case atStart => exact ⟨0, Nat.zero_le _, rfl, fun j h => by omega, Below.refl _ _⟩
  case round =>
    obtain ⟨k, hk, rfl, hz, hB⟩ := hrel
    have HZ := hid1 hz
    clear hz
    have c0 : (0 : Int) ≤ (k : Int) := by omega
    by_cases hlt : k < l.length
    · have c1 : (k : Int) < (l.length : Int) := by omega
      obtain ⟨g', o, rfl, hg, hcur⟩ := HI.out (by intro e; rw [e] at hlt; simp at hlt)
      obtain ⟨u0, u1, u2, u, u3, ux⟩ := hcur k hlt
      have d0 := cell_below' u0 hB
      have d1 := cell_below' u1 hB
      have d2 := cell_below' u2 hB
      have d3 := cell_below' u3 hB
      have HC := hid1 fun W (g : Below wr.heap.size wr W) => HS.out k hlt W (below_then hB g) u (ux.below (below_then hB g))
      have HQ := hid1 ux
      clear hcur HI HS u0 u1 u2 u3 ux
      generalize l[k] = y at *
      obtain ⟨p3, cap3, rfl, -⟩ := HQ.out
      have hst : ∀ (a : Addr) (m : Mode) (W : World), Sem.run Tryz.prog (store a (.slice p3 y.ins.length cap3) m) W = stored Tryz.prog W a (.slice p3 y.ins.length cap3) m := fun a m W => run_store _ W a _ m rfl
      cases hc : c k with
      | zero =>
        rw [hc] at HC
        simp only [erOf] at HC
        have HN : Hid (∀ j, j < k + 1 → c j = 0) := hid1 fun j hj => by
          rcases Nat.lt_or_ge j k with h | h
          · exact HZ.out j h
          · obtain rfl : j = k := by omega
            exact hc
        clear hc HZ HQ
        go_wp2_with fail
        refine (HC.out _ ((Below.refl _ wr).alloc (Nat.le_refl _) _)).mono ?_
        rintro e w1 ⟨rfl, hb1⟩
        have g1 := below_then (hB.alloc hB.size _) hb1
        clear HC hb1
        go_wp2
        exact ⟨⟨k + 1, by omega, by go_num, HN.out, g1⟩, by simp [intOf]; omega⟩
      | succ m =>
        rw [hc] at HC
        have HE := hid1 hc
        clear hc HQ
        simp only [erOf] at HC
        go_wp2_with fail
        refine (HC.out _ ((Below.refl _ wr).alloc (Nat.le_refl _) _)).mono ?_
        rintro e w1 ⟨rfl, hb1⟩
        have g1 := below_then (hB.alloc hB.size _) hb1
        clear HC hb1
        go_wp2
        go_ret
        refine ⟨_, rfl, g1.alloc g1.size _, .inr ⟨k, w1.heap.size, hlt, by rw [HE.out]; omega, HZ.out, rfl, ?_, ?_⟩⟩
        · simp
        · rw [HE.out]
          simp [erOf]
    · have c1 : (l.length : Int) ≤ (k : Int) := by omega
      have HN : Hid (∀ j, j < l.length → c j = 0) := hid1 fun j hj => HZ.out j (by omega)
      clear HI HS HZ
      go_wp2
      go_ret
      exact ⟨_, rfl, hB, .inl ⟨HN.out, rfl⟩⟩
set_option maxRecDepth 100000 in
set_option maxHeartbeats 4000000 in
theorem ruSheet_calls {w : World} {es : Nat → Addr} (hW : SheetW w es) (l : List Ru) (hl : l.length ≤ 1000000) (v : Value) (hrow : RRow w v l) (hS : ∀ x ∈ l, x.Small) :
    Calls Tryz.prog 120 #[v] w fun e w' => ∃ u, e = .returned u ∧ Below w.heap.size w w' ∧ ErrV w' es u (Ru.fault l) := by
  have hx := hW.e.c1
  have hB0 : Below w.heap.size w (w.alloc (.cells #[v] 66)) := (Below.refl _ w).alloc (Nat.le_refl _) _
  have hv0 : (w.alloc (.cells #[v] 66)).cell? ⟨w.heap.size, 0, none⟩ = some v := by simp
  have hx0 := cell_below' hx hB0
  have HS := hid1 (searchR_calls (w := w.alloc (.cells #[v] 66)) (es := es) v l (hrow.below hB0) hl 176 #[.pointer (some ⟨w.heap.size, 0, none⟩)] (enters_of Tryz.func176 (by kernel_rfl) rfl) (Ru.errAt l)
    (hid1 fun k hk W g u hu => ruSheet1_calls (hW.below (below_then hB0 g)) l hl v ((hrow.below hB0).below g) hS w.heap.size k hk (cell_below' hv0 g) u hu))
  have hle := Ru.errAt_le l
  have HM : Hid (40 < l.length → Ru.fault l = (2, -1)) := hid1 Ru.fault_many
  have HT : Hid (l.length ≤ 40 → ∀ (W : World) u, Told W es l.length (Ru.errAt l) u → ErrV W es u (Ru.fault l)) := hid1 fun h40 W u ht => by
    rcases ht with ⟨hz, rfl⟩ | ⟨k, pb, hk, hc, h0, rfl, h1, h2⟩
    · rw [Ru.fault_none h40 hz]
      exact .nil
    · rw [Ru.fault_some h40 hk hc h0]
      rcases hle k with h | ⟨m, hm, h⟩
      · exact absurd h hc
      · exact .inr ⟨pb, m, rfl, hm, h, h1, h2⟩
  obtain ⟨p, cap, rfl, -⟩ := hrow
  clear hW hS hle hx
  by_cases h40 : 40 < l.length
  · have z1 : (40 : Int) < (l.length : Int) := by omega
    have HQ := hid1 (HM.out h40)
    clear HS HM HT hl h40
    generalize l.length = n at *
    go_enter Tryz.func120, Tryz.ntmps120
    go_wp2
    go_ret
    exact ⟨_, rfl, hB0, by rw [HQ.out]; exact ErrV.bare (by omega)⟩
  · have z1 : (l.length : Int) ≤ 40 := by omega
    have HQ := hid1 (HT.out (by omega))
    clear HM HT h40
    generalize l.length = n at *
    go_enter Tryz.func120, Tryz.ntmps120
    go_wp2_with fail
    refine HS.out.mono ?_
    rintro e w1 ⟨u, rfl, g, ht⟩
    have g1 := below_then hB0 g
    have HE := hid1 (HQ.out _ _ ht)
    clear g ht HS HQ
    go_wp2
    go_ret
    exact ⟨_, rfl, g1, HE.out⟩
end Go.Proofs.YtmhipgompplkdaaGreatDoor
namespace Go.Proofs.YtmhipgompplkdaaGreatDoor
open Go.RowKit Go.Shelf Go.Lib
def rowB (n : Nat) (f : Nat → Bool) : List Value := (List.range n).map (fun j => Value.bool (f j))
theorem rowB_get {n : Nat} (f : Nat → Bool) {j : Nat} (h : j < n) : (rowB n f)[j]? = some (.bool (f j)) := by
  simp [rowB, h]
theorem rowB_congr {n : Nat} {f g : Nat → Bool} (h : ∀ j, j < n → f j = g j) : rowB n f = rowB n g := by
  unfold rowB
  exact List.map_congr_left fun j hj => by rw [h j (List.mem_range.1 hj)]
theorem rowB_set (n : Nat) (f : Nat → Bool) (k : Nat) (b : Bool) : (rowB n f).set k (.bool b) = rowB n (fun j => if j = k then b else f j) := by
  apply List.ext_getElem?
  intro j
  unfold rowB
  rw [List.getElem?_set]
  by_cases hj : j < n
  · by_cases e : k = j
    · subst e; simp [hj]
    · have e' : ¬ j = k := fun h => e h.symm
      simp [hj, e, e']
  · by_cases e : k = j
    · subst e; simp [hj]
    · simp [hj, e]
def Own (W : World) (B g n : Nat) (f : Nat → Bool) : Prop := W.ownsRow B 4 1 (.slice (some ⟨g, 0, none⟩) n n) n (rowB n f)
theorem Own.cell {W : World} {B g n : Nat} {f : Nat → Bool} (h : Own W B g n f) {j : Nat} (hj : j < n) : W.cell? ⟨g, j, none⟩ = some (.bool (f j)) := by
  have := World.ownsRow.cellAt h j (by omega)
  rw [this, rowB_get f hj]
theorem Own.lt {W : World} {B g n : Nat} {f : Nat → Bool} (h : Own W B g n f) : g < W.heap.size ∧ B ≤ g := by
  rcases h.2 with ⟨h', _⟩ | ⟨g', cap', cur, h', hb, hg, _⟩
  · cases h'
  · cases h'
    exact ⟨(Array.getElem?_eq_some_iff.1 hg).1, hb⟩
theorem Own.grown {W W' : World} {B g n : Nat} {f : Nat → Bool} (h : Own W B g n f) (hg : W.grownBy W' none) : Own W' B g n f :=
  World.ownsRow.kept h hg (.inr (by simp [Value.ownBlock]))
theorem Own.other {W : World} {B g n : Nat} {f : Nat → Bool} (h : Own W B g n f) {g' : Nat} (hne : g ≠ g') (k : Nat) (u : Value) : Own (W.setCell ⟨g', k, none⟩ u) B g n f :=
  ownsRow_setCell_other h (by simp [Value.ownBlock, hne]) u
theorem Own.set {W : World} {B g n : Nat} {f f' : Nat → Bool} (h : Own W B g n f) (k : Nat) (b : Bool) (hf : ∀ j, j < n → (if j = k then b else f j) = f' j) : Own (W.setCell ⟨g, k, none⟩ (.bool b)) B g n f' := by
  have := (World.ownsRow.stored h k (.bool b)).1
  rw [rowB_set, rowB_congr hf] at this
  exact this
theorem Own.below {W W' : World} {B g n : Nat} {f : Nat → Bool} (h : Own W B g n f) (hB : Below W.heap.size W W') : Own W' B g n f := by
  have hl := h.lt.1
  refine ⟨h.1, ?_⟩
  rcases h.2 with ⟨h', _⟩ | ⟨g', cap', cur, h', hb, hg, r⟩
  · cases h'
  · cases h'
    exact .inr ⟨g, n, cur, rfl, hb, (hB.block g hl).trans hg, r⟩
end Go.Proofs.YtmhipgompplkdaaGreatDoor
namespace Go.Proofs.YtmhipgompplkdaaGreatDoor
open Go.RowKit Go.Shelf Go.Lib
theorem Tryz.infoInt : (Tryz.prog.info? 3).map (fun i => (i.zero, i.size, i.bytes)) = some (some (.int .i64 0), 1, 8) := by kernel_rfl
abbrev nv (x : Nat) : Value := .int .i64 (x : Int)
def slen : Value → Nat
  | .slice _ n _ => n
  | _ => 0
def NRow (w : World) (v : Value) (l : List Nat) : Prop :=
  ∃ p cap, v = .slice p l.length cap ∧ l.length ≤ cap ∧ (l ≠ [] → ∃ g cur, p = some ⟨g, 0, none⟩ ∧ w.heap[g]? = some (.cells cur 3 (0, 0)) ∧ ∀ j (hj : j < l.length), cur[j]? = some (nv l[j]))
theorem NRow.of_owns {w : World} {base : Nat} {v : Value} {l : List Nat} {n : Nat} (h : w.ownsRow base 3 1 v n (l.map nv)) : NRow w v l := by
  have hn : n = l.length := by have := h.1; simp at this; omega
  subst hn
  rcases h.2 with ⟨rfl, hn⟩ | ⟨g, cap, cur, rfl, _, hb, h1, _, _, h4⟩
  · obtain rfl : l = [] := by simpa using hn
    exact ⟨none, 0, rfl, Nat.le_refl _, fun h => absurd rfl h⟩
  · refine ⟨_, cap, rfl, h1, fun _ => ⟨g, cur, rfl, hb, fun j hj => ?_⟩⟩
    have := congrArg (fun x => x[j]?) h4
    simp only [Nat.mul_one, List.getElem?_take, hj, if_true, List.getElem?_map, List.getElem?_eq_getElem hj, Option.map_some, Array.getElem?_toList] at this
    exact this
theorem NRow.below {w w' : World} {v : Value} {l : List Nat} (h : NRow w v l) (hb : Below w.heap.size w w') : NRow w' v l := by
  obtain ⟨p, cap, e, h0, h1⟩ := h
  refine ⟨p, cap, e, h0, fun hl => ?_⟩
  obtain ⟨g, cur, e, hg, hc⟩ := h1 hl
  exact ⟨g, cur, e, (hb.block g (Array.getElem?_eq_some_iff.1 hg).1).trans hg, hc⟩
theorem owns_slen {w : World} {base : Nat} {e : TypeId} {size : Nat} {v : Value} {n : Nat} {xs : List Value} (h : w.ownsRow base e size v n xs) : slen v = n := by
  rcases h.2 with ⟨rfl, hn⟩ | ⟨g, cap, cur, rfl, _⟩
  · exact hn.symm
  · rfl
theorem one_new (W : World) (x : Value) (t : TypeId) (n : Nat) (hn : W.heap.size = n) (j : Nat) (u : Value) (h : [x][j]? = some u) : (W.alloc (.cells #[x] t)).cell? ((⟨n, 0, none⟩ : Addr).add j) = some u := by
  subst hn
  exact cell_one_new W x t j u h
end Go.Proofs.YtmhipgompplkdaaGreatDoor
namespace Go.Proofs.YtmhipgompplkdaaGreatDoor
open Go.RowKit Go.Shelf Go.Lib
set_option maxRecDepth 100000 in
set_option maxHeartbeats 4000000 in
theorem rIndex_calls {w : World} (v : Value) (l : List (List UInt8)) (x : List UInt8) (hrow : IRow w v l) (hl : l.length ≤ 1000000) :
    Calls Tryz.prog 55 #[v, .string (ba x)] w fun e w' => ∃ r : Int, e = .returned (.int .i64 r) ∧ w' = w ∧ ((r = -1 ∧ x ∉ l) ∨ ∃ k : Nat, r = k ∧ ∃ h : k < l.length, l[k] = x ∧ x ∉ l.take k) := by
  obtain ⟨p, cap, rfl, hin⟩ := hrow
  have HI := hid1 hin
  clear hin
  have zl : (l.length : Int) ≤ 1000000 := by omega
  go_enter Tryz.func55, Tryz.ntmps55
  go_wp2
  go_loopw [5] (fun i wr => ∃ k : Nat, k ≤ l.length ∧ i = .int .i64 k ∧ x ∉ l.take k ∧ w = wr) (fun i _ => l.length - (intOf i).toNat)
  case atStart => exact ⟨0, Nat.zero_le _, rfl, by simp, rfl⟩
  case round =>
    obtain ⟨k, hk, rfl, hz, rfl⟩ := hrel
    have HZ := hid1 hz
    clear hz
    have c0 : (0 : Int) ≤ (k : Int) := by omega
    by_cases hlt : k < l.length
    · have c1 : (k : Int) < (l.length : Int) := by omega
      obtain ⟨g', o, rfl, hg, hcur⟩ := HI.out (by intro e; rw [e] at hlt; simp at hlt)
      have hcell := hcur k hlt
      have HT : Hid (l[k] ≠ x → x ∉ l.take (k + 1)) := hid1 fun hne => by
        rw [List.take_succ_eq_append_getElem hlt]
        simp only [List.mem_append, List.mem_singleton, not_or]
        exact ⟨HZ.out, fun e => hne e.symm⟩
      have HP : Hid (l[k] = x → ∃ j : Nat, (k : Int) = j ∧ ∃ h : j < l.length, l[j] = x ∧ x ∉ l.take j) := hid1 fun he => ⟨k, rfl, hlt, he, HZ.out⟩
      clear hcur HI HZ
      generalize l[k] = y at *
      by_cases he : y = x
      · subst he
        have HPP := hid1 (HP.out rfl)
        clear HP HT
        go_wp2
        go_ret
        exact ⟨_, rfl, rfl, .inr HPP.out⟩
      · have e1 : (y == x) = false := by simpa using he
        have HTT := hid1 (HT.out he)
        clear HP HT
        go_wp2
        exact ⟨⟨k + 1, by omega, by go_num, HTT.out, trivial⟩, by simp [intOf]; omega⟩
    · have c1 : (l.length : Int) ≤ (k : Int) := by omega
      have HN : Hid (x ∉ l) := hid1 (by
        have := HZ.out
        rwa [List.take_of_length_le (by omega)] at this)
      clear HI HZ
      go_wp2
      go_ret
      exact ⟨_, rfl, rfl, .inl ⟨rfl, HN.out⟩⟩
end Go.Proofs.YtmhipgompplkdaaGreatDoor
namespace Go.Proofs.YtmhipgompplkdaaGreatDoor
open Go.RowKit Go.Shelf Go.Lib
theorem owns_far {w : World} {base base' : Nat} {e e' : TypeId} {size size' : Nat} {v : Value} {g m c n n' : Nat} {xs xs' : List Value} (h : w.ownsRow base e size v n xs) (hu : w.ownsRow base' e' size' (.slice (some ⟨g, 0, none⟩) m c) n' xs') (he : e ≠ e') : v.ownBlock ≠ some g := by
  rcases h.2 with ⟨rfl, _⟩ | ⟨b, cap, cur, rfl, _, hb, _⟩
  · simp [Value.ownBlock]
  · rcases hu.2 with ⟨h', _⟩ | ⟨g', cap', cur', h', _, hb', _⟩
    · cases h'
    · cases h'
      simp only [Value.ownBlock, ne_eq, Option.some.injEq]
      rintro rfl
      rw [hb] at hb'
      simp at hb'
      exact he hb'.2
theorem len_le : ∀ {n : Nat} {o : List Nat}, o.Nodup → (∀ i ∈ o, i < n) → o.length ≤ n
  | 0, o, _, hb => by
    cases o with
    | nil => simp
    | cons a r => exact absurd (hb a (by simp)) (by omega)
  | n + 1, o, hd, hb => by
    have h1 := len_le (n := n) (hd.erase n) (fun i hi => by
      obtain ⟨hne, hm⟩ := (List.Nodup.mem_erase_iff hd).1 hi
      have := hb i hm
      omega)
    by_cases hm : n ∈ o
    · rw [List.length_erase_of_mem hm] at h1
      omega
    · rw [List.erase_of_not_mem hm] at h1
      omega
end Go.Proofs.YtmhipgompplkdaaGreatDoor
