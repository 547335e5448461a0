import Derived.Test.YtbgkfmodbofalaaGreatDoorPS18
import Derived.Test.YtbgkfmodbofalaaGreatDoorPS07
import Derived.Laws.AppendOwnNone
import Derived.Test.YtbgkfmodbofalaaGreatDoorPS10
import Derived.Test.YtbgkfmodbofalaaGreatDoorPS08
import Derived.Test.YtbgkfmodbofalaaGreatDoorPS09
import Derived.Test.YtbgkfmodbofalaaGreatDoorPS03
import Derived.Test.YtbgkfmodbofalaaGreatDoorPS05
import Derived.Shelf.SlGeneric
import Derived.Shelf.SlIter.Nil
import Derived.Shelf.SortM.Plain
import Derived.Shelf.SortM.SortNone
import Derived.Ground.GgzProg
import Derived.Ground.SlgmProg
import Derived.Test.YtbgkfmodbofalaaGreatDoorProg
import Derived.Maps.OwnSet
import Derived.Maps.RangeWalk
import Derived.Sort.KeysCollected
namespace Go.Proofs.YtbgkfmodbofalaaGreatDoor
open Go.RowKit Go.Shelf Go.Lib
theorem RRow.take {w : World} {p : Option Addr} {cap : Nat} {l : List Ru} (h : RRow w (.slice p l.length cap) l) (k : Nat) (hk : k ≤ l.length) : RRow w (.slice p k cap) (l.take k) := by
  obtain ⟨p', cap', e, h0, hn, h1⟩ := h
  obtain ⟨rfl, rfl⟩ : p = p' ∧ cap = cap' := by simpa using e
  have hl : (l.take k).length = k := by simp; omega
  refine ⟨p, cap, by rw [hl], by omega, hn, fun hne => ?_⟩
  obtain ⟨g, o, e, hg, hc⟩ := h1 (by intro e; rw [e] at hne; simp at hne)
  refine ⟨g, o, e, hg, fun j hj => ?_⟩
  rw [List.getElem_take]
  exact hc j (by omega)
theorem indexFuncR_calls {w : World} (v : Value) (l : List Ru) (hrow : RRow w v l) (hl : l.length ≤ 1000000) (f : Nat) (caps : Array Value) (eg : ∀ args w, (callFunc f args).run Tryz.prog w = .ok (.enter f args) w) (b : Nat → Bool)
    (HS : Hid (∀ k (hk : k < l.length) W, Below w.heap.size w W → ∀ u, XRow W u l[k].ins → Calls Tryz.prog f (#[ruV l[k] u] ++ caps) W fun e w' => e = .returned (.bool (b k)) ∧ Below W.heap.size W w')) :
    Calls Tryz.prog 275 #[v, .func (.func f) #[] caps] w fun e w' => ∃ r : Int, e = .returned (.int .i64 r) ∧ Below w.heap.size w w' ∧ ((r = -1 ∧ ∀ j, j < l.length → b j = false) ∨ ∃ k : Nat, r = k ∧ k < l.length ∧ b k = true) := by
  obtain ⟨p, cap, rfl, hcap, _, hin⟩ := hrow
  have HI := hid1 hin
  clear hin
  have zl : (l.length : Int) ≤ 1000000 := by omega
  go_enter Tryz.func275, Tryz.ntmps275
  go_wp2
  go_loopw [8] (fun i wr => ∃ k : Nat, k ≤ l.length ∧ i = .int .i64 k ∧ (∀ j, j < k → b j = false) ∧ Below w.heap.size w wr) (fun i _ => l.length - (intOf i).toNat)
  case atStart => exact ⟨0, Nat.zero_le _, rfl, fun j h => by omega, Below.refl _ _⟩
  case round =>
    obtain ⟨k, hk, rfl, hz, hB⟩ := hrel
    have HZ := hid1 hz
    clear hz
    have c0 : (0 : Int) ≤ (k : Int) := by omega
    by_cases hlt : k < l.length
    · have c1 : (k : Int) < (l.length : Int) := by omega
      obtain ⟨g', o, rfl, hg, hcur⟩ := HI.out (by intro e; rw [e] at hlt; simp at hlt)
      obtain ⟨u0, u1, u2, u, u3, ux⟩ := hcur k hlt
      have d0 := cell_below' u0 hB
      have d1 := cell_below' u1 hB
      have d2 := cell_below' u2 hB
      have d3 := cell_below' u3 hB
      have HC := HS.out k hlt wr hB u (ux.below hB)
      have HQ := hid1 ux
      clear hcur HI HS u0 u1 u2 u3 ux
      generalize l[k] = y at *
      obtain ⟨p3, cap3, rfl, _⟩ := HQ.out
      cases hc : b k with
      | false =>
        rw [hc] at HC
        have HN : Hid (∀ j, j < k + 1 → b j = false) := hid1 fun j hj => by
          rcases Nat.lt_or_ge j k with h | h
          · exact HZ.out j h
          · obtain rfl : j = k := by omega
            exact hc
        clear hc HZ
        go_wp2_with fail
        refine Calls.mono HC ?_
        rintro e w1 ⟨rfl, hb1⟩
        clear HC
        go_wp2
        exact ⟨⟨k + 1, by omega, by go_num, HN.out, below_then hB hb1⟩, by simp [intOf]; omega⟩
      | true =>
        rw [hc] at HC
        have HE := hid1 hc
        clear hc
        go_wp2_with fail
        refine Calls.mono HC ?_
        rintro e w1 ⟨rfl, hb1⟩
        clear HC
        go_wp2
        go_ret
        exact ⟨_, rfl, below_then hB hb1, .inr ⟨k, rfl, hlt, HE.out⟩⟩
    · have c1 : (l.length : Int) ≤ (k : Int) := by omega
      have HN : Hid (∀ j, j < l.length → b j = false) := hid1 fun j hj => HZ.out j (by omega)
      clear HI HS HZ
      go_wp2
      go_ret
      exact ⟨_, rfl, hB, .inl ⟨rfl, HN.out⟩⟩
theorem containsFuncR_calls {w : World} (v : Value) (l : List Ru) (hrow : RRow w v l) (hl : l.length ≤ 1000000) (f : Nat) (caps : Array Value) (eg : ∀ args w, (callFunc f args).run Tryz.prog w = .ok (.enter f args) w) (b : Nat → Bool)
    (HS : Hid (∀ k (hk : k < l.length) W, Below w.heap.size w W → ∀ u, XRow W u l[k].ins → Calls Tryz.prog f (#[ruV l[k] u] ++ caps) W fun e w' => e = .returned (.bool (b k)) ∧ Below W.heap.size W w')) :
    Calls Tryz.prog 192 #[v, .func (.func f) #[] caps] w fun e w' => ∃ d : Bool, e = .returned (.bool d) ∧ Below w.heap.size w w' ∧ (d = true ↔ ∃ k, k < l.length ∧ b k = true) := by
  have HC := hid1 (indexFuncR_calls v l hrow hl f caps eg b HS)
  obtain ⟨p, cap, rfl, hcap, _, hin⟩ := hrow
  clear hin HS
  go_enter Tryz.func192, Tryz.ntmps192
  go_wp2_with fail
  refine HC.out.mono ?_
  rintro e w1 ⟨r, rfl, hb, h⟩
  rcases h with ⟨rfl, h⟩ | ⟨k, rfl, hk, h⟩
  · have HN := hid1 h
    clear h
    go_wp2
    go_ret
    refine ⟨_, rfl, hb, ?_⟩
    simp
    intro k hk
    simpa using HN.out k hk
  · have HN := hid1 h
    have z : (0 : Int) ≤ (k : Int) := by omega
    clear h
    go_wp2
    go_ret
    refine ⟨true, rfl, hb, ?_⟩
    simp
    exact ⟨k, hk, HN.out⟩
set_option maxRecDepth 100000 in
set_option maxHeartbeats 4000000 in
theorem ruSheet11_calls {w : World} (x r : Ru) (b : Nat) (u : Value) (hu : XRow w u x.ins) (hR : w.cell? ⟨b, 0, none⟩ = some (.string (ba r.out))) :
    Calls Tryz.prog 193 #[ruV x u, .pointer (some ⟨b, 0, none⟩)] w fun e w' => e = .returned (.bool (x.out == r.out)) ∧ Below w.heap.size w w' := by
  have hB0 : Below w.heap.size w (w.alloc (.cells #[.string (ba x.out), .string (ba x.kind), .string (ba x.word), u] 90)) := (Below.refl _ w).alloc (Nat.le_refl _) _
  have h0 := cell_below' hR hB0
  obtain ⟨p3, cap3, rfl, _⟩ := hu
  go_enter Tryz.func193, Tryz.ntmps193
  go_wp2
  go_ret
  exact ⟨rfl, hB0⟩
structure SheetW (w : World) (es : Nat → Addr) : Prop where
  e : ES w es
  a : AE w (erOf es)
theorem SheetW.below {w W : World} {es : Nat → Addr} (h : SheetW w es) (hb : Below w.heap.size w W) : SheetW W es := ⟨h.e.below hb, h.a.stays hb⟩
set_option maxRecDepth 100000 in
set_option maxHeartbeats 4000000 in
theorem ruSheet1_calls {w : World} {es : Nat → Addr} (hW : SheetW w es) (l : List Ru) (hl : l.length ≤ 1000000) (v : Value) (hrow : RRow w v l) (hS : ∀ x ∈ l, x.Small) (b k : Nat) (hk : k < l.length) (hb : w.cell? ⟨b, 0, none⟩ = some v) (u : Value) (hu : XRow w u l[k].ins) :
    Calls Tryz.prog 190 #[.int .i64 k, ruV l[k] u, .pointer (some ⟨b, 0, none⟩)] w fun e w' => e = .returned (erOf es (Ru.errAt l k)) ∧ Below w.heap.size w w' := by
  have HQ := hid1 (Ru.errAt_eq hk)
  have HC := hid1 fun W (g : Below w.heap.size w W) => ruCheck_calls (hW.e.below g) (hW.a.stays g) l[k] (hS _ (List.getElem_mem hk)) u (hu.below g)
  have hB0 : Below w.heap.size w (w.alloc (.cells #[.string (ba l[k].out), .string (ba l[k].kind), .string (ba l[k].word), u] 90)) := (Below.refl _ w).alloc (Nat.le_refl _) _
  have hr0 : (w.alloc (.cells #[.string (ba l[k].out), .string (ba l[k].kind), .string (ba l[k].word), u] 90)).cell? ⟨w.heap.size, 0, none⟩ = some (.string (ba l[k].out)) := by simp
  have hx := hW.e.c6
  obtain ⟨p, cap, rfl, hcap, hnn, hin⟩ := hrow
  have hrow : RRow w (.slice p l.length cap) l := ⟨p, cap, rfl, hcap, hnn, hin⟩
  have HF := hid1 fun W (g : Below w.heap.size w W) (hr : W.cell? ⟨w.heap.size, 0, none⟩ = some (.string (ba l[k].out))) =>
    containsFuncR_calls (.slice p k cap) (l.take k) ((hrow.below g).take k (by omega)) (by simp; omega) 193 #[.pointer (some ⟨w.heap.size, 0, none⟩)] (enters_of Tryz.func193 (by kernel_rfl) rfl) (fun j => (l.getD j l[k]).out == l[k].out)
      (hid1 fun j hj W' g' u' hu' => by
        have hjl : j < l.length := by simp at hj; omega
        have := ruSheet11_calls (l.take k)[j] l[k] w.heap.size u' hu' (cell_below' hr g')
        rw [List.getElem_take] at this ⊢
        rw [List.getD_eq_getElem?_getD, List.getElem?_eq_getElem hjl, Option.getD_some]
        exact this)
  have HM : Hid (∀ d : Bool, (d = true ↔ ∃ j, j < (l.take k).length ∧ ((l.getD j l[k]).out == l[k].out) = true) → (if l[k].out ∈ (l.take k).map Ru.out then 7 else 0) = (if d = true then 7 else 0)) := hid1 fun d hd => by
    congr 1
    rw [eq_iff_iff, hd]
    constructor
    · intro h
      obtain ⟨x, hx, e⟩ := List.mem_map.1 h
      obtain ⟨j, hj, rfl⟩ := List.getElem_of_mem hx
      refine ⟨j, hj, ?_⟩
      rw [List.getElem_take] at e
      rw [List.getD_eq_getElem?_getD, List.getElem?_eq_getElem (by simp at hj; omega), Option.getD_some, e]
      simp
    · rintro ⟨j, hj, e⟩
      have hjl : j < l.length := by simp at hj; omega
      rw [List.getD_eq_getElem?_getD, List.getElem?_eq_getElem hjl, Option.getD_some] at e
      refine List.mem_map.2 ⟨(l.take k)[j], List.getElem_mem hj, ?_⟩
      rw [List.getElem_take]
      simpa using e
  have z1 : (k : Int) ≤ (cap : Int) := by omega
  have z0 : (0 : Int) ≤ (k : Int) := by omega
  have z2 : (k : Int) ≤ 1000000 := by omega
  have hbl := lt_of_cell hb
  simp only at hbl
  obtain ⟨p3, cap3, rfl, _⟩ := hu
  clear hin hrow hnn hS hW
  generalize l[k] = r at *
  generalize hn : l.length = n at *
  cases hc : r.err with
  | succ m =>
    have HE : Hid (Ru.errAt l k = m + 1) := hid1 (by rw [HQ.out, hc]; rfl)
    rw [HE.out]
    rw [hc] at HC
    simp only [erOf] at HC ⊢
    clear HF HM
    go_enter Tryz.func190, Tryz.ntmps190
    go_wp2_with fail
    refine (HC.out _ hB0).mono ?_
    rintro e w1 ⟨rfl, g⟩
    have g1 := below_then hB0 g
    go_wp2
    go_ret
    exact ⟨rfl, g1⟩
  | zero =>
    have HE : Hid (Ru.errAt l k = if r.out ∈ (l.take k).map Ru.out then 7 else 0) := hid1 (by rw [HQ.out, hc]; rfl)
    rw [HE.out]
    rw [hc] at HC
    simp only [erOf] at HC
    have HM2 := hid1 fun d hd => congrArg (erOf es) (HM.out d hd)
    generalize erOf es (if r.out ∈ (l.take k).map Ru.out then 7 else 0) = rv at *
    clear HM HE HQ
    go_enter Tryz.func190, Tryz.ntmps190
    go_wp2_with fail
    refine (HC.out _ hB0).mono ?_
    rintro e w1 ⟨rfl, g⟩
    have g1 := below_then hB0 g
    have hr1 := cell_below' hr0 g
    have hb1 := cell_below' hb g1
    clear g hr0 hb
    go_wp2_with fail
    refine (HF.out _ g1 hr1).mono ?_
    rintro e w2 ⟨d, rfl, g, hd⟩
    have g2 := below_then g1 g
    have hx2 := cell_below' hx g2
    have HV := hid1 (HM2.out d hd)
    clear g hd HF HM2 hx
    cases d with
    | true =>
      go_wp2
      go_ret
      exact ⟨ret_eq (by rw [HV.out]; rfl), g2⟩
    | false =>
      go_wp2
      go_ret
      exact ⟨ret_eq (by rw [HV.out]; rfl), g2⟩
end Go.Proofs.YtbgkfmodbofalaaGreatDoor
namespace Go.Proofs.YtbgkfmodbofalaaGreatDoor
open Go.RowKit Go.Shelf Go.Lib
set_option maxRecDepth 100000 in
set_option maxHeartbeats 4000000 in
theorem searchR_calls {w : World} {es : Nat → Addr} (v : Value) (l : List Ru) (hrow : RRow w v l) (hl : l.length ≤ 1000000) (f : Nat) (caps : Array Value) (eg : ∀ args w, (callFunc f args).run Tryz.prog w = .ok (.enter f args) w) (c : Nat → Nat)
    (HS : Hid (∀ k (hk : k < l.length) W, Below w.heap.size w W → ∀ u, XRow W u l[k].ins → Calls Tryz.prog f (#[.int .i64 k, ruV l[k] u] ++ caps) W fun e w' => e = .returned (erOf es (c k)) ∧ Below W.heap.size W w')) :
    Calls Tryz.prog 189 #[v, .func (.func f) #[] caps] w fun e w' => ∃ u, e = .returned u ∧ Below w.heap.size w w' ∧ Told w' es l.length c u := by
  obtain ⟨p, cap, rfl, hcap, _, hin⟩ := hrow
  have HI := hid1 hin
  clear hin
  have zl : (l.length : Int) ≤ 1000000 := by omega
  go_enter Tryz.func189, Tryz.ntmps189
  go_wp2
  go_loopw [10] (fun i wr => ∃ k : Nat, k ≤ l.length ∧ i = .int .i64 k ∧ (∀ j, j < k → c j = 0) ∧ Below w.heap.size w wr) (fun i _ => l.length - (intOf i).toNat)
  case atStart => exact ⟨0, Nat.zero_le _, rfl, fun j h => by omega, Below.refl _ _⟩
  case round =>
    obtain ⟨k, hk, rfl, hz, hB⟩ := hrel
    have HZ := hid1 hz
    clear hz
    have c0 : (0 : Int) ≤ (k : Int) := by omega
    by_cases hlt : k < l.length
    · have c1 : (k : Int) < (l.length : Int) := by omega
      obtain ⟨g', o, rfl, hg, hcur⟩ := HI.out (by intro e; rw [e] at hlt; simp at hlt)
      obtain ⟨u0, u1, u2, u, u3, ux⟩ := hcur k hlt
      have d0 := cell_below' u0 hB
      have d1 := cell_below' u1 hB
      have d2 := cell_below' u2 hB
      have d3 := cell_below' u3 hB
      have HC := hid1 fun W (g : Below wr.heap.size wr W) => HS.out k hlt W (below_then hB g) u (ux.below (below_then hB g))
      have HQ := hid1 ux
      clear hcur HI HS u0 u1 u2 u3 ux
      generalize l[k] = y at *
      obtain ⟨p3, cap3, rfl, -⟩ := HQ.out
      have hst : ∀ (a : Addr) (m : Mode) (W : World), Sem.run Tryz.prog (store a (.slice p3 y.ins.length cap3) m) W = stored Tryz.prog W a (.slice p3 y.ins.length cap3) m := fun a m W => run_store _ W a _ m rfl
      cases hc : c k with
      | zero =>
        rw [hc] at HC
        simp only [erOf] at HC
        have HN : Hid (∀ j, j < k + 1 → c j = 0) := hid1 fun j hj => by
          rcases Nat.lt_or_ge j k with h | h
          · exact HZ.out j h
          · obtain rfl : j = k := by omega
            exact hc
        clear hc HZ HQ
        go_wp2_with fail
        refine (HC.out _ ((Below.refl _ wr).alloc (Nat.le_refl _) _)).mono ?_
        rintro e w1 ⟨rfl, hb1⟩
        have g1 := below_then (hB.alloc hB.size _) hb1
        clear HC hb1
        go_wp2
        exact ⟨⟨k + 1, by omega, by go_num, HN.out, g1⟩, by simp [intOf]; omega⟩
      | succ m =>
        rw [hc] at HC
        have HE := hid1 hc
        clear hc HQ
        simp only [erOf] at HC
        go_wp2_with fail
        refine (HC.out _ ((Below.refl _ wr).alloc (Nat.le_refl _) _)).mono ?_
        rintro e w1 ⟨rfl, hb1⟩
        have g1 := below_then (hB.alloc hB.size _) hb1
        clear HC hb1
        go_wp2
        go_ret
        refine ⟨_, rfl, g1.alloc g1.size _, .inr ⟨k, w1.heap.size, hlt, by rw [HE.out]; omega, HZ.out, rfl, ?_, ?_⟩⟩
        · simp
        · rw [HE.out]
          simp [erOf]
    · have c1 : (l.length : Int) ≤ (k : Int) := by omega
      have HN : Hid (∀ j, j < l.length → c j = 0) := hid1 fun j hj => HZ.out j (by omega)
      clear HI HS HZ
      go_wp2
      go_ret
      exact ⟨_, rfl, hB, .inl ⟨HN.out, rfl⟩⟩
set_option maxRecDepth 100000 in
set_option maxHeartbeats 4000000 in
theorem ruSheet_calls {w : World} {es : Nat → Addr} (hW : SheetW w es) (l : List Ru) (hl : l.length ≤ 1000000) (v : Value) (hrow : RRow w v l) (hS : ∀ x ∈ l, x.Small) :
    Calls Tryz.prog 132 #[v] w fun e w' => ∃ u, e = .returned u ∧ Below w.heap.size w w' ∧ ErrV w' es u (Ru.fault l) := by
  have hx := hW.e.c1
  have hB0 : Below w.heap.size w (w.alloc (.cells #[v] 66)) := (Below.refl _ w).alloc (Nat.le_refl _) _
  have hv0 : (w.alloc (.cells #[v] 66)).cell? ⟨w.heap.size, 0, none⟩ = some v := by simp
  have hx0 := cell_below' hx hB0
  have HS := hid1 (searchR_calls (w := w.alloc (.cells #[v] 66)) (es := es) v l (hrow.below hB0) hl 190 #[.pointer (some ⟨w.heap.size, 0, none⟩)] (enters_of Tryz.func190 (by kernel_rfl) rfl) (Ru.errAt l)
    (hid1 fun k hk W g u hu => ruSheet1_calls (hW.below (below_then hB0 g)) l hl v ((hrow.below hB0).below g) hS w.heap.size k hk (cell_below' hv0 g) u hu))
  have hle := Ru.errAt_le l
  have HM : Hid (40 < l.length → Ru.fault l = (2, -1)) := hid1 Ru.fault_many
  have HT : Hid (l.length ≤ 40 → ∀ (W : World) u, Told W es l.length (Ru.errAt l) u → ErrV W es u (Ru.fault l)) := hid1 fun h40 W u ht => by
    rcases ht with ⟨hz, rfl⟩ | ⟨k, pb, hk, hc, h0, rfl, h1, h2⟩
    · rw [Ru.fault_none h40 hz]
      exact .nil
    · rw [Ru.fault_some h40 hk hc h0]
      rcases hle k with h | ⟨m, hm, h⟩
      · exact absurd h hc
      · exact .inr ⟨pb, m, rfl, hm, h, h1, h2⟩
  obtain ⟨p, cap, rfl, -⟩ := hrow
  clear hW hS hle hx
  by_cases h40 : 40 < l.length
  · have z1 : (40 : Int) < (l.length : Int) := by omega
    have HQ := hid1 (HM.out h40)
    clear HS HM HT hl h40
    generalize l.length = n at *
    go_enter Tryz.func132, Tryz.ntmps132
    go_wp2
    go_ret
    exact ⟨_, rfl, hB0, by rw [HQ.out]; exact ErrV.bare (by omega)⟩
  · have z1 : (l.length : Int) ≤ 40 := by omega
    have HQ := hid1 (HT.out (by omega))
    clear HM HT h40
    generalize l.length = n at *
    go_enter Tryz.func132, Tryz.ntmps132
    go_wp2_with fail
    refine HS.out.mono ?_
    rintro e w1 ⟨u, rfl, g, ht⟩
    have g1 := below_then hB0 g
    have HE := hid1 (HQ.out _ _ ht)
    clear g ht HS HQ
    go_wp2
    go_ret
    exact ⟨_, rfl, g1, HE.out⟩
end Go.Proofs.YtbgkfmodbofalaaGreatDoor
namespace Go.Proofs.YtbgkfmodbofalaaGreatDoor
open Go.RowKit Go.Shelf Go.Lib
def Af.gtB (y x : List UInt8) : Bool := !Op.bytesLess y x && !(y == x)
def Af.Laid (l : List (List UInt8)) (x : List UInt8) (r : List (List UInt8)) : Prop :=
  ∃ k, k ≤ l.length ∧ r = l.take k ++ x :: l.drop k ∧ (∀ j (hj : j < l.length), k ≤ j → Af.gtB l[j] x = true) ∧ (∀ hk : k - 1 < l.length, 0 < k → Af.gtB l[k - 1] x = false)
end Go.Proofs.YtbgkfmodbofalaaGreatDoor
namespace Go.Proofs.YtbgkfmodbofalaaGreatDoor
open Go.RowKit Go.Shelf Go.Lib
theorem gtB_le {x y : List UInt8} (h : Af.gtB y x = true) : x ≤ y := by
  unfold Af.gtB at h
  simp only [Bool.and_eq_true, Bool.not_eq_true'] at h
  have h1 := h.1
  rw [Tf.less_before] at h1
  refine List.not_lt.1 fun e => ?_
  rw [(Tf.before_lt y x).2 e] at h1
  cases h1
theorem gtB_ge {x y : List UInt8} (h : Af.gtB y x = false) : y ≤ x := by
  unfold Af.gtB at h
  simp only [Bool.and_eq_false_iff, Bool.not_eq_false'] at h
  rcases h with h | h
  · rw [Tf.less_before] at h
    exact List.le_of_lt ((Tf.before_lt y x).1 h)
  · rw [beq_iff_eq.1 h]
    exact List.le_refl _
theorem laid_sorted {l r : List (List UInt8)} {x : List UInt8} (hl : l.Pairwise (fun x y => x ≤ y)) (h : Af.Laid l x r) : r.Pairwise (fun x y => x ≤ y) ∧ r.Perm (l ++ [x]) := by
  obtain ⟨k, hk, rfl, hhi, hlo⟩ := h
  have hd : ∀ b ∈ l.drop k, x ≤ b := by
    intro b hb
    obtain ⟨j, hj, rfl⟩ := List.getElem_of_mem hb
    rw [List.getElem_drop]
    exact gtB_le (hhi (k + j) (by simp at hj; omega) (by omega))
  have ht : ∀ a ∈ l.take k, a ≤ x := by
    intro a ha
    obtain ⟨j, hj, rfl⟩ := List.getElem_of_mem ha
    rw [List.getElem_take]
    have hj' : j < k := by simp at hj; omega
    have h1 := gtB_ge (hlo (by omega) (by omega))
    by_cases e : j = k - 1
    · subst e; exact h1
    · exact List.le_trans (List.pairwise_iff_getElem.1 hl j (k - 1) (by omega) (by omega) (by omega)) h1
  constructor
  · rw [List.pairwise_append, List.pairwise_cons]
    refine ⟨hl.sublist (List.take_sublist k l), ⟨hd, hl.sublist (List.drop_sublist k l)⟩, ?_⟩
    intro a ha b hb
    rcases List.mem_cons.1 hb with rfl | hb
    · exact ht a ha
    · exact List.le_trans (ht a ha) (hd b hb)
  · have : (l.take k ++ x :: l.drop k).Perm (x :: (l.take k ++ l.drop k)) := List.perm_middle
    rw [List.take_append_drop] at this
    exact this.trans (List.perm_append_comm (l₁ := [x]) (l₂ := l))
end Go.Proofs.YtbgkfmodbofalaaGreatDoor
namespace Go.Proofs.YtbgkfmodbofalaaGreatDoor
open Go.RowKit Go.Shelf Go.Lib
namespace Ru
def Leaf (l : List Ru) (x : List UInt8) : Prop := (∃ y ∈ l, x ∈ y.ins) ∧ ∀ z ∈ l, z.out ≠ x
structure Leaves (l : List Ru) (r : List (List UInt8)) : Prop where
  rises : r.Pairwise (fun x y => x ≤ y)
  once : r.Nodup
  mem : ∀ x, x ∈ r ↔ Leaf l x
theorem Leaves.unique {l : List Ru} {r r' : List (List UInt8)} (h : Leaves l r) (h' : Leaves l r') : r = r' := by
  have hp : r.Perm r' := (List.perm_ext_iff_of_nodup h.once h'.once).2 fun x => (h.mem x).trans (h'.mem x).symm
  refine List.Perm.eq_of_pairwise (le := fun x y : List UInt8 => x ≤ y) ?_ h.rises h'.rises hp
  intro a b _ _ h1 h2
  exact List.le_antisymm h1 h2
end Ru
theorem TRow.irow {w : World} {v : Value} {l : List (List UInt8)} (h : TRow w v l) : IRow w v l := by
  obtain ⟨p, cap, e, _, h1⟩ := h
  refine ⟨p, cap, e, fun hl => ?_⟩
  obtain ⟨g, cur, e, hg, hc⟩ := h1 hl
  exact ⟨g, 0, e, (Array.getElem?_eq_some_iff.1 hg).1, fun j hj => by rw [Nat.zero_add]; exact cell_of_row hg (hc j hj)⟩
theorem leaf_laid_ne {l r : List (List UInt8)} {x : List UInt8} (h : Af.Laid l x r) : r ≠ [] ∧ r.length = l.length + 1 := by
  obtain ⟨k, hk, rfl, _⟩ := h
  constructor
  · simp
  · simp; omega
structure LeafSt (l : List Ru) (i k : Nat) (r : List (List UInt8)) : Prop where
  rises : r.Pairwise (fun x y => x ≤ y)
  once : r.Nodup
  mem : ∀ x, x ∈ r ↔ ((∃ y ∈ l.take i, x ∈ y.ins) ∨ ∃ y, l[i]? = some y ∧ x ∈ y.ins.take k) ∧ ∀ z ∈ l, z.out ≠ x
  few : r.length ≤ i * 12 + k
theorem LeafSt.first (l : List Ru) : LeafSt l 0 0 [] := ⟨List.Pairwise.nil, List.nodup_nil, fun x => by simp, by simp⟩
theorem LeafSt.same {l : List Ru} {i k : Nat} {r : List (List UInt8)} (hi : i < l.length) (hk : k < l[i].ins.length) (h : LeafSt l i k r) (hs : l[i].ins[k] ∈ r ∨ ∃ z ∈ l, z.out = l[i].ins[k]) : LeafSt l i (k + 1) r := by
  refine ⟨h.rises, h.once, fun x => ?_, by have := h.few; omega⟩
  rw [h.mem, List.getElem?_eq_getElem hi]
  simp only [Option.some.injEq]
  constructor
  · rintro ⟨h1, h2⟩
    refine ⟨?_, h2⟩
    rcases h1 with h1 | ⟨y, rfl, hx⟩
    · exact .inl h1
    · exact .inr ⟨_, rfl, (List.take_sublist_take_left (Nat.le_succ k)).subset hx⟩
  · rintro ⟨h1, h2⟩
    rcases h1 with h1 | ⟨y, rfl, hx⟩
    · exact ⟨.inl h1, h2⟩
    · rw [List.take_succ_eq_append_getElem hk, List.mem_append, List.mem_singleton] at hx
      rcases hx with hx | rfl
      · exact ⟨.inr ⟨_, rfl, hx⟩, h2⟩
      · rcases hs with hs | ⟨z, hz, e⟩
        · have := (h.mem _).1 hs
          rw [List.getElem?_eq_getElem hi] at this
          simpa only [Option.some.injEq] using this
        · exact absurd e (h2 z hz)
theorem LeafSt.laid {l : List Ru} {i k : Nat} {r r' : List (List UInt8)} (hi : i < l.length) (hk : k < l[i].ins.length) (h : LeafSt l i k r) (hn : l[i].ins[k] ∉ r) (hm : ∀ z ∈ l, z.out ≠ l[i].ins[k]) (hL : Af.Laid r l[i].ins[k] r') : LeafSt l i (k + 1) r' := by
  obtain ⟨h1, h2⟩ := laid_sorted h.rises hL
  refine ⟨h1, ?_, fun x => ?_, by rw [(leaf_laid_ne hL).2]; have := h.few; omega⟩
  · rw [h2.nodup_iff, List.nodup_append]
    exact ⟨h.once, by simp, fun a ha b hb => by
      rw [List.mem_singleton.1 hb]
      rintro rfl
      exact hn ha⟩
  · rw [h2.mem_iff, List.mem_append, List.mem_singleton, h.mem, List.getElem?_eq_getElem hi]
    simp only [Option.some.injEq]
    constructor
    · rintro (⟨h1, h2⟩ | rfl)
      · refine ⟨?_, h2⟩
        rcases h1 with h1 | ⟨y, rfl, hx⟩
        · exact .inl h1
        · exact .inr ⟨_, rfl, (List.take_sublist_take_left (Nat.le_succ k)).subset hx⟩
      · exact ⟨.inr ⟨_, rfl, by rw [List.take_succ_eq_append_getElem hk]; exact List.mem_append_right _ (List.mem_singleton.2 rfl)⟩, hm⟩
    · rintro ⟨h1, h2⟩
      rcases h1 with h1 | ⟨y, rfl, hx⟩
      · exact .inl ⟨.inl h1, h2⟩
      · rw [List.take_succ_eq_append_getElem hk, List.mem_append, List.mem_singleton] at hx
        rcases hx with hx | rfl
        · exact .inl ⟨.inr ⟨_, rfl, hx⟩, h2⟩
        · exact .inr rfl
theorem LeafSt.done {l : List Ru} {r : List (List UInt8)} (h : LeafSt l l.length 0 r) : Ru.Leaves l r :=
  ⟨h.rises, h.once, fun x => by
    rw [h.mem, List.take_length]
    unfold Ru.Leaf
    simp⟩
end Go.Proofs.YtbgkfmodbofalaaGreatDoor
namespace Go.Proofs.YtbgkfmodbofalaaGreatDoor
open Go.RowKit Go.Shelf Go.Lib
def NIRow (w : World) (v : Value) (l : List Nat) : Prop :=
  ∃ p cap, v = .slice p l.length cap ∧ (l ≠ [] → ∃ g o, p = some ⟨g, o, none⟩ ∧ g < w.heap.size ∧ ∀ j (hj : j < l.length), w.cell? ⟨g, o + j, none⟩ = some (nv l[j]))
theorem NIRow.below {w w' : World} {v : Value} {l : List Nat} (h : NIRow w v l) (hb : Below w.heap.size w w') : NIRow w' v l := by
  obtain ⟨p, cap, e, h1⟩ := h
  refine ⟨p, cap, e, fun hl => ?_⟩
  obtain ⟨g, o, e, hg, hc⟩ := h1 hl
  exact ⟨g, o, e, Nat.lt_of_lt_of_le hg hb.size, fun j hj => (hb.cell (p := ⟨g, o + j, none⟩) hg).trans (hc j hj)⟩
theorem NRow.ni {w : World} {v : Value} {l : List Nat} (h : NRow w v l) : NIRow w v l := by
  obtain ⟨p, cap, e, _, h1⟩ := h
  refine ⟨p, cap, e, fun hl => ?_⟩
  obtain ⟨g, cur, e, hg, hc⟩ := h1 hl
  exact ⟨g, 0, e, (Array.getElem?_eq_some_iff.1 hg).1, fun j hj => by rw [Nat.zero_add]; exact cell_of_row hg (hc j hj)⟩
end Go.Proofs.YtbgkfmodbofalaaGreatDoor
namespace Go.Proofs.YtbgkfmodbofalaaGreatDoor
open Go.RowKit Go.Shelf Go.Lib
def NoRow (v : Value) : Prop := ∃ p cap, v = .slice p 0 cap
abbrev allB1 : Nat → Bool := fun _ => true
def OrderTells (es : Nat → Addr) (l : List Ru) (w : World) (u ev : Value) : Prop :=
  ((Ru.fault l).1 ≠ 0 ∧ ErrV w es ev (Ru.fault l) ∧ NoRow u) ∨
  ((Ru.fault l).1 = 0 ∧ Ru.order l allB1 = none ∧ ev = erOf es 9 ∧ NoRow u) ∨
  ((Ru.fault l).1 = 0 ∧ ∃ o, Ru.order l allB1 = some o ∧ ev = .nilIface ∧ NIRow w u o)
def NeedsTells (es : Nat → Addr) (l : List Ru) (outs : List (List UInt8)) (w : World) (u ev : Value) : Prop :=
  ((Ru.fault l).1 ≠ 0 ∧ ErrV w es ev (Ru.fault l) ∧ NoRow u) ∨
  ((Ru.fault l).1 = 0 ∧ ∃ k, ∃ hk : k < outs.length, (∀ x ∈ l, x.out ≠ outs[k]) ∧ (∀ j (hj : j < outs.length), j < k → ∃ x ∈ l, x.out = outs[j]) ∧ ErrV w es ev (6, (k : Int)) ∧ NoRow u) ∨
  ((Ru.fault l).1 = 0 ∧ (∀ j (hj : j < outs.length), ∃ x ∈ l, x.out = outs[j]) ∧ ev = .nilIface ∧ ∃ f, Ru.Needed l outs f ∧ NIRow w u ((List.range l.length).filter f))
structure GraphW (w : World) (es : Nat → Addr) : Prop where
  s : SheetW w es
  cyc : w.cell? ⟨11, 0, none⟩ = some (erOf es 9)
theorem GraphW.below {w w' : World} {es : Nat → Addr} (h : GraphW w es) (hb : Below w.heap.size w w') : GraphW w' es := ⟨h.s.below hb, cell_below' h.cyc hb⟩
theorem ErrV.some {w : World} {es : Nat → Addr} {v : Value} {f : Nat × Int} (h : ErrV w es v f) (hf : f.1 ≠ 0) : ∃ t u, v = .iface t u := by
  rcases h with ⟨_, rfl, _⟩ | ⟨pb, m, rfl, _⟩
  · obtain ⟨c, n⟩ := f
    cases c with
    | zero => exact absurd rfl hf
    | succ k => exact ⟨_, _, rfl⟩
  · exact ⟨_, _, rfl⟩
set_option maxRecDepth 100000 in
set_option maxHeartbeats 4000000 in
theorem SameInts_ni {w : World} (a b : Value) (l : List Nat) (ha : NIRow w a l) (hb : NIRow w b l) (hl : l.length ≤ 1000) :
    Calls Tryz.prog 51 #[a, b] w fun e w' => e = .returned (.bool true) ∧ ∃ q, w' = w.drewN q := by
  obtain ⟨pa, ca, rfl, ha⟩ := ha
  obtain ⟨pb, cb, rfl, hb⟩ := hb
  have HA := hid1 ha
  have HB := hid1 hb
  clear ha hb
  have zl : (l.length : Int) ≤ 1000 := by omega
  go_enter Tryz.func51, Tryz.ntmps51
  go_wp2
  go_loopw [5] (fun i wr => ∃ k : Nat, k ≤ l.length ∧ i = .int .i64 k ∧ ∃ q, wr = w.drewN q) (fun i _ => l.length - (intOf i).toNat)
  case atStart => exact ⟨0, Nat.zero_le _, rfl, 0, rfl⟩
  case round =>
    obtain ⟨k, hk, rfl, q, rfl⟩ := hrel
    have c0 : (0 : Int) ≤ (k : Int) := by omega
    by_cases hlt : k < l.length
    · have c1 : (k : Int) < (l.length : Int) := by omega
      obtain ⟨ga, oa, rfl, _, h1⟩ := HA.out (by intro e; rw [e] at hlt; simp at hlt)
      obtain ⟨gb, ob, rfl, _, h2⟩ := HB.out (by intro e; rw [e] at hlt; simp at hlt)
      have d1 := h1 k hlt
      have d2 := h2 k hlt
      clear h1 h2 HA HB
      generalize l[k] = y at *
      go_wp2
      go_region
      go_wp2
      exact ⟨⟨k + 1, by omega, by go_num, q + 1, rfl⟩, by simp [intOf]; omega⟩
    · have c1 : (l.length : Int) ≤ (k : Int) := by omega
      clear HA HB
      go_wp2
      go_ret
      exact ⟨rfl, q, rfl⟩
end Go.Proofs.YtbgkfmodbofalaaGreatDoor
namespace Go.Proofs.YtbgkfmodbofalaaGreatDoor
open Go.RowKit Go.Shelf Go.Lib Go.Maps
open Tf (Fs)
def fileElem : Value → Option (DataW Unit × List MemPlace)
  | .agg ⟨[.string s]⟩ => some (.lit (.string s.data.toList), [])
  | _ => none
theorem fileElem_mk (l : List UInt8) : fileElem (.agg #[.string (ba l)]) = some (.lit (.string l), []) := rfl
theorem fileElem_inv {v : Value} {z : DataW Unit × List MemPlace} (h : fileElem v = some z) : ∃ l : List UInt8, v = .agg #[.string (ba l)] ∧ z = (.lit (.string l), []) := by
  unfold fileElem at h
  split at h
  · cases h
    rename_i s
    exact ⟨s.data.toList, rfl, rfl⟩
  · cases h
theorem klaw : Keyed Tryz.prog 9 := string_keyed Tryz.underlying9
theorem kkey (p : List UInt8) (hp : p.length ≤ 1000000) : keyOf Tryz.prog 9 (.string (ba p)) = some (.string p) :=
  WideMaps.keyOf_string_mk Tryz.underlying9 (s := ba p) (by rw [ba_size]; unfold maxLen; omega)
abbrev Ptr (tb : Nat) : Value := .pointer (some ⟨tb, 0, none⟩)
def MapAt (B : Nat) (w : World) (tb : Nat) (o : Option Nat) (fs : Fs) : Prop :=
  match o with
  | none => fs = []
  | some bm => B ≤ bm ∧ bm ≠ tb ∧ w.ownsMap Tryz.prog 9 fileElem bm fs.length (Tf.datum fs)
structure TreeAt (B : Nat) (w : World) (tb : Nat) (fs : Fs) (o : Option Nat) : Prop where
  low : B ≤ tb
  cell : w.cell? ⟨tb, 0, none⟩ = some (.map o)
  free : w.frozen? ⟨tb, 0, none⟩ = false
  isMap : MapAt B w tb o fs
theorem TreeAt.lt {B : Nat} {w : World} {tb : Nat} {fs : Fs} {o : Option Nat} (h : TreeAt B w tb fs o) : tb < w.heap.size := lt_of_cell h.cell
theorem ownsMap_below {w w' : World} {b n : Nat} {D : DataW Unit} {R : Value → Option (DataW Unit × List MemPlace)} (h : w.ownsMap Tryz.prog 9 R b n D) (hb : Below w.heap.size w w') : w'.ownsMap Tryz.prog 9 R b n D := by
  have hlt := h.lt
  obtain ⟨es, clock, h1, F, hs, hD⟩ := h
  exact ⟨es, clock, (hb.block b hlt).trans h1, F, hs, hD⟩
theorem TreeAt.below {B : Nat} {w w' : World} {tb : Nat} {fs : Fs} {o : Option Nat} (h : TreeAt B w tb fs o) (hb : Below w.heap.size w w') : TreeAt B w' tb fs o := by
  refine ⟨h.low, (hb.cell (p := ⟨tb, 0, none⟩) h.lt).trans h.cell, (hb.frozen (p := ⟨tb, 0, none⟩) h.lt).trans h.free, ?_⟩
  cases o with
  | none => exact h.isMap
  | some bm => exact ⟨h.isMap.1, h.isMap.2.1, ownsMap_below h.isMap.2.2 hb⟩
theorem TreeAt.mono {B B' : Nat} {w : World} {tb : Nat} {fs : Fs} {o : Option Nat} (h : TreeAt B w tb fs o) (hB : B' ≤ B) : TreeAt B' w tb fs o := by
  refine ⟨Nat.le_trans hB h.low, h.cell, h.free, ?_⟩
  cases o with
  | none => exact h.isMap
  | some bm => exact ⟨Nat.le_trans hB h.isMap.1, h.isMap.2⟩
theorem ownsMap_tight {w : World} {b n : Nat} {fs : Fs} {R : Value → Option (DataW Unit × List MemPlace)} (h : w.ownsMap Tryz.prog 9 R b n (Tf.datum fs)) : w.ownsMap Tryz.prog 9 R b fs.length (Tf.datum fs) := by
  obtain ⟨es, clock, h1, F, _, hD⟩ := h
  refine ⟨es, clock, h1, F, ?_, hD⟩
  have := congrArg Maps.size hD
  rw [Tf.datum_size] at this
  rw [this]
  simp [Maps.size, length_sorted]
theorem New_calls (w : World) : Calls Tryz.prog 21 #[] w fun e w' => e = .returned (Ptr w.heap.size) ∧ TreeAt w.heap.size w' w.heap.size [] none ∧ Below w.heap.size w w' := by
  go_enter Tryz.func21, Tryz.ntmps21
  go_wp2
  go_ret
  refine ⟨rfl, ⟨Nat.le_refl _, ?_, ?_, rfl⟩, (Below.refl _ w).alloc (Nat.le_refl _) _⟩
  · exact (Boxed.new w _ _).cell
  · exact (Boxed.new w _ _).frozen
theorem above_calls (a p : List UInt8) (ha : a.length ≤ 1000000) (w : World) : Calls Tryz.prog 156 #[.string (ba a), .string (ba p)] w fun e w' => e = .returned (.bool (Tf.above a p)) ∧ w' = w := by
  have H : Hid (∀ W, Calls Tryz.prog 212 #[.string (ba p), .string (ba (a ++ [47]))] W fun e w' => e = .returned (.bool (Tf.above a p)) ∧ w' = W) := fun W => Tryz.strings_HasPrefix (ba p) (ba (a ++ [47])) W
  have z : ((ba a).size : Int) ≤ 1000000 := by rw [ba_size]; omega
  go_enter Tryz.func156, Tryz.ntmps156
  go_wp2_with fail
  rw [show ba a ++ { data := #[47] } = ba (a ++ [47]) by rw [show (ByteArray.mk #[47]) = ba [47] from rfl, ba_append]]
  refine (H.out _).mono ?_
  rintro e w' ⟨rfl, rfl⟩
  go_wp2
  go_ret
  exact ⟨rfl, rfl⟩
theorem all_calls (tb : Nat) (o : Option Nat) (w : World) (hc : w.cell? ⟨tb, 0, none⟩ = some (.map o)) : Calls Tryz.prog 104 #[Ptr tb] w fun e w' => e = .returned (.map o) ∧ w' = w := by
  go_enter Tryz.func104, Tryz.ntmps104
  go_wp2
  go_ret
  exact ⟨rfl, rfl⟩
end Go.Proofs.YtbgkfmodbofalaaGreatDoor
