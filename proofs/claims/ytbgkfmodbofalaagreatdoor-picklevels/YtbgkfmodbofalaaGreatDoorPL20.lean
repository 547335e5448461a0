import Derived.Test.YtbgkfmodbofalaaGreatDoorPL19
import Derived.Test.YtbgkfmodbofalaaGreatDoorPL07
import Derived.Laws.AppendOwnNone
import Derived.Test.YtbgkfmodbofalaaGreatDoorPL11
import Derived.Test.YtbgkfmodbofalaaGreatDoorPL08
import Derived.Test.YtbgkfmodbofalaaGreatDoorPL09
namespace Go.Proofs.YtbgkfmodbofalaaGreatDoor
open Go.RowKit Go.Shelf Go.Lib
theorem pCheck_any {w : World} {es : Nat → Addr} (hE : ES w es) (s : List UInt8) (hs : s.length ≤ 1000000) :
    Calls Tryz.prog 155 #[.string (ba s)] w fun e w' => e = .returned (erOf es (if pathB s = false then 4 else 0)) ∧ Below w.heap.size w w' := by
  cases h : pathB s with
  | true => exact Check_yes s hs h w
  | false => exact Check_no s hs h w _ _ hE.c3
set_option maxRecDepth 100000 in
set_option maxHeartbeats 4000000 in
theorem ruCheck1_calls {w : World} {es : Nat → Addr} (hE : ES w es) (k : Int) (s : List UInt8) (hs : s.length ≤ 1000000) :
    Calls Tryz.prog 271 #[.int .i64 k, .string (ba s)] w fun e w' => e = .returned (erOf es (if pathB s = false then 4 else 0)) ∧ Below w.heap.size w w' := by
  have HC := hid1 (pCheck_any hE s hs)
  generalize erOf es (if pathB s = false then 4 else 0) = r at *
  clear hE
  go_enter Tryz.func271, Tryz.ntmps271
  go_wp2_with fail
  refine HC.out.mono ?_
  rintro e w1 ⟨rfl, hb⟩
  go_wp2
  go_ret
  exact ⟨rfl, hb⟩
theorem contains_x {w : World} (g o n cap : Nat) (l : List (List UInt8)) (x : List UInt8) (hn : n ≤ l.length) (hl : l.length ≤ 1000000) (hc : ∀ j (hj : j < l.length), w.cell? ⟨g, o + j, none⟩ = some (.string (ba l[j]))) :
    Calls Tryz.prog 274 #[.slice (some ⟨g, o, none⟩) n cap, .string (ba x)] w fun e w' => e = .returned (.bool (decide (x ∈ l.take n))) ∧ w' = w := by
  have := Tryz.slices_Contains_string g o n cap (l.map ba) (ba x) w (by simpa using hn) (by omega) (fun j hj => by
    have hjl : j < l.length := by simpa using hj
    rw [hc j hjl]
    simp [hjl])
  have e : Lib.containsS ((l.map ba).take n) (ba x) = decide (x ∈ l.take n) := by
    rw [Bool.eq_iff_iff, Lib.containsS_iff, decide_eq_true_iff, ← List.map_take]
    simp only [List.mem_map]
    constructor
    · rintro ⟨y, hy, e⟩
      have : y = x := by
        have := congrArg (·.data.toList) e
        simpa [ba] using this
      rw [← this]
      exact hy
    · exact fun h => ⟨x, h, rfl⟩
  rw [e] at this
  exact this
set_option maxRecDepth 100000 in
set_option maxHeartbeats 4000000 in
theorem ruCheck2_calls {w : World} {es : Nat → Addr} (hE : ES w es) (r : Ru) (b k : Nat) (hk : k < r.ins.length) (hl : r.ins.length ≤ 1000000) (hR : RuAt w b 0 r) :
    Calls Tryz.prog 273 #[.int .i64 k, .string (ba r.ins[k]), .pointer (some ⟨b, 0, none⟩)] w fun e w' => e = .returned (erOf es (if r.twiceAt k = true then 7 else 0)) ∧ Below w.heap.size w w' := by
  obtain ⟨h0, _, _, v, h3, p, cap, rfl, hcap, _, hin⟩ := hR
  obtain ⟨g, o, rfl, hg, hcur⟩ := hin (by intro e; rw [e] at hk; simp at hk)
  have hx := hE.c6
  have HC := hid1 (contains_x (w := w) g o k cap r.ins r.ins[k] (by omega) hl hcur)
  have HT := hid1 (Ru.twiceAt_eq hk)
  clear hin hcur hE
  have z1 : (k : Int) ≤ (cap : Int) := by omega
  have z0 : (0 : Int) ≤ (k : Int) := by omega
  have z2 : (k : Int) ≤ 1000000 := by omega
  generalize r.ins[k] = x at *
  generalize r.ins.length = n at *
  rw [Nat.zero_add] at h3
  by_cases he : x = r.out
  · have HQ : Hid (r.twiceAt k = true) := hid1 (by rw [HT.out, he]; simp)
    rw [HQ.out]
    clear HC HT
    subst he
    generalize r.out = y at *
    go_enter Tryz.func273, Tryz.ntmps273
    go_wp2
    go_ret
    exact ⟨rfl, Below.refl _ _⟩
  · have e1 : (x == r.out) = false := by simpa using he
    have HQ : Hid (r.twiceAt k = decide (x ∈ r.ins.take k)) := hid1 (by rw [HT.out]; simp [he])
    rw [HQ.out]
    clear HT
    generalize decide (x ∈ r.ins.take k) = d at *
    generalize r.out = y at *
    cases d with
    | true =>
      go_enter Tryz.func273, Tryz.ntmps273
      go_wp2_with fail
      refine HC.out.mono ?_
      rintro e w1 ⟨rfl, rfl⟩
      go_wp2
      go_ret
      exact ⟨rfl, Below.refl _ _⟩
    | false =>
      go_enter Tryz.func273, Tryz.ntmps273
      go_wp2_with fail
      refine HC.out.mono ?_
      rintro e w1 ⟨rfl, rfl⟩
      go_wp2
      go_ret
      exact ⟨rfl, Below.refl _ _⟩
end Go.Proofs.YtbgkfmodbofalaaGreatDoor
namespace Go.Proofs.YtbgkfmodbofalaaGreatDoor
open Go.RowKit Go.Shelf Go.Lib
theorem Ru.err_tail {r : Ru} (h1 : pathB r.out = true) (h2 : Af.actE r.kind r.word r.ins.length = 0) : r.err = if r.ins.all pathB = false then 4 else if r.twice = true then 7 else 0 := by
  unfold Ru.err
  rw [if_neg (by rw [h1]; simp), if_neg (by rw [h2]; simp)]
theorem first_paths (l : List (List UInt8)) : Ru.firstC (fun k => if pathB (l.getD k []) = false then 4 else 0) l.length = if l.all pathB = false then 4 else 0 := by
  cases h : l.all pathB with
  | true =>
    rw [Ru.firstC_none fun j hj => ?_]
    · rfl
    · have := List.all_eq_true.1 h l[j] (List.getElem_mem hj)
      rw [List.getD_eq_getElem?_getD, List.getElem?_eq_getElem hj, Option.getD_some, if_neg (by rw [this]; simp)]
  | false =>
    rcases Ru.firstC_const (c := fun k => if pathB (l.getD k []) = false then 4 else 0) (n := l.length) (d := 4) (fun j => by split; exact .inr rfl; exact .inl rfl) with h0 | h0
    · exfalso
      rw [List.all_eq_false] at h
      obtain ⟨x, hx, hp⟩ := h
      obtain ⟨j, hj, rfl⟩ := List.getElem_of_mem hx
      have := Ru.firstC_zero h0 j hj
      rw [List.getD_eq_getElem?_getD, List.getElem?_eq_getElem hj, Option.getD_some] at this
      simp [hp] at this
    · rw [h0]; rfl
theorem first_twice (r : Ru) : Ru.firstC (fun k => if r.twiceAt k = true then 7 else 0) r.ins.length = if r.twice = true then 7 else 0 := by
  cases h : r.twice with
  | true =>
    rcases Ru.firstC_const (c := fun k => if r.twiceAt k = true then 7 else 0) (n := r.ins.length) (d := 7) (fun j => by split; exact .inr rfl; exact .inl rfl) with h0 | h0
    · exfalso
      obtain ⟨j, hj, hp⟩ := Ru.twice_iff.1 h
      have := Ru.firstC_zero h0 j hj
      simp [hp] at this
    · rw [h0]; rfl
  | false =>
    rw [Ru.firstC_none fun j hj => ?_]
    · rfl
    · rw [if_neg]
      intro hp
      rw [Ru.twice_iff.2 ⟨j, hj, hp⟩] at h
      cases h
set_option maxRecDepth 100000 in
set_option maxHeartbeats 4000000 in
theorem ruCheck_calls {w : World} {es : Nat → Addr} (hE : ES w es) (hA : AE w (erOf es)) (r : Ru) (hS : r.Small) (v : Value) (hrow : XRow w v r.ins) :
    Calls Tryz.prog 191 #[ruV r v] w fun e w' => e = .returned (erOf es r.err) ∧ Below w.heap.size w w' := by
  have hB0 : Below w.heap.size w (w.alloc (.cells #[.string (ba r.out), .string (ba r.kind), .string (ba r.word), v] 90)) := (Below.refl _ w).alloc (Nat.le_refl _) _
  have hR0 : RuAt (w.alloc (.cells #[.string (ba r.out), .string (ba r.kind), .string (ba r.word), v] 90)) w.heap.size 0 r := ⟨by simp, by simp, by simp, v, by simp, hrow.below hB0⟩
  have s1 := hS.out
  have s2 := hS.word
  have s3 := hS.many
  have HP := hid1 fun W (hW : Below w.heap.size w W) => pCheck_any (hE.below hW) r.out (by omega)
  have HK := hid1 fun W (hW : Below w.heap.size w W) => Check_any (hA.stays hW) r.kind r.word r.ins.length (by omega)
  have H1 := hid1 fun W (hW : Below w.heap.size w W) => searchS_calls (es := es) v r.ins (hrow.below hW) (by omega) 271 #[] (enters_of Tryz.func271 (by kernel_rfl) rfl) (fun k => if pathB (r.ins.getD k []) = false then 4 else 0)
    (hid1 fun k hk W' hW' => by
      have := ruCheck1_calls (hE.below (below_then hW hW')) k r.ins[k] (Nat.le_trans (hS.ins _ (List.getElem_mem hk)) (by omega))
      rw [List.getD_eq_getElem?_getD, List.getElem?_eq_getElem hk, Option.getD_some]
      exact this)
  have H2 := hid1 fun W (hW : Below w.heap.size w W) (b : Nat) (hR : RuAt W b 0 r) => searchS_calls (es := es) v r.ins (hrow.below hW) (by omega) 273 #[.pointer (some ⟨b, 0, none⟩)] (enters_of Tryz.func273 (by kernel_rfl) rfl) (fun k => if r.twiceAt k = true then 7 else 0)
    (hid1 fun k hk W' hW' => ruCheck2_calls (hE.below (below_then hW hW')) r b k hk (by omega) (hR.below hW'))
  have HB := hid1 fun W (hW : Below w.heap.size w W) n c u (hT : Told W es n c u) => bare_told (hE.below hW) hT
  have HE := hid1 hE
  have HR := hid1 hR0
  have HEq : Hid (r.err = if pathB r.out = false then 4 else if Af.actE r.kind r.word r.ins.length ≠ 0 then Af.actE r.kind r.word r.ins.length else if r.ins.all pathB = false then 4 else if r.twice = true then 7 else 0) := hid1 rfl
  obtain ⟨p, cap, rfl, hcap, hnn, hin⟩ := hrow
  clear hE hA hS hin hnn hR0
  cases hp : pathB r.out with
  | false =>
    have HF : Hid (r.err = 4) := hid1 (by rw [HEq.out, hp]; rfl)
    rw [HF.out]
    rw [hp] at HP
    simp only [erOf, if_true] at HP ⊢
    go_enter Tryz.func191, Tryz.ntmps191
    go_wp2_with fail
    refine (HP.out _ hB0).mono ?_
    rintro e w1 ⟨rfl, hb⟩
    have g1 := below_then hB0 hb
    go_wp2
    go_ret
    exact ⟨rfl, g1⟩
  | true =>
    rw [hp] at HP
    simp only [erOf, Bool.true_eq_false, if_false] at HP
    cases ha : Af.actE r.kind r.word r.ins.length with
    | succ m =>
      have HF : Hid (r.err = m + 1) := hid1 (by rw [HEq.out, hp, ha]; rfl)
      rw [HF.out]
      rw [ha] at HK
      simp only [erOf] at HK ⊢
      generalize r.ins.length = n at *
      go_enter Tryz.func191, Tryz.ntmps191
      go_wp2_with fail
      refine (HP.out _ hB0).mono ?_
      rintro e w1 ⟨rfl, hb⟩
      have g1 := below_then hB0 hb
      have k1 := (hb.cell (p := ⟨w.heap.size, 1, none⟩) (by simp)).trans (by simp; rfl)
      have k2 := (hb.cell (p := ⟨w.heap.size, 2, none⟩) (by simp)).trans (by simp; rfl)
      have k3 := (hb.cell (p := ⟨w.heap.size, 3, none⟩) (by simp)).trans (by simp; rfl)
      clear hb
      go_wp2_with fail
      refine (HK.out _ g1).mono ?_
      rintro e w2 ⟨rfl, hb⟩
      have g2 := below_then g1 hb
      go_wp2
      go_ret
      exact ⟨rfl, g2⟩
    | zero =>
      have HF := hid1 (Ru.err_tail hp ha)
      rw [ha] at HK
      simp only [erOf] at HK
      have HFP := hid1 (first_paths r.ins)
      have HFT := hid1 (first_twice r)
      generalize (fun k => if pathB (r.ins.getD k []) = false then 4 else 0) = cP at *
      generalize (fun k => if r.twiceAt k = true then 7 else 0) = cT at *
      generalize r.ins.length = n at *
      go_enter Tryz.func191, Tryz.ntmps191
      go_wp2_with fail
      refine (HP.out _ hB0).mono ?_
      rintro e w1 ⟨rfl, hb⟩
      have g1 := below_then hB0 hb
      have R1 := hid1 (HR.out.below hb)
      have k1 := (hb.cell (p := ⟨w.heap.size, 1, none⟩) (by simp)).trans (by simp; rfl)
      have k2 := (hb.cell (p := ⟨w.heap.size, 2, none⟩) (by simp)).trans (by simp; rfl)
      have k3 := (hb.cell (p := ⟨w.heap.size, 3, none⟩) (by simp)).trans (by simp; rfl)
      clear hb
      go_wp2_with fail
      refine (HK.out _ g1).mono ?_
      rintro e w2 ⟨rfl, hb⟩
      have g2 := below_then g1 hb
      have R2 := hid1 (R1.out.below hb)
      have q3 := cell_below' k3 hb
      clear hb k1 k2 k3 R1
      go_wp2_with fail
      refine (H1.out _ g2).mono ?_
      rintro e w3 ⟨u, rfl, hb, ht⟩
      have g3 := below_then g2 hb
      have R3 := hid1 (R2.out.below hb)
      have T := hid1 ht
      have s3 := cell_below' q3 hb
      clear hb R2 q3
      rcases ht with ⟨hz, rfl⟩ | ⟨k, pb, hk, hc, h0, rfl, hx, hy⟩
      · have HZ := hid1 hz
        clear hz
        go_wp2_with fail
        refine (H2.out _ g3 w.heap.size R3.out).mono ?_
        rintro e w4 ⟨u, rfl, hb, ht⟩
        have g4 := below_then g3 hb
        have T4 := hid1 ht
        clear ht hb
        go_wp2_with fail
        refine (HB.out _ g4 _ _ _ T4.out).mono ?_
        rintro e w5 ⟨rfl, hb⟩
        have g5 := below_then g4 hb
        go_wp2
        go_ret
        refine ⟨?_, g5⟩
        have hP0 := HFP.out
        rw [Ru.firstC_none HZ.out] at hP0
        rw [HF.out, HFT.out]
        split at hP0
        · cases hP0
        · rename_i hne
          rw [if_neg hne]
          rfl
      · have HK2 := hid1 (Ru.firstC_some hk hc h0)
        have HC2 := hid1 hc
        clear hk hc h0 hx hy
        go_wp2_with fail
        refine (HB.out _ g3 _ _ _ T.out).mono ?_
        rintro e w5 ⟨rfl, hb⟩
        have g5 := below_then g3 hb
        go_wp2
        go_ret
        refine ⟨?_, g5⟩
        have hP0 := HFP.out
        rw [HK2.out] at hP0 ⊢
        rw [HF.out]
        split at hP0
        · rename_i hne
          rw [if_pos hne, hP0]
          rfl
        · exact absurd hP0 HC2.out
end Go.Proofs.YtbgkfmodbofalaaGreatDoor
namespace Go.Proofs.YtbgkfmodbofalaaGreatDoor
open Go.RowKit Go.Shelf Go.Lib
theorem RRow.take {w : World} {p : Option Addr} {cap : Nat} {l : List Ru} (h : RRow w (.slice p l.length cap) l) (k : Nat) (hk : k ≤ l.length) : RRow w (.slice p k cap) (l.take k) := by
  obtain ⟨p', cap', e, h0, hn, h1⟩ := h
  obtain ⟨rfl, rfl⟩ : p = p' ∧ cap = cap' := by simpa using e
  have hl : (l.take k).length = k := by simp; omega
  refine ⟨p, cap, by rw [hl], by omega, hn, fun hne => ?_⟩
  obtain ⟨g, o, e, hg, hc⟩ := h1 (by intro e; rw [e] at hne; simp at hne)
  refine ⟨g, o, e, hg, fun j hj => ?_⟩
  rw [List.getElem_take]
  exact hc j (by omega)
theorem indexFuncR_calls {w : World} (v : Value) (l : List Ru) (hrow : RRow w v l) (hl : l.length ≤ 1000000) (f : Nat) (caps : Array Value) (eg : ∀ args w, (callFunc f args).run Tryz.prog w = .ok (.enter f args) w) (b : Nat → Bool)
    (HS : Hid (∀ k (hk : k < l.length) W, Below w.heap.size w W → ∀ u, XRow W u l[k].ins → Calls Tryz.prog f (#[ruV l[k] u] ++ caps) W fun e w' => e = .returned (.bool (b k)) ∧ Below W.heap.size W w')) :
    Calls Tryz.prog 275 #[v, .func (.func f) #[] caps] w fun e w' => ∃ r : Int, e = .returned (.int .i64 r) ∧ Below w.heap.size w w' ∧ ((r = -1 ∧ ∀ j, j < l.length → b j = false) ∨ ∃ k : Nat, r = k ∧ k < l.length ∧ b k = true) := by
  obtain ⟨p, cap, rfl, hcap, _, hin⟩ := hrow
  have HI := hid1 hin
  clear hin
  have zl : (l.length : Int) ≤ 1000000 := by omega
  go_enter Tryz.func275, Tryz.ntmps275
  go_wp2
  go_loopw [8] (fun i wr => ∃ k : Nat, k ≤ l.length ∧ i = .int .i64 k ∧ (∀ j, j < k → b j = false) ∧ Below w.heap.size w wr) (fun i _ => l.length - (intOf i).toNat)
  case atStart => exact ⟨0, Nat.zero_le _, rfl, fun j h => by omega, Below.refl _ _⟩
  case round =>
    obtain ⟨k, hk, rfl, hz, hB⟩ := hrel
    have HZ := hid1 hz
    clear hz
    have c0 : (0 : Int) ≤ (k : Int) := by omega
    by_cases hlt : k < l.length
    · have c1 : (k : Int) < (l.length : Int) := by omega
      obtain ⟨g', o, rfl, hg, hcur⟩ := HI.out (by intro e; rw [e] at hlt; simp at hlt)
      obtain ⟨u0, u1, u2, u, u3, ux⟩ := hcur k hlt
      have d0 := cell_below' u0 hB
      have d1 := cell_below' u1 hB
      have d2 := cell_below' u2 hB
      have d3 := cell_below' u3 hB
      have HC := HS.out k hlt wr hB u (ux.below hB)
      have HQ := hid1 ux
      clear hcur HI HS u0 u1 u2 u3 ux
      generalize l[k] = y at *
      obtain ⟨p3, cap3, rfl, _⟩ := HQ.out
      cases hc : b k with
      | false =>
        rw [hc] at HC
        have HN : Hid (∀ j, j < k + 1 → b j = false) := hid1 fun j hj => by
          rcases Nat.lt_or_ge j k with h | h
          · exact HZ.out j h
          · obtain rfl : j = k := by omega
            exact hc
        clear hc HZ
        go_wp2_with fail
        refine Calls.mono HC ?_
        rintro e w1 ⟨rfl, hb1⟩
        clear HC
        go_wp2
        exact ⟨⟨k + 1, by omega, by go_num, HN.out, below_then hB hb1⟩, by simp [intOf]; omega⟩
      | true =>
        rw [hc] at HC
        have HE := hid1 hc
        clear hc
        go_wp2_with fail
        refine Calls.mono HC ?_
        rintro e w1 ⟨rfl, hb1⟩
        clear HC
        go_wp2
        go_ret
        exact ⟨_, rfl, below_then hB hb1, .inr ⟨k, rfl, hlt, HE.out⟩⟩
    · have c1 : (l.length : Int) ≤ (k : Int) := by omega
      have HN : Hid (∀ j, j < l.length → b j = false) := hid1 fun j hj => HZ.out j (by omega)
      clear HI HS HZ
      go_wp2
      go_ret
      exact ⟨_, rfl, hB, .inl ⟨rfl, HN.out⟩⟩
theorem containsFuncR_calls {w : World} (v : Value) (l : List Ru) (hrow : RRow w v l) (hl : l.length ≤ 1000000) (f : Nat) (caps : Array Value) (eg : ∀ args w, (callFunc f args).run Tryz.prog w = .ok (.enter f args) w) (b : Nat → Bool)
    (HS : Hid (∀ k (hk : k < l.length) W, Below w.heap.size w W → ∀ u, XRow W u l[k].ins → Calls Tryz.prog f (#[ruV l[k] u] ++ caps) W fun e w' => e = .returned (.bool (b k)) ∧ Below W.heap.size W w')) :
    Calls Tryz.prog 192 #[v, .func (.func f) #[] caps] w fun e w' => ∃ d : Bool, e = .returned (.bool d) ∧ Below w.heap.size w w' ∧ (d = true ↔ ∃ k, k < l.length ∧ b k = true) := by
  have HC := hid1 (indexFuncR_calls v l hrow hl f caps eg b HS)
  obtain ⟨p, cap, rfl, hcap, _, hin⟩ := hrow
  clear hin HS
  go_enter Tryz.func192, Tryz.ntmps192
  go_wp2_with fail
  refine HC.out.mono ?_
  rintro e w1 ⟨r, rfl, hb, h⟩
  rcases h with ⟨rfl, h⟩ | ⟨k, rfl, hk, h⟩
  · have HN := hid1 h
    clear h
    go_wp2
    go_ret
    refine ⟨_, rfl, hb, ?_⟩
    simp
    intro k hk
    simpa using HN.out k hk
  · have HN := hid1 h
    have z : (0 : Int) ≤ (k : Int) := by omega
    clear h
    go_wp2
    go_ret
    refine ⟨true, rfl, hb, ?_⟩
    simp
    exact ⟨k, hk, HN.out⟩
set_option maxRecDepth 100000 in
set_option maxHeartbeats 4000000 in
theorem ruSheet11_calls {w : World} (x r : Ru) (b : Nat) (u : Value) (hu : XRow w u x.ins) (hR : w.cell? ⟨b, 0, none⟩ = some (.string (ba r.out))) :
    Calls Tryz.prog 193 #[ruV x u, .pointer (some ⟨b, 0, none⟩)] w fun e w' => e = .returned (.bool (x.out == r.out)) ∧ Below w.heap.size w w' := by
  have hB0 : Below w.heap.size w (w.alloc (.cells #[.string (ba x.out), .string (ba x.kind), .string (ba x.word), u] 90)) := (Below.refl _ w).alloc (Nat.le_refl _) _
  have h0 := cell_below' hR hB0
  obtain ⟨p3, cap3, rfl, _⟩ := hu
  go_enter Tryz.func193, Tryz.ntmps193
  go_wp2
  go_ret
  exact ⟨rfl, hB0⟩
structure SheetW (w : World) (es : Nat → Addr) : Prop where
  e : ES w es
  a : AE w (erOf es)
theorem SheetW.below {w W : World} {es : Nat → Addr} (h : SheetW w es) (hb : Below w.heap.size w W) : SheetW W es := ⟨h.e.below hb, h.a.stays hb⟩
set_option maxRecDepth 100000 in
set_option maxHeartbeats 4000000 in
theorem ruSheet1_calls {w : World} {es : Nat → Addr} (hW : SheetW w es) (l : List Ru) (hl : l.length ≤ 1000000) (v : Value) (hrow : RRow w v l) (hS : ∀ x ∈ l, x.Small) (b k : Nat) (hk : k < l.length) (hb : w.cell? ⟨b, 0, none⟩ = some v) (u : Value) (hu : XRow w u l[k].ins) :
    Calls Tryz.prog 190 #[.int .i64 k, ruV l[k] u, .pointer (some ⟨b, 0, none⟩)] w fun e w' => e = .returned (erOf es (Ru.errAt l k)) ∧ Below w.heap.size w w' := by
  have HQ := hid1 (Ru.errAt_eq hk)
  have HC := hid1 fun W (g : Below w.heap.size w W) => ruCheck_calls (hW.e.below g) (hW.a.stays g) l[k] (hS _ (List.getElem_mem hk)) u (hu.below g)
  have hB0 : Below w.heap.size w (w.alloc (.cells #[.string (ba l[k].out), .string (ba l[k].kind), .string (ba l[k].word), u] 90)) := (Below.refl _ w).alloc (Nat.le_refl _) _
  have hr0 : (w.alloc (.cells #[.string (ba l[k].out), .string (ba l[k].kind), .string (ba l[k].word), u] 90)).cell? ⟨w.heap.size, 0, none⟩ = some (.string (ba l[k].out)) := by simp
  have hx := hW.e.c6
  obtain ⟨p, cap, rfl, hcap, hnn, hin⟩ := hrow
  have hrow : RRow w (.slice p l.length cap) l := ⟨p, cap, rfl, hcap, hnn, hin⟩
  have HF := hid1 fun W (g : Below w.heap.size w W) (hr : W.cell? ⟨w.heap.size, 0, none⟩ = some (.string (ba l[k].out))) =>
    containsFuncR_calls (.slice p k cap) (l.take k) ((hrow.below g).take k (by omega)) (by simp; omega) 193 #[.pointer (some ⟨w.heap.size, 0, none⟩)] (enters_of Tryz.func193 (by kernel_rfl) rfl) (fun j => (l.getD j l[k]).out == l[k].out)
      (hid1 fun j hj W' g' u' hu' => by
        have hjl : j < l.length := by simp at hj; omega
        have := ruSheet11_calls (l.take k)[j] l[k] w.heap.size u' hu' (cell_below' hr g')
        rw [List.getElem_take] at this ⊢
        rw [List.getD_eq_getElem?_getD, List.getElem?_eq_getElem hjl, Option.getD_some]
        exact this)
  have HM : Hid (∀ d : Bool, (d = true ↔ ∃ j, j < (l.take k).length ∧ ((l.getD j l[k]).out == l[k].out) = true) → (if l[k].out ∈ (l.take k).map Ru.out then 7 else 0) = (if d = true then 7 else 0)) := hid1 fun d hd => by
    congr 1
    rw [eq_iff_iff, hd]
    constructor
    · intro h
      obtain ⟨x, hx, e⟩ := List.mem_map.1 h
      obtain ⟨j, hj, rfl⟩ := List.getElem_of_mem hx
      refine ⟨j, hj, ?_⟩
      rw [List.getElem_take] at e
      rw [List.getD_eq_getElem?_getD, List.getElem?_eq_getElem (by simp at hj; omega), Option.getD_some, e]
      simp
    · rintro ⟨j, hj, e⟩
      have hjl : j < l.length := by simp at hj; omega
      rw [List.getD_eq_getElem?_getD, List.getElem?_eq_getElem hjl, Option.getD_some] at e
      refine List.mem_map.2 ⟨(l.take k)[j], List.getElem_mem hj, ?_⟩
      rw [List.getElem_take]
      simpa using e
  have z1 : (k : Int) ≤ (cap : Int) := by omega
  have z0 : (0 : Int) ≤ (k : Int) := by omega
  have z2 : (k : Int) ≤ 1000000 := by omega
  have hbl := lt_of_cell hb
  simp only at hbl
  obtain ⟨p3, cap3, rfl, _⟩ := hu
  clear hin hrow hnn hS hW
  generalize l[k] = r at *
  generalize hn : l.length = n at *
  cases hc : r.err with
  | succ m =>
    have HE : Hid (Ru.errAt l k = m + 1) := hid1 (by rw [HQ.out, hc]; rfl)
    rw [HE.out]
    rw [hc] at HC
    simp only [erOf] at HC ⊢
    clear HF HM
    go_enter Tryz.func190, Tryz.ntmps190
    go_wp2_with fail
    refine (HC.out _ hB0).mono ?_
    rintro e w1 ⟨rfl, g⟩
    have g1 := below_then hB0 g
    go_wp2
    go_ret
    exact ⟨rfl, g1⟩
  | zero =>
    have HE : Hid (Ru.errAt l k = if r.out ∈ (l.take k).map Ru.out then 7 else 0) := hid1 (by rw [HQ.out, hc]; rfl)
    rw [HE.out]
    rw [hc] at HC
    simp only [erOf] at HC
    have HM2 := hid1 fun d hd => congrArg (erOf es) (HM.out d hd)
    generalize erOf es (if r.out ∈ (l.take k).map Ru.out then 7 else 0) = rv at *
    clear HM HE HQ
    go_enter Tryz.func190, Tryz.ntmps190
    go_wp2_with fail
    refine (HC.out _ hB0).mono ?_
    rintro e w1 ⟨rfl, g⟩
    have g1 := below_then hB0 g
    have hr1 := cell_below' hr0 g
    have hb1 := cell_below' hb g1
    clear g hr0 hb
    go_wp2_with fail
    refine (HF.out _ g1 hr1).mono ?_
    rintro e w2 ⟨d, rfl, g, hd⟩
    have g2 := below_then g1 g
    have hx2 := cell_below' hx g2
    have HV := hid1 (HM2.out d hd)
    clear g hd HF HM2 hx
    cases d with
    | true =>
      go_wp2
      go_ret
      exact ⟨ret_eq (by rw [HV.out]; rfl), g2⟩
    | false =>
      go_wp2
      go_ret
      exact ⟨ret_eq (by rw [HV.out]; rfl), g2⟩
end Go.Proofs.YtbgkfmodbofalaaGreatDoor
namespace Go.Proofs.YtbgkfmodbofalaaGreatDoor
open Go.RowKit Go.Shelf Go.Lib
set_option maxRecDepth 100000 in
set_option maxHeartbeats 4000000 in
theorem searchR_calls {w : World} {es : Nat → Addr} (v : Value) (l : List Ru) (hrow : RRow w v l) (hl : l.length ≤ 1000000) (f : Nat) (caps : Array Value) (eg : ∀ args w, (callFunc f args).run Tryz.prog w = .ok (.enter f args) w) (c : Nat → Nat)
    (HS : Hid (∀ k (hk : k < l.length) W, Below w.heap.size w W → ∀ u, XRow W u l[k].ins → Calls Tryz.prog f (#[.int .i64 k, ruV l[k] u] ++ caps) W fun e w' => e = .returned (erOf es (c k)) ∧ Below W.heap.size W w')) :
    Calls Tryz.prog 189 #[v, .func (.func f) #[] caps] w fun e w' => ∃ u, e = .returned u ∧ Below w.heap.size w w' ∧ Told w' es l.length c u := by
  obtain ⟨p, cap, rfl, hcap, _, hin⟩ := hrow
  have HI := hid1 hin
  clear hin
  have zl : (l.length : Int) ≤ 1000000 := by omega
  go_enter Tryz.func189, Tryz.ntmps189
  go_wp2
  go_loopw [10] (fun i wr => ∃ k : Nat, k ≤ l.length ∧ i = .int .i64 k ∧ (∀ j, j < k → c j = 0) ∧ Below w.heap.size w wr) (fun i _ => l.length - (intOf i).toNat)
  case atStart => exact ⟨0, Nat.zero_le _, rfl, fun j h => by omega, Below.refl _ _⟩
  case round =>
    obtain ⟨k, hk, rfl, hz, hB⟩ := hrel
    have HZ := hid1 hz
    clear hz
    have c0 : (0 : Int) ≤ (k : Int) := by omega
    by_cases hlt : k < l.length
    · have c1 : (k : Int) < (l.length : Int) := by omega
      obtain ⟨g', o, rfl, hg, hcur⟩ := HI.out (by intro e; rw [e] at hlt; simp at hlt)
      obtain ⟨u0, u1, u2, u, u3, ux⟩ := hcur k hlt
      have d0 := cell_below' u0 hB
      have d1 := cell_below' u1 hB
      have d2 := cell_below' u2 hB
      have d3 := cell_below' u3 hB
      have HC := hid1 fun W (g : Below wr.heap.size wr W) => HS.out k hlt W (below_then hB g) u (ux.below (below_then hB g))
      have HQ := hid1 ux
      clear hcur HI HS u0 u1 u2 u3 ux
      generalize l[k] = y at *
      obtain ⟨p3, cap3, rfl, -⟩ := HQ.out
      have hst : ∀ (a : Addr) (m : Mode) (W : World), Sem.run Tryz.prog (store a (.slice p3 y.ins.length cap3) m) W = stored Tryz.prog W a (.slice p3 y.ins.length cap3) m := fun a m W => run_store _ W a _ m rfl
      cases hc : c k with
      | zero =>
        rw [hc] at HC
        simp only [erOf] at HC
        have HN : Hid (∀ j, j < k + 1 → c j = 0) := hid1 fun j hj => by
          rcases Nat.lt_or_ge j k with h | h
          · exact HZ.out j h
          · obtain rfl : j = k := by omega
            exact hc
        clear hc HZ HQ
        go_wp2_with fail
        refine (HC.out _ ((Below.refl _ wr).alloc (Nat.le_refl _) _)).mono ?_
        rintro e w1 ⟨rfl, hb1⟩
        have g1 := below_then (hB.alloc hB.size _) hb1
        clear HC hb1
        go_wp2
        exact ⟨⟨k + 1, by omega, by go_num, HN.out, g1⟩, by simp [intOf]; omega⟩
      | succ m =>
        rw [hc] at HC
        have HE := hid1 hc
        clear hc HQ
        simp only [erOf] at HC
        go_wp2_with fail
        refine (HC.out _ ((Below.refl _ wr).alloc (Nat.le_refl _) _)).mono ?_
        rintro e w1 ⟨rfl, hb1⟩
        have g1 := below_then (hB.alloc hB.size _) hb1
        clear HC hb1
        go_wp2
        go_ret
        refine ⟨_, rfl, g1.alloc g1.size _, .inr ⟨k, w1.heap.size, hlt, by rw [HE.out]; omega, HZ.out, rfl, ?_, ?_⟩⟩
        · simp
        · rw [HE.out]
          simp [erOf]
    · have c1 : (l.length : Int) ≤ (k : Int) := by omega
      have HN : Hid (∀ j, j < l.length → c j = 0) := hid1 fun j hj => HZ.out j (by omega)
      clear HI HS HZ
      go_wp2
      go_ret
      exact ⟨_, rfl, hB, .inl ⟨HN.out, rfl⟩⟩
set_option maxRecDepth 100000 in
set_option maxHeartbeats 4000000 in
theorem ruSheet_calls {w : World} {es : Nat → Addr} (hW : SheetW w es) (l : List Ru) (hl : l.length ≤ 1000000) (v : Value) (hrow : RRow w v l) (hS : ∀ x ∈ l, x.Small) :
    Calls Tryz.prog 132 #[v] w fun e w' => ∃ u, e = .returned u ∧ Below w.heap.size w w' ∧ ErrV w' es u (Ru.fault l) := by
  have hx := hW.e.c1
  have hB0 : Below w.heap.size w (w.alloc (.cells #[v] 66)) := (Below.refl _ w).alloc (Nat.le_refl _) _
  have hv0 : (w.alloc (.cells #[v] 66)).cell? ⟨w.heap.size, 0, none⟩ = some v := by simp
  have hx0 := cell_below' hx hB0
  have HS := hid1 (searchR_calls (w := w.alloc (.cells #[v] 66)) (es := es) v l (hrow.below hB0) hl 190 #[.pointer (some ⟨w.heap.size, 0, none⟩)] (enters_of Tryz.func190 (by kernel_rfl) rfl) (Ru.errAt l)
    (hid1 fun k hk W g u hu => ruSheet1_calls (hW.below (below_then hB0 g)) l hl v ((hrow.below hB0).below g) hS w.heap.size k hk (cell_below' hv0 g) u hu))
  have hle := Ru.errAt_le l
  have HM : Hid (40 < l.length → Ru.fault l = (2, -1)) := hid1 Ru.fault_many
  have HT : Hid (l.length ≤ 40 → ∀ (W : World) u, Told W es l.length (Ru.errAt l) u → ErrV W es u (Ru.fault l)) := hid1 fun h40 W u ht => by
    rcases ht with ⟨hz, rfl⟩ | ⟨k, pb, hk, hc, h0, rfl, h1, h2⟩
    · rw [Ru.fault_none h40 hz]
      exact .nil
    · rw [Ru.fault_some h40 hk hc h0]
      rcases hle k with h | ⟨m, hm, h⟩
      · exact absurd h hc
      · exact .inr ⟨pb, m, rfl, hm, h, h1, h2⟩
  obtain ⟨p, cap, rfl, -⟩ := hrow
  clear hW hS hle hx
  by_cases h40 : 40 < l.length
  · have z1 : (40 : Int) < (l.length : Int) := by omega
    have HQ := hid1 (HM.out h40)
    clear HS HM HT hl h40
    generalize l.length = n at *
    go_enter Tryz.func132, Tryz.ntmps132
    go_wp2
    go_ret
    exact ⟨_, rfl, hB0, by rw [HQ.out]; exact ErrV.bare (by omega)⟩
  · have z1 : (l.length : Int) ≤ 40 := by omega
    have HQ := hid1 (HT.out (by omega))
    clear HM HT h40
    generalize l.length = n at *
    go_enter Tryz.func132, Tryz.ntmps132
    go_wp2_with fail
    refine HS.out.mono ?_
    rintro e w1 ⟨u, rfl, g, ht⟩
    have g1 := below_then hB0 g
    have HE := hid1 (HQ.out _ _ ht)
    clear g ht HS HQ
    go_wp2
    go_ret
    exact ⟨_, rfl, g1, HE.out⟩
end Go.Proofs.YtbgkfmodbofalaaGreatDoor
namespace Go.Proofs.YtbgkfmodbofalaaGreatDoor
open Go.RowKit Go.Shelf Go.Lib
def Af.gtB (y x : List UInt8) : Bool := !Op.bytesLess y x && !(y == x)
def Af.Laid (l : List (List UInt8)) (x : List UInt8) (r : List (List UInt8)) : Prop :=
  ∃ k, k ≤ l.length ∧ r = l.take k ++ x :: l.drop k ∧ (∀ j (hj : j < l.length), k ≤ j → Af.gtB l[j] x = true) ∧ (∀ hk : k - 1 < l.length, 0 < k → Af.gtB l[k - 1] x = false)
end Go.Proofs.YtbgkfmodbofalaaGreatDoor
namespace Go.Proofs.YtbgkfmodbofalaaGreatDoor
open Go.RowKit Go.Shelf Go.Lib
theorem gtB_le {x y : List UInt8} (h : Af.gtB y x = true) : x ≤ y := by
  unfold Af.gtB at h
  simp only [Bool.and_eq_true, Bool.not_eq_true'] at h
  have h1 := h.1
  rw [Tf.less_before] at h1
  refine List.not_lt.1 fun e => ?_
  rw [(Tf.before_lt y x).2 e] at h1
  cases h1
theorem gtB_ge {x y : List UInt8} (h : Af.gtB y x = false) : y ≤ x := by
  unfold Af.gtB at h
  simp only [Bool.and_eq_false_iff, Bool.not_eq_false'] at h
  rcases h with h | h
  · rw [Tf.less_before] at h
    exact List.le_of_lt ((Tf.before_lt y x).1 h)
  · rw [beq_iff_eq.1 h]
    exact List.le_refl _
theorem laid_sorted {l r : List (List UInt8)} {x : List UInt8} (hl : l.Pairwise (fun x y => x ≤ y)) (h : Af.Laid l x r) : r.Pairwise (fun x y => x ≤ y) ∧ r.Perm (l ++ [x]) := by
  obtain ⟨k, hk, rfl, hhi, hlo⟩ := h
  have hd : ∀ b ∈ l.drop k, x ≤ b := by
    intro b hb
    obtain ⟨j, hj, rfl⟩ := List.getElem_of_mem hb
    rw [List.getElem_drop]
    exact gtB_le (hhi (k + j) (by simp at hj; omega) (by omega))
  have ht : ∀ a ∈ l.take k, a ≤ x := by
    intro a ha
    obtain ⟨j, hj, rfl⟩ := List.getElem_of_mem ha
    rw [List.getElem_take]
    have hj' : j < k := by simp at hj; omega
    have h1 := gtB_ge (hlo (by omega) (by omega))
    by_cases e : j = k - 1
    · subst e; exact h1
    · exact List.le_trans (List.pairwise_iff_getElem.1 hl j (k - 1) (by omega) (by omega) (by omega)) h1
  constructor
  · rw [List.pairwise_append, List.pairwise_cons]
    refine ⟨hl.sublist (List.take_sublist k l), ⟨hd, hl.sublist (List.drop_sublist k l)⟩, ?_⟩
    intro a ha b hb
    rcases List.mem_cons.1 hb with rfl | hb
    · exact ht a ha
    · exact List.le_trans (ht a ha) (hd b hb)
  · have : (l.take k ++ x :: l.drop k).Perm (x :: (l.take k ++ l.drop k)) := List.perm_middle
    rw [List.take_append_drop] at this
    exact this.trans (List.perm_append_comm (l₁ := [x]) (l₂ := l))
end Go.Proofs.YtbgkfmodbofalaaGreatDoor
namespace Go.Proofs.YtbgkfmodbofalaaGreatDoor
open Go.RowKit Go.Shelf Go.Lib
namespace Ru
def Leaf (l : List Ru) (x : List UInt8) : Prop := (∃ y ∈ l, x ∈ y.ins) ∧ ∀ z ∈ l, z.out ≠ x
structure Leaves (l : List Ru) (r : List (List UInt8)) : Prop where
  rises : r.Pairwise (fun x y => x ≤ y)
  once : r.Nodup
  mem : ∀ x, x ∈ r ↔ Leaf l x
theorem Leaves.unique {l : List Ru} {r r' : List (List UInt8)} (h : Leaves l r) (h' : Leaves l r') : r = r' := by
  have hp : r.Perm r' := (List.perm_ext_iff_of_nodup h.once h'.once).2 fun x => (h.mem x).trans (h'.mem x).symm
  refine List.Perm.eq_of_pairwise (le := fun x y : List UInt8 => x ≤ y) ?_ h.rises h'.rises hp
  intro a b _ _ h1 h2
  exact List.le_antisymm h1 h2
end Ru
theorem TRow.irow {w : World} {v : Value} {l : List (List UInt8)} (h : TRow w v l) : IRow w v l := by
  obtain ⟨p, cap, e, _, h1⟩ := h
  refine ⟨p, cap, e, fun hl => ?_⟩
  obtain ⟨g, cur, e, hg, hc⟩ := h1 hl
  exact ⟨g, 0, e, (Array.getElem?_eq_some_iff.1 hg).1, fun j hj => by rw [Nat.zero_add]; exact cell_of_row hg (hc j hj)⟩
theorem leaf_laid_ne {l r : List (List UInt8)} {x : List UInt8} (h : Af.Laid l x r) : r ≠ [] ∧ r.length = l.length + 1 := by
  obtain ⟨k, hk, rfl, _⟩ := h
  constructor
  · simp
  · simp; omega
structure LeafSt (l : List Ru) (i k : Nat) (r : List (List UInt8)) : Prop where
  rises : r.Pairwise (fun x y => x ≤ y)
  once : r.Nodup
  mem : ∀ x, x ∈ r ↔ ((∃ y ∈ l.take i, x ∈ y.ins) ∨ ∃ y, l[i]? = some y ∧ x ∈ y.ins.take k) ∧ ∀ z ∈ l, z.out ≠ x
  few : r.length ≤ i * 12 + k
theorem LeafSt.first (l : List Ru) : LeafSt l 0 0 [] := ⟨List.Pairwise.nil, List.nodup_nil, fun x => by simp, by simp⟩
theorem LeafSt.same {l : List Ru} {i k : Nat} {r : List (List UInt8)} (hi : i < l.length) (hk : k < l[i].ins.length) (h : LeafSt l i k r) (hs : l[i].ins[k] ∈ r ∨ ∃ z ∈ l, z.out = l[i].ins[k]) : LeafSt l i (k + 1) r := by
  refine ⟨h.rises, h.once, fun x => ?_, by have := h.few; omega⟩
  rw [h.mem, List.getElem?_eq_getElem hi]
  simp only [Option.some.injEq]
  constructor
  · rintro ⟨h1, h2⟩
    refine ⟨?_, h2⟩
    rcases h1 with h1 | ⟨y, rfl, hx⟩
    · exact .inl h1
    · exact .inr ⟨_, rfl, (List.take_sublist_take_left (Nat.le_succ k)).subset hx⟩
  · rintro ⟨h1, h2⟩
    rcases h1 with h1 | ⟨y, rfl, hx⟩
    · exact ⟨.inl h1, h2⟩
    · rw [List.take_succ_eq_append_getElem hk, List.mem_append, List.mem_singleton] at hx
      rcases hx with hx | rfl
      · exact ⟨.inr ⟨_, rfl, hx⟩, h2⟩
      · rcases hs with hs | ⟨z, hz, e⟩
        · have := (h.mem _).1 hs
          rw [List.getElem?_eq_getElem hi] at this
          simpa only [Option.some.injEq] using this
        · exact absurd e (h2 z hz)
theorem LeafSt.laid {l : List Ru} {i k : Nat} {r r' : List (List UInt8)} (hi : i < l.length) (hk : k < l[i].ins.length) (h : LeafSt l i k r) (hn : l[i].ins[k] ∉ r) (hm : ∀ z ∈ l, z.out ≠ l[i].ins[k]) (hL : Af.Laid r l[i].ins[k] r') : LeafSt l i (k + 1) r' := by
  obtain ⟨h1, h2⟩ := laid_sorted h.rises hL
  refine ⟨h1, ?_, fun x => ?_, by rw [(leaf_laid_ne hL).2]; have := h.few; omega⟩
  · rw [h2.nodup_iff, List.nodup_append]
    exact ⟨h.once, by simp, fun a ha b hb => by
      rw [List.mem_singleton.1 hb]
      rintro rfl
      exact hn ha⟩
  · rw [h2.mem_iff, List.mem_append, List.mem_singleton, h.mem, List.getElem?_eq_getElem hi]
    simp only [Option.some.injEq]
    constructor
    · rintro (⟨h1, h2⟩ | rfl)
      · refine ⟨?_, h2⟩
        rcases h1 with h1 | ⟨y, rfl, hx⟩
        · exact .inl h1
        · exact .inr ⟨_, rfl, (List.take_sublist_take_left (Nat.le_succ k)).subset hx⟩
      · exact ⟨.inr ⟨_, rfl, by rw [List.take_succ_eq_append_getElem hk]; exact List.mem_append_right _ (List.mem_singleton.2 rfl)⟩, hm⟩
    · rintro ⟨h1, h2⟩
      rcases h1 with h1 | ⟨y, rfl, hx⟩
      · exact .inl ⟨.inl h1, h2⟩
      · rw [List.take_succ_eq_append_getElem hk, List.mem_append, List.mem_singleton] at hx
        rcases hx with hx | rfl
        · exact .inl ⟨.inr ⟨_, rfl, hx⟩, h2⟩
        · exact .inr rfl
theorem LeafSt.done {l : List Ru} {r : List (List UInt8)} (h : LeafSt l l.length 0 r) : Ru.Leaves l r :=
  ⟨h.rises, h.once, fun x => by
    rw [h.mem, List.take_length]
    unfold Ru.Leaf
    simp⟩
end Go.Proofs.YtbgkfmodbofalaaGreatDoor
