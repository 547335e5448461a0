import Derived.Test.YtbgkfmodbofalaaGreatDoorPL22
import Derived.Deep.RegionHeld3
import Derived.Test.YtbgkfmodbofalaaGreatDoorPL21
import Derived.Test.YtbgkfmodbofalaaGreatDoorPL09
import Derived.Test.YtbgkfmodbofalaaGreatDoorPL10
import Derived.Test.YtbgkfmodbofalaaGreatDoorPL07
namespace Go.Proofs.YtbgkfmodbofalaaGreatDoor
open Go.RowKit Go.Shelf Go.Lib Go.Maps
theorem Bf.St.num_done (s : Bf.St) : s.isDone = (s.num == 1 || s.num == 2) := by
  cases s with
  | done s b => cases b <;> rfl
  | _ => rfl
theorem Bf.St.num_waits {s : Bf.St} (h : s.isNo = false) : s.isWaits = (s.num == 0) := by
  cases s with
  | no => cases h
  | done s b => cases b <;> rfl
  | _ => rfl
theorem Bf.St.num_left (s : Bf.St) : s.isLeft = (s.num == 4) := by
  cases s with
  | done s b => cases b <;> rfl
  | _ => rfl
set_option maxRecDepth 100000 in
set_option maxHeartbeats 4000000 in
theorem stdone_calls {W : World} {b n : Nat} (h : W.cell? ⟨b, 4, none⟩ = some (.int .i64 (n : Nat))) :
    Calls Tryz.prog 135 #[Ptr b] W fun e w' => e = .returned (.bool (n == 1 || n == 2)) ∧ w' = W := by
  by_cases h1 : n = 1
  · subst h1
    go_enter Tryz.func135, Tryz.ntmps135
    go_wp2
    go_ret
    exact ⟨rfl, rfl⟩
  · have z1 : ((n : Int) == 1) = false := by simp; omega
    have y1 : (n == 1) = false := by simpa using h1
    by_cases h2 : n = 2
    · subst h2
      go_enter Tryz.func135, Tryz.ntmps135
      go_wp2
      go_ret
      exact ⟨rfl, rfl⟩
    · have z2 : ((n : Int) == 2) = false := by simp; omega
      have y2 : (n == 2) = false := by simpa using h2
      rw [y1, y2]
      go_enter Tryz.func135, Tryz.ntmps135
      go_wp2
      go_ret
      exact ⟨rfl, rfl⟩
set_option maxRecDepth 100000 in
set_option maxHeartbeats 4000000 in
theorem stready1_some {W : World} {b n : Nat} (h : W.cell? ⟨b, 4, none⟩ = some (.int .i64 (n : Nat))) (t : List UInt8) (th : Bool) :
    Calls Tryz.prog 181 #[.agg #[Ptr b, .string (ba t), .bool th]] W fun e w' => e = .returned (.bool (!(n == 1 || n == 2))) ∧ Below W.heap.size W w' := by
  have HC := hid1 (stdone_calls (cell_below' h ((Below.refl _ W).alloc (Nat.le_refl _) (.cells #[Ptr b, .string (ba t), .bool th] 252))))
  have gA : Below W.heap.size W (W.alloc (.cells #[Ptr b, .string (ba t), .bool th] 252)) := (Below.refl _ W).alloc (Nat.le_refl _) _
  generalize (n == 1 || n == 2) = d at *
  go_enter Tryz.func181, Tryz.ntmps181
  go_wp2_with fail
  refine HC.out.mono ?_
  rintro e w1 ⟨rfl, rfl⟩
  clear HC
  go_wp2
  go_ret
  exact ⟨rfl, gA⟩
set_option maxRecDepth 100000 in
set_option maxHeartbeats 4000000 in
theorem stready1_none {W : World} (t : List UInt8) (th : Bool) :
    Calls Tryz.prog 181 #[.agg #[.pointer none, .string (ba t), .bool th]] W fun e w' => e = .returned (.bool false) ∧ Below W.heap.size W w' := by
  have gA : Below W.heap.size W (W.alloc (.cells #[.pointer none, .string (ba t), .bool th] 252)) := (Below.refl _ W).alloc (Nat.le_refl _) _
  go_enter Tryz.func181, Tryz.ntmps181
  go_wp2
  go_ret
  exact ⟨rfl, gA⟩
def BRow (W : World) (v : Value) (sp : Nat → Nat) (l : List Inp) : Prop :=
  ∃ p cap, v = .slice p l.length cap ∧ (l ≠ [] → ∃ g, p = some ⟨g, 0, none⟩ ∧ g < W.heap.size ∧ ∀ j (hj : j < l.length), W.cell? ⟨g, j * 3, none⟩ = some (l[j].from sp) ∧ W.cell? ⟨g, j * 3 + 1, none⟩ = some (.string (ba l[j].text)) ∧ W.cell? ⟨g, j * 3 + 2, none⟩ = some (.bool l[j].there))
theorem BRow.of_owns {W : World} {B : Nat} {v : Value} {sp : Nat → Nat} {l : List Inp} (h : W.ownsRow B 252 3 v l.length (insC sp l)) : BRow W v sp l := by
  obtain ⟨p, cap, e⟩ := own_val h
  refine ⟨p, cap, e, fun hl => ?_⟩
  obtain ⟨g, cap', e', hc⟩ := own_cell h (List.length_pos_iff.2 hl)
  obtain ⟨cur, hg⟩ := own_in (j := g) h (by rw [e']; rfl)
  have : p = some ⟨g, 0, none⟩ := by
    rw [e] at e'
    simpa using (Value.slice.inj e').1
  refine ⟨g, this, (Array.getElem?_eq_some_iff.1 hg).1, fun j hj => ?_⟩
  obtain ⟨h0, h1, h2⟩ := insC_get sp l j hj
  exact ⟨hc _ _ h0, hc _ _ h1, hc _ _ h2⟩
theorem BRow.below {W W' : World} {v : Value} {sp : Nat → Nat} {l : List Inp} (h : BRow W v sp l) (hb : Below W.heap.size W W') : BRow W' v sp l := by
  obtain ⟨p, cap, e, h1⟩ := h
  refine ⟨p, cap, e, fun hl => ?_⟩
  obtain ⟨g, e, hg, hc⟩ := h1 hl
  exact ⟨g, e, Nat.lt_of_lt_of_le hg hb.size, fun j hj => ⟨cell_below' (hc j hj).1 hb, cell_below' (hc j hj).2.1 hb, cell_below' (hc j hj).2.2 hb⟩⟩
def Inp.val (sp : Nat → Nat) (x : Inp) : Value := .agg #[x.from sp, .string (ba x.text), .bool x.there]
set_option maxRecDepth 100000 in
set_option maxHeartbeats 4000000 in
theorem indexFuncB_calls {w : World} (v : Value) (sp : Nat → Nat) (l : List Inp) (hrow : BRow w v sp l) (hl : l.length ≤ 1000000) (f : Nat) (caps : Array Value) (eg : ∀ args w, (callFunc f args).run Tryz.prog w = .ok (.enter f args) w) (b : Nat → Bool)
    (HS : Hid (∀ k (hk : k < l.length) W, Below w.heap.size w W → Calls Tryz.prog f (#[l[k].val sp] ++ caps) W fun e w' => e = .returned (.bool (b k)) ∧ Below W.heap.size W w')) :
    Calls Tryz.prog 264 #[v, .func (.func f) #[] caps] w fun e w' => ∃ r : Int, e = .returned (.int .i64 r) ∧ Below w.heap.size w w' ∧ ((r = -1 ∧ ∀ j, j < l.length → b j = false) ∨ ∃ k : Nat, r = k ∧ k < l.length ∧ b k = true) := by
  obtain ⟨p, cap, rfl, hin⟩ := hrow
  have HI := hid1 hin
  clear hin
  have zl : (l.length : Int) ≤ 1000000 := by omega
  go_enter Tryz.func264, Tryz.ntmps264
  go_wp2
  go_loopw [8] (fun i wr => ∃ k : Nat, k ≤ l.length ∧ i = .int .i64 k ∧ (∀ j, j < k → b j = false) ∧ Below w.heap.size w wr) (fun i _ => l.length - (intOf i).toNat)
  case atStart => exact ⟨0, Nat.zero_le _, rfl, fun j h => by omega, Below.refl _ _⟩
  case round =>
    obtain ⟨k, hk, rfl, hz, hB⟩ := hrel
    have HZ := hid1 hz
    clear hz
    have c0 : (0 : Int) ≤ (k : Int) := by omega
    by_cases hlt : k < l.length
    · have c1 : (k : Int) < (l.length : Int) := by omega
      obtain ⟨g', rfl, hg, hcur⟩ := HI.out (by intro e; rw [e] at hlt; simp at hlt)
      obtain ⟨u0, u1, u2⟩ := hcur k hlt
      have d0 := cell_below' u0 hB
      have d1 := cell_below' u1 hB
      have d2 := cell_below' u2 hB
      have HC := HS.out k hlt wr hB
      unfold Inp.val at HC
      obtain ⟨fb, hfb⟩ : ∃ o, l[k].from sp = .pointer o := by cases l[k] <;> exact ⟨_, rfl⟩
      rw [hfb] at d0 HC
      clear hcur HI HS u0 u1 u2 hfb
      generalize l[k] = y at *
      cases hc : b k with
      | false =>
        rw [hc] at HC
        have HN : Hid (∀ j, j < k + 1 → b j = false) := hid1 fun j hj => by
          rcases Nat.lt_or_ge j k with h | h
          · exact HZ.out j h
          · obtain rfl : j = k := by omega
            exact hc
        clear hc HZ
        go_wp2_with fail
        refine Calls.mono HC ?_
        rintro e w1 ⟨rfl, hb1⟩
        clear HC
        go_wp2
        exact ⟨⟨k + 1, by omega, by go_num, HN.out, below_then hB hb1⟩, by simp [intOf]; omega⟩
      | true =>
        rw [hc] at HC
        have HE := hid1 hc
        clear hc
        go_wp2_with fail
        refine Calls.mono HC ?_
        rintro e w1 ⟨rfl, hb1⟩
        clear HC
        go_wp2
        go_ret
        exact ⟨_, rfl, below_then hB hb1, .inr ⟨k, rfl, hlt, HE.out⟩⟩
    · have c1 : (l.length : Int) ≤ (k : Int) := by omega
      have HN : Hid (∀ j, j < l.length → b j = false) := hid1 fun j hj => HZ.out j (by omega)
      clear HI HS HZ
      go_wp2
      go_ret
      exact ⟨_, rfl, hB, .inl ⟨rfl, HN.out⟩⟩
set_option maxRecDepth 100000 in
set_option maxHeartbeats 4000000 in
theorem containsFuncB_calls {w : World} (v : Value) (sp : Nat → Nat) (l : List Inp) (hrow : BRow w v sp l) (hl : l.length ≤ 1000000) (f : Nat) (caps : Array Value) (eg : ∀ args w, (callFunc f args).run Tryz.prog w = .ok (.enter f args) w) (b : Nat → Bool)
    (HS : Hid (∀ k (hk : k < l.length) W, Below w.heap.size w W → Calls Tryz.prog f (#[l[k].val sp] ++ caps) W fun e w' => e = .returned (.bool (b k)) ∧ Below W.heap.size W w')) :
    Calls Tryz.prog 180 #[v, .func (.func f) #[] caps] w fun e w' => ∃ d : Bool, e = .returned (.bool d) ∧ Below w.heap.size w w' ∧ (d = true ↔ ∃ k, k < l.length ∧ b k = true) := by
  have HC := hid1 (indexFuncB_calls v sp l hrow hl f caps eg b HS)
  obtain ⟨p, cap, rfl, hin⟩ := hrow
  clear hin HS
  go_enter Tryz.func180, Tryz.ntmps180
  go_wp2_with fail
  refine HC.out.mono ?_
  rintro e w1 ⟨r, rfl, hb, h⟩
  rcases h with ⟨rfl, h⟩ | ⟨k, rfl, hk, h⟩
  · have HN := hid1 h
    clear h
    go_wp2
    go_ret
    refine ⟨_, rfl, hb, ?_⟩
    simp
    intro k hk
    simpa using HN.out k hk
  · have HN := hid1 h
    have z : (0 : Int) ≤ (k : Int) := by omega
    clear h
    go_wp2
    go_ret
    refine ⟨true, rfl, hb, ?_⟩
    simp
    exact ⟨k, hk, HN.out⟩
def Inp.holds (st : Nat → Bf.St) : Inp → Bool
  | .rule k => !(st k).isDone
  | _ => false
set_option maxRecDepth 100000 in
set_option maxHeartbeats 4000000 in
theorem stready_calls {W : World} {es : Nat → Addr} {dom : Nat → Prop} {L : Lay} {ru : Nat → Ru} {ins : Nat → List Inp} {st : Nat → Bf.St} (h : Steps W es dom L ru ins st) (i : Nat) (hi : dom i) (hno : (st i).isNo = false) (hl : (ins i).length ≤ 1000) :
    Calls Tryz.prog 129 #[Ptr (L.sp i)] W fun e w' => e = .returned (.bool ((st i).isWaits && !(ins i).any (Inp.holds st))) ∧ Below W.heap.size W w' := by
  have hA := h.at hi
  have c4 := hA.c4
  have c2 := hA.c2
  have hw := Bf.St.num_waits hno
  have hrow := BRow.of_owns (h.insR i hi)
  have HC := hid1 (containsFuncB_calls (w := W) (L.iv i) L.sp (ins i) hrow (by omega) 181 #[] (enters_of Tryz.func181 (by kernel_rfl) rfl) (fun j => ((ins i).getD j .gone).holds st)
    (hid1 fun k hk V g => by
      have hD := h.insD i hi
      have e0 : (ins i).getD k .gone = (ins i)[k] := by simp [hk]
      rw [e0]
      have hm : (ins i)[k] ∈ ins i := List.getElem_mem hk
      generalize (ins i)[k] = y at *
      cases y with
      | rule j =>
        have hj := hD j hm
        have := stready1_some (cell_below' (h.at hj).c4 g) [] false
        rw [← Bf.St.num_done] at this
        exact this
      | file b => exact stready1_none b true
      | gone => exact stready1_none [] false))
  have HD : Hid (∀ d : Bool, (d = true ↔ ∃ k, k < (ins i).length ∧ ((ins i).getD k .gone).holds st = true) → d = (ins i).any (Inp.holds st)) := hid1 fun d hd => by
    rw [Bool.eq_iff_iff, hd, List.any_eq_true]
    constructor
    · rintro ⟨k, hk, e⟩
      rw [List.getD_eq_getElem?_getD, List.getElem?_eq_getElem hk] at e
      exact ⟨_, List.getElem_mem hk, e⟩
    · rintro ⟨x, hx, e⟩
      obtain ⟨k, hk, rfl⟩ := List.getElem_of_mem hx
      exact ⟨k, hk, by rw [List.getD_eq_getElem?_getD, List.getElem?_eq_getElem hk]; exact e⟩
  obtain ⟨p, cap, e2, -⟩ := hrow
  rw [e2] at c2 HC
  clear h hA e2 hno
  cases hc : (st i).isWaits with
  | false =>
    rw [hc] at hw
    have z : (((st i).num : Int) == 0) = false := by
      have : (st i).num ≠ 0 := fun e => by rw [e] at hw; cases hw
      simp; omega
    rw [Bool.false_and]
    clear HC HD hw hc
    go_enter Tryz.func129, Tryz.ntmps129
    go_wp2
    go_ret
    exact ⟨rfl, Below.refl _ _⟩
  | true =>
    rw [hc] at hw
    have z : (st i).num = 0 := by simpa using hw.symm
    rw [z] at c4
    rw [Bool.true_and]
    generalize hz : (ins i).any (Inp.holds st) = d0 at *
    clear hw hc hz
    go_enter Tryz.func129, Tryz.ntmps129
    go_wp2_with fail
    refine HC.out.mono ?_
    rintro e w1 ⟨d, rfl, g1, hd⟩
    obtain rfl := HD.out d hd
    clear HC HD hd
    go_wp2
    go_ret
    exact ⟨rfl, g1⟩
end Go.Proofs.YtbgkfmodbofalaaGreatDoor
namespace Go.Proofs.YtbgkfmodbofalaaGreatDoor
open Go.RowKit Go.Shelf Go.Lib
set_option maxRecDepth 100000 in
set_option maxHeartbeats 4000000 in
theorem slIndexI_calls {w : World} (v : Value) (l : List Nat) (x : Nat) (hrow : NIRow w v l) (hl : l.length ≤ 1000000) :
    Calls Tryz.prog 178 #[v, nv x] w fun e w' => ∃ r : Int, e = .returned (.int .i64 r) ∧ w' = w ∧ ((r = -1 ∧ x ∉ l) ∨ ∃ k : Nat, r = k ∧ x ∈ l) := by
  obtain ⟨p, cap, rfl, hin⟩ := hrow
  have HI := hid1 hin
  clear hin
  have zl : (l.length : Int) ≤ 1000000 := by omega
  go_enter Tryz.func178, Tryz.ntmps178
  go_wp2
  go_loopw [8] (fun i wr => ∃ k : Nat, k ≤ l.length ∧ i = .int .i64 k ∧ x ∉ l.take k ∧ w = wr) (fun i _ => l.length - (intOf i).toNat)
  case atStart => exact ⟨0, Nat.zero_le _, rfl, by simp, rfl⟩
  case round =>
    obtain ⟨k, hk, rfl, hz, rfl⟩ := hrel
    have HZ := hid1 hz
    clear hz
    have c0 : (0 : Int) ≤ (k : Int) := by omega
    by_cases hlt : k < l.length
    · have c1 : (k : Int) < (l.length : Int) := by omega
      obtain ⟨g', o, rfl, hg, hcur⟩ := HI.out (by intro e; rw [e] at hlt; simp at hlt)
      have hcell := hcur k hlt
      have HT : Hid (l[k] ≠ x → x ∉ l.take (k + 1)) := hid1 fun hne => by
        rw [List.take_succ_eq_append_getElem hlt]
        simp only [List.mem_append, List.mem_singleton, not_or]
        exact ⟨HZ.out, fun e => hne e.symm⟩
      have HP : Hid (l[k] = x → x ∈ l) := hid1 fun he => he ▸ List.getElem_mem hlt
      clear hcur HI HZ
      generalize l[k] = y at *
      by_cases he : y = x
      · subst he
        have HPP := hid1 (HP.out rfl)
        clear HP HT
        go_wp2
        go_ret
        exact ⟨_, rfl, rfl, .inr ⟨k, rfl, HPP.out⟩⟩
      · have e0 : ¬ x = y := fun e => he e.symm
        have e1 : ((x : Int) == (y : Int)) = false := by simp; omega
        have HTT := hid1 (HT.out he)
        clear HP HT
        go_wp2
        exact ⟨⟨k + 1, by omega, by go_num, HTT.out, trivial⟩, by simp [intOf]; omega⟩
    · have c1 : (l.length : Int) ≤ (k : Int) := by omega
      have HN : Hid (x ∉ l) := hid1 (by
        have := HZ.out
        rwa [List.take_of_length_le (by omega)] at this)
      clear HI HZ
      go_wp2
      go_ret
      exact ⟨_, rfl, rfl, .inl ⟨rfl, HN.out⟩⟩
set_option maxRecDepth 100000 in
set_option maxHeartbeats 4000000 in
theorem slContainsI_calls {w : World} (v : Value) (l : List Nat) (x : Nat) (hrow : NIRow w v l) (hl : l.length ≤ 1000000) :
    Calls Tryz.prog 126 #[v, nv x] w fun e w' => e = .returned (.bool (decide (x ∈ l))) ∧ w' = w := by
  have HC := hid1 (slIndexI_calls v l x hrow hl)
  obtain ⟨p, cap, rfl, hin⟩ := hrow
  clear hin
  have HD : Hid (∀ b : Bool, (b = true ↔ x ∈ l) → decide (x ∈ l) = b) := hid1 fun b hb => by
    rw [Bool.eq_iff_iff, hb]
    simp
  generalize decide (x ∈ l) = d at *
  go_enter Tryz.func126, Tryz.ntmps126
  go_wp2_with fail
  refine HC.out.mono ?_
  rintro e w1 ⟨r, rfl, rfl, h⟩
  rcases h with ⟨rfl, h⟩ | ⟨k, rfl, h⟩
  · obtain rfl := HD.out false (by simp [h])
    clear HD HC h
    go_wp2
    go_ret
    exact ⟨rfl, rfl⟩
  · have z : (0 : Int) ≤ (k : Int) := by omega
    obtain rfl := HD.out true (by simp [h])
    clear HD HC h
    go_wp2
    go_ret
    exact ⟨rfl, rfl⟩
set_option maxRecDepth 100000 in
set_option maxHeartbeats 4000000 in
theorem indexFuncI_calls {w : World} (v : Value) (l : List Nat) (hrow : NIRow w v l) (hl : l.length ≤ 1000000) (f : Nat) (caps : Array Value) (eg : ∀ args w, (callFunc f args).run Tryz.prog w = .ok (.enter f args) w) (b : Nat → Bool)
    (HS : Hid (∀ x ∈ l, ∀ W, Below w.heap.size w W → Calls Tryz.prog f (#[nv x] ++ caps) W fun e w' => e = .returned (.bool (b x)) ∧ Below W.heap.size W w')) :
    Calls Tryz.prog 169 #[v, .func (.func f) #[] caps] w fun e w' => ∃ r : Int, e = .returned (.int .i64 r) ∧ Below w.heap.size w w' ∧ ((r = -1 ∧ ∀ x ∈ l, b x = false) ∨ ∃ k : Nat, r = k ∧ ∃ h : k < l.length, b l[k] = true ∧ ∀ x ∈ l.take k, b x = false) := by
  obtain ⟨p, cap, rfl, hin⟩ := hrow
  have HI := hid1 hin
  clear hin
  have zl : (l.length : Int) ≤ 1000000 := by omega
  go_enter Tryz.func169, Tryz.ntmps169
  go_wp2
  go_loopw [8] (fun i wr => ∃ k : Nat, k ≤ l.length ∧ i = .int .i64 k ∧ (∀ x ∈ l.take k, b x = false) ∧ Below w.heap.size w wr) (fun i _ => l.length - (intOf i).toNat)
  case atStart => exact ⟨0, Nat.zero_le _, rfl, by simp, Below.refl _ _⟩
  case round =>
    obtain ⟨k, hk, rfl, hz, hB⟩ := hrel
    have HZ := hid1 hz
    clear hz
    have c0 : (0 : Int) ≤ (k : Int) := by omega
    by_cases hlt : k < l.length
    · have c1 : (k : Int) < (l.length : Int) := by omega
      obtain ⟨g', o, rfl, hg, hcur⟩ := HI.out (by intro e; rw [e] at hlt; simp at hlt)
      have d0 := (hB.cell (p := ⟨g', o + k, none⟩) hg).trans (hcur k hlt)
      have HC := HS.out l[k] (List.getElem_mem hlt) wr hB
      have HN : Hid (b l[k] = false → ∀ x ∈ l.take (k + 1), b x = false) := hid1 fun h x hx => by
        rw [List.take_succ_eq_append_getElem hlt] at hx
        rcases List.mem_append.1 hx with h1 | h1
        · exact HZ.out x h1
        · rw [List.mem_singleton.1 h1]; exact h
      have HP : Hid (b l[k] = true → ∃ j : Nat, (k : Int) = j ∧ ∃ h : j < l.length, b l[j] = true ∧ ∀ x ∈ l.take j, b x = false) := hid1 fun h => ⟨k, rfl, hlt, h, HZ.out⟩
      clear hcur HI HS HZ
      generalize l[k] = y at *
      cases hc : b y with
      | false =>
        rw [hc] at HC
        have HN2 := hid1 (HN.out hc)
        clear hc HN HP
        go_wp2_with fail
        refine Calls.mono HC ?_
        rintro e w1 ⟨rfl, hb1⟩
        clear HC
        go_wp2
        exact ⟨⟨k + 1, by omega, by go_num, HN2.out, below_then hB hb1⟩, by simp [intOf]; omega⟩
      | true =>
        rw [hc] at HC
        have HE := hid1 (HP.out hc)
        clear hc HN HP
        go_wp2_with fail
        refine Calls.mono HC ?_
        rintro e w1 ⟨rfl, hb1⟩
        clear HC
        go_wp2
        go_ret
        exact ⟨_, rfl, below_then hB hb1, .inr HE.out⟩
    · have c1 : (l.length : Int) ≤ (k : Int) := by omega
      have HN : Hid (∀ x ∈ l, b x = false) := hid1 fun x hx => HZ.out x (by rwa [List.take_of_length_le (by omega)])
      clear HI HS HZ
      go_wp2
      go_ret
      exact ⟨_, rfl, hB, .inl ⟨rfl, HN.out⟩⟩
set_option maxRecDepth 100000 in
set_option maxHeartbeats 4000000 in
theorem containsFuncI_calls {w : World} (v : Value) (l : List Nat) (hrow : NIRow w v l) (hl : l.length ≤ 1000000) (f : Nat) (caps : Array Value) (eg : ∀ args w, (callFunc f args).run Tryz.prog w = .ok (.enter f args) w) (b : Nat → Bool)
    (HS : Hid (∀ x ∈ l, ∀ W, Below w.heap.size w W → Calls Tryz.prog f (#[nv x] ++ caps) W fun e w' => e = .returned (.bool (b x)) ∧ Below W.heap.size W w')) :
    Calls Tryz.prog 235 #[v, .func (.func f) #[] caps] w fun e w' => e = .returned (.bool (l.any b)) ∧ Below w.heap.size w w' := by
  have HC := hid1 (indexFuncI_calls v l hrow hl f caps eg b HS)
  obtain ⟨p, cap, rfl, hin⟩ := hrow
  clear hin HS
  have HD : Hid (∀ d : Bool, (d = true ↔ ∃ x ∈ l, b x = true) → l.any b = d) := hid1 fun d hd => by
    rw [Bool.eq_iff_iff, hd, List.any_eq_true]
  generalize l.any b = d at *
  go_enter Tryz.func235, Tryz.ntmps235
  go_wp2_with fail
  refine HC.out.mono ?_
  rintro e w1 ⟨r, rfl, hb, h⟩
  rcases h with ⟨rfl, h⟩ | ⟨k, rfl, hk, h, _⟩
  · obtain rfl := HD.out false (by
      simp
      intro x hx
      simpa using h x hx)
    clear HD HC h
    go_wp2
    go_ret
    exact ⟨rfl, hb⟩
  · have z : (0 : Int) ≤ (k : Int) := by omega
    obtain rfl := HD.out true (by
      simp
      exact ⟨_, List.getElem_mem hk, h⟩)
    clear HD HC h
    go_wp2
    go_ret
    exact ⟨rfl, hb⟩
set_option maxRecDepth 100000 in
set_option maxHeartbeats 4000000 in
theorem grmeet1_calls {w : World} (x : Nat) (b : Nat) (v : Value) (l : List Nat) (hb : w.cell? ⟨b, 0, none⟩ = some v) (hrow : NIRow w v l) (hl : l.length ≤ 1000000) :
    Calls Tryz.prog 236 #[nv x, .pointer (some ⟨b, 0, none⟩)] w fun e w' => e = .returned (.bool (decide (x ∈ l))) ∧ Below w.heap.size w w' := by
  have HC := hid1 (slContainsI_calls v l x hrow hl)
  obtain ⟨p, cap, rfl, hin⟩ := hrow
  clear hin
  generalize decide (x ∈ l) = d at *
  go_enter Tryz.func236, Tryz.ntmps236
  go_wp2_with fail
  refine HC.out.mono ?_
  rintro e w1 ⟨rfl, rfl⟩
  clear HC
  go_wp2
  go_ret
  exact ⟨rfl, Below.refl _ _⟩
set_option maxRecDepth 100000 in
set_option maxHeartbeats 4000000 in
theorem grmeet_calls {w : World} (va vb : Value) (la lb : List Nat) (ha : NIRow w va la) (hb : NIRow w vb lb) (hla : la.length ≤ 1000000) (hlb : lb.length ≤ 1000000) :
    Calls Tryz.prog 171 #[va, vb] w fun e w' => e = .returned (.bool (la.any fun x => decide (x ∈ lb))) ∧ Below w.heap.size w w' := by
  have hB0 : Below w.heap.size w (w.alloc (.cells #[vb] 68)) := (Below.refl _ w).alloc (Nat.le_refl _) _
  have hv0 : (w.alloc (.cells #[vb] 68)).cell? ⟨w.heap.size, 0, none⟩ = some vb := by simp
  have HC := hid1 (containsFuncI_calls (w := w.alloc (.cells #[vb] 68)) va la (ha.below hB0) hla 236 #[.pointer (some ⟨w.heap.size, 0, none⟩)] (enters_of Tryz.func236 (by kernel_rfl) rfl) (fun x => decide (x ∈ lb))
    (hid1 fun x _ W g => grmeet1_calls x w.heap.size vb lb (cell_below' hv0 g) ((hb.below hB0).below g) hlb))
  obtain ⟨pa, ca, rfl, -⟩ := ha
  obtain ⟨pb, cb, rfl, -⟩ := hb
  clear hv0
  generalize (la.any fun x => decide (x ∈ lb)) = d at *
  go_enter Tryz.func171, Tryz.ntmps171
  go_wp2_with fail
  refine HC.out.mono ?_
  rintro e w1 ⟨rfl, g⟩
  have g1 := below_then hB0 g
  clear HC
  go_wp2
  go_ret
  exact ⟨rfl, g1⟩
def withN (l : List Nat) (x : Nat) : List Nat := if x ∈ l then l else l ++ [x]
theorem withN_mem (l : List Nat) (x y : Nat) : y ∈ withN l x ↔ y ∈ l ∨ y = x := by
  unfold withN
  split
  · rename_i h
    constructor
    · exact .inl
    · rintro (h1 | rfl)
      · exact h1
      · exact h
  · simp
theorem withN_once {l : List Nat} (h : l.Nodup) (x : Nat) : (withN l x).Nodup := by
  unfold withN
  split
  · exact h
  · rename_i hx
    rw [List.nodup_append]
    exact ⟨h, by simp, fun a ha b hb => by
      rw [List.mem_singleton.1 hb]
      rintro rfl
      exact hx ha⟩
end Go.Proofs.YtbgkfmodbofalaaGreatDoor
namespace Go.Proofs.YtbgkfmodbofalaaGreatDoor
open Go.RowKit Go.Shelf Go.Lib
theorem Own.congr {W : World} {B g n : Nat} {f f' : Nat → Bool} (h : Own W B g n f) (hf : ∀ j, j < n → f j = f' j) : Own W B g n f' := by
  unfold Own at h ⊢
  rw [← rowB_congr hf]
  exact h
end Go.Proofs.YtbgkfmodbofalaaGreatDoor
namespace Go.Proofs.YtbgkfmodbofalaaGreatDoor
open Go.RowKit Go.Shelf Go.Lib
def rowN (n : Nat) (f : Nat → Nat) : List Value := (List.range n).map (fun j => nv (f j))
theorem rowN_get {n : Nat} (f : Nat → Nat) {j : Nat} (h : j < n) : (rowN n f)[j]? = some (nv (f j)) := by simp [rowN, h]
theorem rowN_congr {n : Nat} {f g : Nat → Nat} (h : ∀ j, j < n → f j = g j) : rowN n f = rowN n g := by
  unfold rowN
  exact List.map_congr_left fun j hj => by rw [h j (List.mem_range.1 hj)]
theorem rowN_set (n : Nat) (f : Nat → Nat) (k b : Nat) : (rowN n f).set k (nv b) = rowN n (fun j => if j = k then b else f j) := by
  apply List.ext_getElem?
  intro j
  unfold rowN
  rw [List.getElem?_set]
  by_cases hj : j < n
  · by_cases e : k = j
    · subst e; simp [hj]
    · have e' : ¬ j = k := fun h => e h.symm
      simp [hj, e, e']
  · by_cases e : k = j
    · subst e; simp [hj]
    · simp [hj, e]
def OwnN (W : World) (B g n : Nat) (f : Nat → Nat) : Prop := W.ownsRow B 3 1 (.slice (some ⟨g, 0, none⟩) n n) n (rowN n f)
theorem OwnN.cell {W : World} {B g n : Nat} {f : Nat → Nat} (h : OwnN W B g n f) {j : Nat} (hj : j < n) : W.cell? ⟨g, j, none⟩ = some (nv (f j)) := by
  have := World.ownsRow.cellAt h j (by omega)
  rw [this, rowN_get f hj]
theorem OwnN.lt {W : World} {B g n : Nat} {f : Nat → Nat} (h : OwnN W B g n f) : g < W.heap.size ∧ B ≤ g := by
  rcases h.2 with ⟨h', _⟩ | ⟨g', cap', cur, h', hb, hg, _⟩
  · cases h'
  · cases h'
    exact ⟨(Array.getElem?_eq_some_iff.1 hg).1, hb⟩
theorem OwnN.grown {W W' : World} {B g n : Nat} {f : Nat → Nat} (h : OwnN W B g n f) (hg : W.grownBy W' none) : OwnN W' B g n f :=
  World.ownsRow.kept h hg (.inr (by simp [Value.ownBlock]))
theorem OwnN.other {W : World} {B g n : Nat} {f : Nat → Nat} (h : OwnN W B g n f) {g' : Nat} (hne : g ≠ g') (k : Nat) (u : Value) : OwnN (W.setCell ⟨g', k, none⟩ u) B g n f :=
  ownsRow_setCell_other h (by simp [Value.ownBlock, hne]) u
theorem OwnN.set {W : World} {B g n : Nat} {f f' : Nat → Nat} (h : OwnN W B g n f) (k b : Nat) (hf : ∀ j, j < n → (if j = k then b else f j) = f' j) : OwnN (W.setCell ⟨g, k, none⟩ (nv b)) B g n f' := by
  have := (World.ownsRow.stored h k (nv b)).1
  rw [rowN_set, rowN_congr hf] at this
  exact this
theorem OwnN.congr {W : World} {B g n : Nat} {f f' : Nat → Nat} (h : OwnN W B g n f) (hf : ∀ j, j < n → f j = f' j) : OwnN W B g n f' := by
  unfold OwnN at h ⊢
  rw [← rowN_congr hf]
  exact h
theorem OwnN.below {W W' : World} {B g n : Nat} {f : Nat → Nat} (h : OwnN W B g n f) (hB : Below W.heap.size W W') : OwnN W' B g n f := by
  have hl := h.lt.1
  refine ⟨h.1, ?_⟩
  rcases h.2 with ⟨h', _⟩ | ⟨g', cap', cur, h', hb, hg, r⟩
  · cases h'
  · cases h'
    exact .inr ⟨g, n, cur, rfl, hb, (hB.block g hl).trans hg, r⟩
theorem Tryz.infoInts : (Tryz.prog.info? 68).map (fun i => (i.zero, i.size, i.bytes)) = some (some (.slice none 0 0), 1, 24) := by kernel_rfl
def topS (n m : Nat) (rb : Nat → Nat) : List Value := (List.range n).map fun i => if i < m then .slice (some ⟨rb i, 0, none⟩) n n else .slice none 0 0
structure Mat (W : World) (B gF n m : Nat) (rb : Nat → Nat) (F : Nat → Nat → Nat) : Prop where
  top : W.ownsRow B 68 1 (.slice (some ⟨gF, 0, none⟩) n n) n (topS n m rb)
  row : ∀ i, i < m → OwnN W B (rb i) n (F i)
  inj : ∀ i j, i < m → j < m → i ≠ j → rb i ≠ rb j
theorem Mat.cell {W : World} {B gF n m : Nat} {rb : Nat → Nat} {F : Nat → Nat → Nat} (h : Mat W B gF n m rb F) {i k : Nat} (hi : i < m) (hk : k < n) : W.cell? ⟨rb i, k, none⟩ = some (nv (F i k)) := (h.row i hi).cell hk
theorem Mat.ne {W : World} {B gF n m : Nat} {rb : Nat → Nat} {F : Nat → Nat → Nat} (h : Mat W B gF n m rb F) {i : Nat} (hi : i < m) : gF ≠ rb i := by
  have h1 := owns_far h.top (h.row i hi) (by decide)
  intro e
  apply h1
  rw [← e]
  rfl
theorem Mat.set {W : World} {B gF n m : Nat} {rb : Nat → Nat} {F F' : Nat → Nat → Nat} (h : Mat W B gF n m rb F) {i k : Nat} (hi : i < m) (b : Nat) (hF : ∀ a j, a < m → j < n → (if a = i ∧ j = k then b else F a j) = F' a j) : Mat (W.setCell ⟨rb i, k, none⟩ (nv b)) B gF n m rb F' := by
  refine ⟨ownsRow_setCell_other h.top (by simp [Value.ownBlock, h.ne hi]) _, fun a ha => ?_, h.inj⟩
  by_cases e : a = i
  · subst e
    exact (h.row a ha).set k b fun j hj => by
      have := hF a j ha hj
      simpa using this
  · refine ((h.row a ha).other (h.inj a i ha hi e) k _).congr fun j hj => ?_
    have := hF a j ha hj
    simpa [e] using this
theorem Mat.below {W W' : World} {B gF n m : Nat} {rb : Nat → Nat} {F : Nat → Nat → Nat} (h : Mat W B gF n m rb F) (hB : Below W.heap.size W W') : Mat W' B gF n m rb F := by
  refine ⟨?_, fun i hi => (h.row i hi).below hB, h.inj⟩
  refine ⟨h.top.1, ?_⟩
  rcases h.top.2 with ⟨h', _⟩ | ⟨g', cap', cur, h', hb, hg, r⟩
  · cases h'
  · cases h'
    exact .inr ⟨gF, n, cur, rfl, hb, (hB.block gF (Array.getElem?_eq_some_iff.1 hg).1).trans hg, r⟩
theorem Mat.drew {W : World} {B gF n m : Nat} {rb : Nat → Nat} {F : Nat → Nat → Nat} (h : Mat W B gF n m rb F) (q : Nat) : Mat (W.drewN q) B gF n m rb F := h.below (below_draws (Below.refl _ W) q)
end Go.Proofs.YtbgkfmodbofalaaGreatDoor
