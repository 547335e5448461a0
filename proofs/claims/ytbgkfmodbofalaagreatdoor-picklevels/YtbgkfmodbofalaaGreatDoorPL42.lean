import Derived.Test.YtbgkfmodbofalaaGreatDoorPL40
import Derived.Test.YtbgkfmodbofalaaGreatDoorPL41
import Derived.Test.YtbgkfmodbofalaaGreatDoorPL10
import Derived.Test.YtbgkfmodbofalaaGreatDoorPL19
import Derived.Test.YtbgkfmodbofalaaGreatDoorPL39
import Derived.Test.YtbgkfmodbofalaaGreatDoorPL16
namespace Go.Proofs.YtbgkfmodbofalaaGreatDoor
open Go.RowKit Go.Shelf Go.Lib
namespace Lp
abbrev write : List UInt8 := [119, 114, 105, 116, 101]
abbrev l : List Ru := [⟨[97], write, [120], []⟩, ⟨[98], write, [121], []⟩]
abbrev outs : List (List UInt8) := [[97], [98]]
abbrev d : Bf.Bd := ⟨[], l, fun k => if k < 2 then .waits else .no⟩
theorem fault0 : (Ru.fault l).1 = 0 := by kernel_rfl
theorem needs0 (i k : Nat) : Ru.needs l i k = false := by
  cases hn : Ru.needs l i k with
  | false => rfl
  | true =>
    obtain ⟨h1, h2⟩ := Ru.needs_lt hn
    rw [Ru.needs_eq h1 h2] at hn
    have h3 : i < 2 := h1
    match i, h3 with
    | 0, _ => simp at hn
    | 1, _ => simp at hn
theorem base0 : ∀ k, k < 2 → Ru.base l outs k = true := fun k hk => by
  match k, hk with
  | 0, _ => decide
  | 1, _ => decide
theorem needed : Ru.Needed l outs (fun k => decide (k < 2)) := by
  refine ⟨fun k hk => ?_, fun i k _ h => ?_, fun P h1 _ k hk h => ?_⟩
  · by_cases h : k < 2
    · simpa using h
    · have e : l[k]? = none := List.getElem?_eq_none (by simp; omega)
      simp [Ru.base, e] at hk
  · rw [needs0] at h
    cases h
  · exact h1 k (base0 k (by simpa using hk))
theorem init0 : Bf.init [] l outs = d := by
  unfold Bf.init
  congr 1
  funext k
  by_cases h : k < 2
  · rw [Bf.need_eq needed (by simpa using h)]
    simp [h]
  · rw [Bf.need_out (by simp; omega)]
    simp [h]
theorem order0 : (Ru.order l (Bf.need l outs)).isSome = true := by
  rw [Ru.order_congr2 (g := fun k => decide (k < 2)) fun k hk => Bf.need_eq needed hk]
  decide
theorem order1 : Ru.order l allB1 = some [0, 1] := by decide
theorem deep1 : Ru.deep l = 1 := by decide
theorem act0 : Af.actO write [120] [] = ([120], 0) := by decide
theorem act1 : Af.actO write [121] [] = ([121], 0) := by decide
abbrev d1 : Bf.Bd := d.set 1 (.done [121] false)
abbrev d2 : Bf.Bd := d1.set 0 (.done [120] false)
theorem ready0 : d.ready = [0, 1] := by decide
theorem ready1 : d1.ready = [0] := by decide
theorem ready2 : d2.ready = [] := by decide
theorem go1 : Bf.go Af.actO none d 1 = ⟨false, 0, d1, none⟩ := by
  unfold Bf.go
  have e1 : d.ins 1 = some [] := by decide
  have e2 : d.rule 1 = ⟨[98], write, [121], []⟩ := rfl
  rw [e1]
  simp only [e2]
  have e3 : Bf.cfind none (Kp.key write [121] []) = none := rfl
  rw [e3]
  simp only
  rw [act1, if_pos rfl]
  rfl
theorem go2 : Bf.go Af.actO none d1 0 = ⟨false, 0, d2, none⟩ := by
  unfold Bf.go
  have e1 : d1.ins 0 = some [] := by decide
  have e2 : d1.rule 0 = ⟨[97], write, [120], []⟩ := rfl
  rw [e1]
  simp only [e2]
  have e3 : Bf.cfind none (Kp.key write [120] []) = none := rfl
  rw [e3]
  simp only
  rw [act0, if_pos rfl]
  rfl
theorem picked : (Bf.pickRun Af.actO none d [1]).xs = [1, 0] := by
  have s1 : Bf.pstep Af.actO ⟨d, none, []⟩ (Bf.turn [1] 0) = ⟨d1, none, [1]⟩ := by
    have e : Bf.pickAt (Bf.turn [1] 0) 2 = 1 := by decide
    unfold Bf.pstep
    simp only [ready0]
    rw [if_neg (by simp)]
    show (⟨(Bf.go Af.actO none d ([0, 1].getD (Bf.pickAt (Bf.turn [1] 0) 2) 0)).d, _, _⟩ : Bf.Pk) = _
    rw [e]
    show (⟨(Bf.go Af.actO none d 1).d, (Bf.go Af.actO none d 1).c, _⟩ : Bf.Pk) = _
    rw [go1]
    rfl
  have s2 : Bf.pstep Af.actO ⟨d1, none, [1]⟩ (Bf.turn [1] 1) = ⟨d2, none, [1, 0]⟩ := by
    have e : Bf.pickAt (Bf.turn [1] 1) 1 = 0 := by decide
    unfold Bf.pstep
    simp only [ready1]
    rw [if_neg (by simp)]
    show (⟨(Bf.go Af.actO none d1 ([0].getD (Bf.pickAt (Bf.turn [1] 1) 1) 0)).d, _, _⟩ : Bf.Pk) = _
    rw [e]
    show (⟨(Bf.go Af.actO none d1 0).d, (Bf.go Af.actO none d1 0).c, _⟩ : Bf.Pk) = _
    rw [go2]
    rfl
  have h0 := Bf.fin_turn (act := Af.actO) (s := ⟨d, none, []⟩) (by rw [ready0]; simp) [1] 0
  have h1 := Bf.fin_turn (act := Af.actO) (s := ⟨d1, none, [1]⟩) (by rw [ready1]; simp) [1] 1
  rw [s1] at h0
  rw [s2] at h1
  rw [Bf.pickRun_fin, ← List.drop_zero (l := [(1 : Int)]), h0, h1, Bf.fin_none ready2]
theorem fit0 : Bf.Fit d := by
  refine ⟨fun f hf => by simp at hf, fun k => ?_, fun k => ?_⟩
  · show (if k < 2 then Bf.St.waits else .no).out.length ≤ 2000
    split <;> decide
  · show (if k < 2 then Bf.St.waits else .no).why ≤ 12
    split <;> decide
theorem small : ∀ x ∈ l, x.Small := fun x hx => by
  rcases List.mem_cons.1 hx with rfl | hx
  · exact ⟨by decide, by decide, by decide, by decide, fun y hy => by simp at hy⟩
  · obtain rfl := List.mem_singleton.1 hx
    exact ⟨by decide, by decide, by decide, by decide, fun y hy => by simp at hy⟩
end Lp
theorem NewTells.getP {es : Nat → Addr} {BAt : (Nat → Prop) → World → Value → Value → Bf.Bd → Prop} {n : Nat} {cv : Value} {w : World} {bv ev : Value} (h : NewTells es BAt n [] Lp.l Lp.outs cv w bv ev) : ev = .nilIface ∧ ∃ p S, bv = .pointer (some p) ∧ BAt S w bv cv Lp.d ∧ ∀ k, S k → n ≤ k := by
  rcases h with ⟨_, ⟨h1, _⟩ | ⟨_, k, hk, h2, _⟩ | ⟨_, _, h3, _⟩⟩ | ⟨_, _, _, h4, ⟨p, h5⟩, S, h6, h7⟩
  · exact absurd Lp.fault0 h1
  · have h3 : k < 2 := hk
    match k, h3 with
    | 0, _ => exact absurd rfl (h2 ⟨[97], Lp.write, [120], []⟩ (by simp))
    | 1, _ => exact absurd rfl (h2 ⟨[98], Lp.write, [121], []⟩ (by simp))
  · have := Lp.order0
    rw [h3] at this
    cases this
  · rw [Lp.init0] at h6
    exact ⟨h4, p, S, h5, h6, h7⟩
abbrev lpCells : Array Value := #[.string ⟨#[97]⟩, .string ⟨#[119, 114, 105, 116, 101]⟩, .string ⟨#[120]⟩, .slice none 0 0, .string ⟨#[98]⟩, .string ⟨#[119, 114, 105, 116, 101]⟩, .string ⟨#[121]⟩, .slice none 0 0]
theorem lp_rows (w : World) :
    RRow ((w.alloc (.cells lpCells 90)).alloc (.cells #[.string ⟨#[97]⟩, .string ⟨#[98]⟩] 9)) (.slice (some ⟨w.heap.size, 0, none⟩) 2 2) Lp.l ∧
    XRow ((w.alloc (.cells lpCells 90)).alloc (.cells #[.string ⟨#[97]⟩, .string ⟨#[98]⟩] 9)) (.slice (some ⟨w.heap.size + 1, 0, none⟩) 2 2) Lp.outs ∧
    Below w.heap.size w ((w.alloc (.cells lpCells 90)).alloc (.cells #[.string ⟨#[97]⟩, .string ⟨#[98]⟩] 9)) := by
  obtain ⟨w1, h1⟩ : ∃ w1, w1 = w.alloc (.cells lpCells 90) := ⟨_, rfl⟩
  obtain ⟨w2, h2⟩ : ∃ w2, w2 = w1.alloc (.cells #[.string ⟨#[97]⟩, .string ⟨#[98]⟩] 9) := ⟨_, rfl⟩
  have z1 : w1.heap.size = w.heap.size + 1 := by rw [h1]; simp
  have z2 : w2.heap.size = w.heap.size + 2 := by rw [h2]; simp; omega
  have b1 : Below w.heap.size w w1 := by rw [h1]; exact (Below.refl _ w).alloc (Nat.le_refl _) _
  have b2 : Below w1.heap.size w1 w2 := by rw [h2]; exact (Below.refl _ w1).alloc (Nat.le_refl _) _
  have r1 : w1.heap[w.heap.size]? = some (.cells lpCells 90) := by rw [h1]; exact row_new _ _
  have r2 : w2.heap[w.heap.size + 1]? = some (.cells #[.string ⟨#[97]⟩, .string ⟨#[98]⟩] 9) := by rw [h2, ← z1]; exact row_new _ _
  have s1 := row_below r1 b2
  rw [← h1, ← h2]
  refine ⟨⟨_, _, rfl, Nat.le_refl _, (fun e => by cases e), fun _ => ⟨_, _, rfl, by omega, fun j hj => ?_⟩⟩, ⟨_, _, rfl, Nat.le_refl _, (fun e => by cases e), fun _ => ⟨_, _, rfl, by omega, fun j hj => ?_⟩⟩, below_then b1 b2⟩
  · have h3 : j < 2 := hj
    match j, h3 with
    | 0, _ => exact ⟨cell_of_row (j := 0) s1 rfl, cell_of_row (j := 1) s1 rfl, cell_of_row (j := 2) s1 rfl, _, cell_of_row (j := 3) s1 rfl, XRow.nil _⟩
    | 1, _ => exact ⟨cell_of_row (j := 4) s1 rfl, cell_of_row (j := 5) s1 rfl, cell_of_row (j := 6) s1 rfl, _, cell_of_row (j := 7) s1 rfl, XRow.nil _⟩
  · have h3 : j < 2 := hj
    match j, h3 with
    | 0, _ => exact cell_of_row (j := 0) r2 rfl
    | 1, _ => exact cell_of_row (j := 1) r2 rfl
set_option maxRecDepth 100000 in
set_option maxHeartbeats 16000000 in
theorem picked_calls {es : Nat → Addr} {At : (Nat → Prop) → World → Value → Nat → Cf.Ens → Prop} {BAt : (Nat → Prop) → World → Value → Value → Bf.Bd → Prop} (HB : Builds es Af.actO At BAt) {W : World} (hW : BuildW W es) :
    Calls Tryz.prog 81 #[] W fun e w' => e = .returned (.bool true) ∧ Below W.heap.size W w' := by
  have HBu := hid1 HB
  have HW := hid1 (BuildB.of hW)
  have HT := hid1 (New_calls W)
  clear HB hW
  go_enter Tryz.func81, Tryz.ntmps81
  go_wp2_with fail
  refine HT.out.mono ?_
  rintro e w1 ⟨rfl, hT1, g1⟩
  obtain ⟨hR2, hX2, g2⟩ := lp_rows w1
  have HT1 := hid1 hT1
  have hz1 := hT1.lt
  have HG1 := hid1 g1
  clear HT hT1 g1
  generalize hw2 : (w1.alloc (.cells lpCells 90)).alloc (.cells #[.string ⟨#[97]⟩, .string ⟨#[98]⟩] 9) = w2 at *
  have G2 := below_then HG1.out g2
  have HNw := hid1 (HBu.out.new w2 W.heap.size W.heap.size [] _ _ Lp.l _ Lp.outs (.pointer none) (HW.out.below G2).w (HT1.out.below g2) (by unfold Tf.Rises; simp) (by simp) (by simp) hR2 (by simp) Lp.small hX2 (by simp) (by simp) ⟨_, rfl⟩)
  have HR2 := hid1 hR2
  clear hR2 hX2 g2 HT1
  go_wp2_with fail
  refine HNw.out.mono ?_
  rintro e w3 ⟨bv, ev, rfl, g3, hN3⟩
  obtain ⟨rfl, p, S, rfl, hB3, hS3⟩ := hN3.getP
  have hSl := HBu.out.lt _ _ _ _ _ hB3
  have hz3 := g3.size
  have hz2 := G2.size
  have a4 : Below w3.heap.size w3 (w3.alloc (.cells #[.int .i64 1] 3)) := (Below.refl _ w3).alloc (Nat.le_refl _) _
  have hz4 : (w3.alloc (.cells #[.int .i64 1] 3)).heap.size = w3.heap.size + 1 := by simp
  have hZ4 : ZRow (w3.alloc (.cells #[.int .i64 1] 3)) (.slice (some ⟨w3.heap.size, 0, none⟩) 1 1) [1] := ⟨_, _, rfl, fun _ => ⟨_, _, rfl, by simp, fun j hj => by
    obtain rfl : j = 0 := by simp at hj; omega
    exact cell_of_row (j := 0) (row_new w3 (.cells #[.int .i64 1] 3)) rfl⟩⟩
  have G4 := below_then (below_then G2 g3) a4
  have HPk := hid1 (pRun_calls HBu.out actFit (B := W.heap.size) (HBu.out.same _ _ _ _ _ _ hB3 a4.size fun k hk => a4.block k (hSl k hk)) (HW.out.below G4) (fun j hj => by have := hS3 j hj; omega) Lp.fault0 Lp.small Lp.fit0 _ [1] hZ4 (fun x hx => by obtain rfl := List.mem_singleton.1 hx; omega) (by simp) (fun _ g o n c e hS => by
    simp only [Value.slice.injEq, Option.some.injEq, Addr.mk.injEq] at e
    have := hSl g hS
    omega))
  have HS3 := hid1 (And.intro hS3 hSl)
  have HG := hid1 (And.intro G4 (below_then g3 a4))
  clear HNw hN3 hB3 hS3 hSl hZ4 a4 g3 G4 hw2
  go_wp2_with fail
  refine HPk.out.mono ?_
  rintro e w5 ⟨u, rfl, S5, hB5, hS5, hO5, hrow5, -⟩
  rw [Lp.picked] at hrow5
  have g25 : Below w2.heap.size w2 w5 := (HG.out.2.mono (Nat.le_refl _)).trans (hO5.below (fun j hj => HS3.out.1 j hj) (by have := HG.out.2.size; omega))
  have G5 := below_then G2 g25
  have HDp := hid1 (pDeep_calls (HW.out.below G5).w.g _ Lp.l (HR2.out.below g25) (by simp) Lp.small)
  have hU5 : NIRow w5 u [1, 0] := (NRow.of_owns hrow5).ni
  obtain ⟨pu, cu, hu⟩ := own_slice hrow5
  subst hu
  have HU5 := hid1 hU5
  clear HPk hB5 hS5 hO5 hrow5 hU5 HR2
  go_wp2_with fail
  refine HDp.out.mono ?_
  rintro e w6 ⟨n, ev6, rfl, g6, hD6⟩
  obtain ⟨rfl, rfl⟩ : n = 1 ∧ ev6 = .nilIface := by
    rcases hD6 with ⟨h1, _⟩ | ⟨_, h2, _⟩ | ⟨_, _, h3, h4⟩
    · exact absurd Lp.fault0 h1
    · rw [Lp.order1] at h2
      cases h2
    · rw [Lp.deep1] at h4
      exact ⟨h4, h3⟩
  have a7 : Below w6.heap.size w6 (w6.alloc (.cells #[.int .i64 1, .int .i64 0] 3)) := (Below.refl _ w6).alloc (Nat.le_refl _) _
  have hV7 : NIRow (w6.alloc (.cells #[.int .i64 1, .int .i64 0] 3)) (.slice (some ⟨w6.heap.size, 0, none⟩) 2 2) [1, 0] := ⟨_, _, rfl, fun _ => ⟨_, _, rfl, by simp, fun j hj => by
    have h3 : j < 2 := hj
    match j, h3 with
    | 0, _ => exact cell_of_row (j := 0) (row_new w6 (.cells #[.int .i64 1, .int .i64 0] 3)) rfl
    | 1, _ => exact cell_of_row (j := 1) (row_new w6 (.cells #[.int .i64 1, .int .i64 0] 3)) rfl⟩⟩
  have HSi := hid1 (SameInts_ni _ _ [1, 0] ((HU5.out.below g6).below a7) hV7 (by simp))
  have G7 := below_then G5 (below_then g6 a7)
  clear HDp hD6 hV7 a7 HU5 g6
  go_wp2_with fail
  refine HSi.out.mono ?_
  rintro e w8 ⟨rfl, q8, rfl⟩
  have G8 := below_draws G7 q8
  clear HSi
  go_wp2
  go_ret
  exact ⟨rfl, G8⟩
end Go.Proofs.YtbgkfmodbofalaaGreatDoor
namespace Go.Proofs.YtbgkfmodbofalaaGreatDoor
open Go.RowKit Go.Shelf Go.Lib
theorem Ru.levTo_bound {l : List Ru} {f : Nat → Nat} {i b : Nat} (h : ∀ k, f k ≤ b) (n : Nat) : Ru.levTo l f i n ≤ b + 1 := by
  by_cases e : Ru.levTo l f i n = 0
  · omega
  · obtain ⟨k, _, _, e2⟩ := Ru.levTo_some e
    have := h k
    omega
set_option maxRecDepth 100000 in
set_option maxHeartbeats 8000000 in
theorem LevelOf_calls {W0 : World} (vl : Value) (l : List Ru) (hrow : RRow W0 vl l) (hl : l.length ≤ 40) (hS : ∀ x ∈ l, x.Small) {o : List Nat} (hO : Ru.Ordd l o) : ∀ (r i : Nat), o.idxOf i = r → i < l.length → ∀ W, Below W0.heap.size W0 W →
    Calls Tryz.prog 85 #[vl, .int .i64 i] W fun e w' => e = .returned (.int .i64 (Ru.lev l i : Nat)) ∧ Below W.heap.size W w' := by
  intro r
  induction r using Nat.strongRecOn with
  | _ r ih =>
  intro i hr hi W hB
  have HIH := hid1 fun (k : Nat) (hn : Ru.needs l i k = true) (V : World) (gV : Below W.heap.size W V) => ih (o.idxOf k) (by rw [← hr]; exact hO.rank i k hn) k rfl (Ru.needs_lt hn).2 V (below_then hB gV)
  have HNr := hid1 fun (k : Nat) (hk : k < l.length) (V : World) (gV : Below W.heap.size W V) => NeedsRule_calls (w := V) vl l ((hrow.below hB).below gV) (fun x hx => by have := (hS x hx).many; omega) i k hi hk
  have HEq := hid1 (Ru.lev_eq hO.rank hO.bound i)
  have HLe := hid1 fun j => Nat.le_trans (hO.lev_le j) hl
  have HBd := hid1 fun n => Ru.levTo_bound (l := l) (f := Ru.lev l) (i := i) HLe.out n
  obtain ⟨pr, cap, rfl, -⟩ := hrow
  have zl : (l.length : Int) ≤ 40 := by omega
  clear hO hS ih hB hr
  go_enter Tryz.func85, Tryz.ntmps85
  go_wp2
  go_loopw [5, 6] (fun nv' kv wr => ∃ k : Nat, k ≤ l.length ∧ kv = .int .i64 k ∧ nv' = .int .i64 (Ru.levTo l (Ru.lev l) i k : Nat) ∧ Below W.heap.size W wr) (fun _ kv _ => l.length - (intOf kv).toNat)
  case atStart => exact ⟨0, Nat.zero_le _, rfl, rfl, Below.refl _ _⟩
  case round =>
    obtain ⟨k, hk, rfl, rfl, hB⟩ := hrel
    have k0 : (0 : Int) ≤ (k : Int) := by omega
    have hbd := HBd.out k
    by_cases hlt : k < l.length
    · have k1 : (k : Int) < (l.length : Int) := by omega
      have HN := hid1 (HNr.out k hlt wr hB)
      have HSt : Hid (Ru.levTo l (Ru.lev l) i (k + 1) = if Ru.needs l i k = true then max (Ru.levTo l (Ru.lev l) i k) (Ru.lev l k + 1) else Ru.levTo l (Ru.lev l) i k) := hid1 rfl
      have hlk := HLe.out k
      clear HNr HBd HEq HLe
      generalize Ru.levTo l (Ru.lev l) i k = a at *
      have za : (a : Int) ≤ 41 := by omega
      have za0 : (0 : Int) ≤ (a : Int) := by omega
      go_wp2_with fail
      refine HN.out.mono ?_
      rintro e w1 ⟨rfl, q1, rfl⟩
      have g1 : Below wr.heap.size wr (wr.drewN q1) := below_draws (Below.refl _ wr) q1
      clear HN
      cases hn : Ru.needs l i k with
      | false =>
        rw [hn] at HSt
        simp only [Bool.false_eq_true, if_false] at HSt
        go_wp2
        exact ⟨⟨k + 1, by omega, by go_num, by rw [HSt.out], below_then hB g1⟩, by simp [intOf]; omega⟩
      | true =>
        rw [hn] at HSt
        simp only [if_true] at HSt
        have HI2 := hid1 (HIH.out k hn (wr.drewN q1) (below_then hB g1))
        clear HIH
        generalize Ru.lev l k = c at *
        have zc : (c : Int) ≤ 40 := by omega
        have zc0 : (0 : Int) ≤ (c : Int) := by omega
        go_wp2_with fail
        refine HI2.out.mono ?_
        rintro e w2 ⟨rfl, g2⟩
        have G2 := below_then hB (below_then g1 g2)
        clear HI2
        by_cases hac : a < c + 1
        · have z1 : (a : Int) < (c : Int) + 1 := by omega
          have e : max a (c + 1) = c + 1 := by omega
          rw [e] at HSt
          go_wp2
          exact ⟨⟨k + 1, by omega, by go_num, by rw [HSt.out]; go_num, G2⟩, by simp [intOf]; omega⟩
        · have z1 : (c : Int) + 1 ≤ (a : Int) := by omega
          have e : max a (c + 1) = a := by omega
          rw [e] at HSt
          go_wp2
          exact ⟨⟨k + 1, by omega, by go_num, by rw [HSt.out], G2⟩, by simp [intOf]; omega⟩
    · have k1 : (l.length : Int) ≤ (k : Int) := by omega
      obtain rfl : k = l.length := by omega
      clear HNr HIH
      go_wp2
      go_ret
      exact ⟨by rw [← HEq.out]; rfl, hB⟩
end Go.Proofs.YtbgkfmodbofalaaGreatDoor
namespace Go.Proofs.YtbgkfmodbofalaaGreatDoor
open Go.RowKit Go.Shelf Go.Lib
set_option maxHeartbeats 4000000 in
theorem faulted3_calls {w : World} {es : Nat → Addr} (hE : E12 w es) (v : Value) (f : Nat × Int) (h : ErrV w es v f) :
    Calls Tryz.prog 84 #[v, .agg #[.int .i64 f.1, .int .i64 f.2]] w fun e w' => e = .returned (.bool true) ∧ Below w.heap.size w w' := by
  obtain ⟨c, n⟩ := f
  have hB0 : Below w.heap.size w (w.alloc (.cells #[.int .i64 c, .int .i64 n] 75)) := (Below.refl _ w).alloc (Nat.le_refl _) _
  have hc0 : (w.alloc (.cells #[.int .i64 c, .int .i64 n] 75)).cell? ⟨w.heap.size, 0, none⟩ = some (.int .i64 c) := by simp
  have hc1 : (w.alloc (.cells #[.int .i64 c, .int .i64 n] 75)).cell? ⟨w.heap.size, 1, none⟩ = some (.int .i64 n) := by simp
  have HC : Hid (∀ W, Below w.heap.size w W → Calls Tryz.prog 96 #[v] W fun e w' => ∃ n', e = .returned (.tuple #[.int .i64 (c : Int), .int .i64 n']) ∧ (c = 0 ∨ n' = n) ∧ Below W.heap.size W w') := hid1 fun W hW => by
    rcases h with ⟨h1, rfl, h2⟩ | ⟨pb, m, rfl, hm, h0, h1, h2⟩
    · simp only at h1 h2 ⊢
      subst h1
      cases c with
      | zero => exact (Code_nil W).mono fun e w' ⟨p, q⟩ => ⟨_, p, .inl rfl, q ▸ Below.refl _ _⟩
      | succ k =>
        obtain ⟨cc, t, hr⟩ := (hE.below hW).rows k (by omega)
        have := Code_ptr (es k) es cc t W (hE.below hW) hr
        rw [codeOf_es hE k (by omega)] at this
        exact this.mono fun e w' ⟨p, q⟩ => ⟨_, p, .inr rfl, q⟩
    · simp only at h0 h1 h2
      subst h0
      exact (Code_fault pb n m hm es W (hE.below hW) (cell_below' h1 hW) (cell_below' h2 hW)).mono fun e w' ⟨p, q⟩ => ⟨n, p, .inr rfl, q⟩
  clear hE h
  simp only
  generalize hci : (c : Int) = ci at *
  go_enter Tryz.func84, Tryz.ntmps84
  go_wp2_with fail
  refine (HC.out _ hB0).mono ?_
  rintro e w1 ⟨n', rfl, hd, g⟩
  have g1 := below_then hB0 g
  have d0 := cell_below' hc0 g
  have d1 := cell_below' hc1 g
  clear HC hB0 hc0 hc1 g
  by_cases h0 : ci = 0
  · subst h0
    go_wp2
    go_ret
    exact ⟨rfl, g1⟩
  · have e0 : (ci == 0) = false := by simpa using h0
    obtain rfl : n' = n := hd.resolve_left (by intro e; apply h0; rw [← hci, e]; rfl)
    go_wp2
    go_ret
    exact ⟨rfl, g1⟩
end Go.Proofs.YtbgkfmodbofalaaGreatDoor
namespace Go.Proofs.YtbgkfmodbofalaaGreatDoor.Tf
open Go.Lib
def pos (c : UInt8) (s : List UInt8) : Nat := s.findIdx (· == c)
theorem pos_le (c : UInt8) (s : List UInt8) : pos c s ≤ s.length := List.findIdx_le_length
theorem pos_not (c : UInt8) (s : List UInt8) : c ∉ s.take (pos c s) := by
  intro h
  obtain ⟨j, hj, e⟩ := List.mem_iff_getElem.1 h
  rw [List.length_take] at hj
  rw [List.getElem_take] at e
  have := List.not_of_lt_findIdx (p := (· == c)) (xs := s) (i := j) (by unfold pos at hj; omega)
  simp [e] at this
theorem pos_split {c : UInt8} {s : List UInt8} (h : pos c s < s.length) : s = s.take (pos c s) ++ c :: s.drop (pos c s + 1) := by
  have h1 : s[pos c s] = c := by
    have := List.findIdx_getElem (xs := s) (p := (· == c)) (w := h)
    exact eq_of_beq this
  conv => lhs; rw [← List.take_append_drop (pos c s) s, List.drop_eq_getElem_cons h, h1]
theorem index_no {c : UInt8} : ∀ {s : List UInt8}, c ∉ s → Lib.index s [c] = -1
  | [], _ => rfl
  | b :: l, h => by
    have h1 : c ∉ l := fun h2 => h (List.mem_cons_of_mem _ h2)
    have h2 : (c == b) = false := by simp; intro e; exact h (by simp [e])
    unfold Lib.index
    rw [index_no h1]
    simp [List.isPrefixOf, h2]
theorem cut_pos (c : UInt8) (s : List UInt8) : Lib.cut s [c] = if pos c s < s.length then (s.take (pos c s), s.drop (pos c s + 1), true) else (s, [], false) := by
  split
  · rename_i h
    conv => lhs; rw [pos_split h]
    exact cut_at _ _ _ (pos_not c s)
  · rename_i h
    have h1 : pos c s = s.length := by have := pos_le c s; omega
    have h2 := pos_not c s
    rw [h1, List.take_length] at h2
    unfold Lib.cut
    rw [index_no h2]
    rfl
def readP (s : List UInt8) : Option ((List UInt8 × List UInt8) × List UInt8) :=
  if pos 10 s = s.length ∨ pos 32 (s.take (pos 10 s)) = pos 10 s then none
  else match numT ((s.take (pos 10 s)).drop (pos 32 (s.take (pos 10 s)) + 1)) with
    | none => none
    | some n => if s[pos 10 s + 1 + n]? = some 10 then some ((s.take (pos 32 (s.take (pos 10 s))), (s.drop (pos 10 s + 1)).take n), s.drop (pos 10 s + n + 2)) else none
theorem readE_readP (s : List UInt8) : readE s = readP s := by
  have hL := pos_le 10 s
  have hB := pos_le 32 (s.take (pos 10 s))
  rw [List.length_take, Nat.min_eq_left hL] at hB
  unfold readE readP
  rw [cut_pos 10 s]
  by_cases h1 : pos 10 s < s.length
  · rw [if_pos h1]
    simp only [Bool.true_eq_false, if_false]
    rw [cut_pos 32 (s.take (pos 10 s)), List.length_take, Nat.min_eq_left hL]
    by_cases h2 : pos 32 (s.take (pos 10 s)) < pos 10 s
    · rw [if_pos h2]
      simp only [Bool.true_eq_false, if_false]
      rw [if_neg (show ¬ (pos 10 s = s.length ∨ pos 32 (s.take (pos 10 s)) = pos 10 s) by omega)]
      cases numT ((s.take (pos 10 s)).drop (pos 32 (s.take (pos 10 s)) + 1)) with
      | none => rfl
      | some n =>
        simp only
        have e1 : (s.drop (pos 10 s + 1)).drop n = s.drop (pos 10 s + 1 + n) := by rw [List.drop_drop]
        rw [e1, List.length_drop]
        by_cases h3 : pos 10 s + 1 + n < s.length
        · rw [if_neg (by omega), List.drop_eq_getElem_cons h3, List.getElem?_eq_getElem h3]
          by_cases h4 : s[pos 10 s + 1 + n] = 10
          · rw [if_neg (by simp [h4, Lib.hasPrefix]), if_pos (by rw [h4])]
            rw [List.take_take, Nat.min_eq_left (by omega), List.drop_drop, show pos 10 s + 1 + (n + 1) = pos 10 s + n + 2 by omega]
          · have h5 : ((10 : UInt8) == s[pos 10 s + 1 + n]) = false := by simpa using fun e => h4 (by rw [← e])
            rw [if_pos (by simp only [Lib.hasPrefix, List.isPrefixOf, h5, Bool.false_and]), if_neg (by simpa using h4)]
        · rw [List.drop_eq_nil_of_le (by omega), List.getElem?_eq_none (by omega)]
          simp [Lib.hasPrefix]
    · rw [if_neg h2, if_pos (show pos 10 s = s.length ∨ pos 32 (s.take (pos 10 s)) = pos 10 s by omega)]
      simp
  · rw [if_neg h1, if_pos (show pos 10 s = s.length ∨ pos 32 (s.take (pos 10 s)) = pos 10 s by omega)]
    simp
theorem readE_text {s r : List UInt8} {e : List UInt8 × List UInt8} (h : readE s = some (e, r)) : s = entryT e ++ r := by
  rw [readE_readP] at h
  unfold readP at h
  split at h
  · cases h
  rename_i h1
  have hL := pos_le 10 s
  have hB := pos_le 32 (s.take (pos 10 s))
  rw [List.length_take, Nat.min_eq_left hL] at hB
  split at h
  · cases h
  rename_i n hn
  split at h
  · rename_i h10
    simp at h
    obtain ⟨rfl, rfl⟩ := h
    have hd : Lib.decDigits n = (s.take (pos 10 s)).drop (pos 32 (s.take (pos 10 s)) + 1) := by
      unfold numT at hn
      split at hn
      · cases hn
      split at hn
      · rename_i z hz
        split at hn
        · rename_i hc
          have e : z = (n : Int) := by have := Option.some.inj hn; omega
          rw [e, Lib.itoa_nonneg] at hc
          exact hc.2
        · cases hn
      · cases hn
    have hlt : pos 10 s + 1 + n < s.length := by
      rcases Nat.lt_or_ge (pos 10 s + 1 + n) s.length with h | h
      · exact h
      · rw [List.getElem?_eq_none h] at h10; cases h10
    have hlen : ((s.drop (pos 10 s + 1)).take n).length = n := by rw [List.length_take, List.length_drop]; omega
    have hp1 := pos_split (c := 10) (s := s) (by omega)
    have hp2 := pos_split (c := 32) (s := s.take (pos 10 s)) (by rw [List.length_take]; omega)
    have hp3 : s.drop (pos 10 s + 1) = (s.drop (pos 10 s + 1)).take n ++ 10 :: s.drop (pos 10 s + n + 2) := by
      have e1 : (s.drop (pos 10 s + 1)).drop n = s.drop (pos 10 s + 1 + n) := by rw [List.drop_drop]
      conv => lhs; rw [← List.take_append_drop n (s.drop (pos 10 s + 1)), e1, List.drop_eq_getElem_cons hlt]
      rw [List.getElem?_eq_getElem hlt] at h10
      rw [Option.some.inj h10, show pos 10 s + 1 + n + 1 = pos 10 s + n + 2 by omega]
    have ht : (s.take (pos 10 s)).take (pos 32 (s.take (pos 10 s))) = s.take (pos 32 (s.take (pos 10 s))) := by rw [List.take_take, Nat.min_eq_left hB]
    unfold entryT
    simp only
    rw [hlen, hd]
    conv => lhs; rw [hp1, hp2, hp3, ht]
    simp
  · cases h
theorem Parse.text {s : List UInt8} {es : Fs} (h : Parse s es) : textT es = s := by
  induction h with
  | nil => rfl
  | cons _ hr _ ih =>
    rw [readE_text hr, ← ih]
    simp [textT]
def stop (ok : List UInt8 → Bool) : Fs → Fs → Nat
  | _, [] => 0
  | t, e :: r => if putCode ok t e.1 e.2 = 0 then stop ok (put t e.1 e.2) r else putCode ok t e.1 e.2
def numR (d : List UInt8) : Option Nat := if d.length < 1 ∨ 4 < d.length ∨ (1 < d.length ∧ d[0]? = some 48) then none else Lib.decFrom 0 d
theorem digits_head : ∀ (n : Nat), 1 ≤ n → (Lib.decDigits n).head? ≠ some 48
  | n, h1 => by
    rw [Lib.decDigits]
    split
    · rename_i h
      simp only [List.head?_cons, ne_eq, Option.some.injEq]
      intro e
      have := congrArg UInt8.toNat e
      simp at this
      omega
    · rename_i h
      have ih := digits_head (n / 10) (by omega)
      have hne := digits_ne (n / 10)
      cases hl : Lib.decDigits (n / 10) with
      | nil => exact absurd hl hne
      | cons b r => rw [hl] at ih; simpa using ih
  termination_by n => n
  decreasing_by omega
theorem decFrom_back (l : List UInt8) (c : UInt8) (acc m : Nat) (h : Lib.decFrom acc (l ++ [c]) = some m) : ∃ n d, Lib.decFrom acc l = some n ∧ Lib.digitVal c = some d ∧ m = n * 10 + d := by
  obtain ⟨n, hn⟩ := Lib.decFrom_prefix _ acc m h l.length
  rw [List.take_left'] at hn
  · obtain ⟨d, hd⟩ := Lib.digit_of_decFrom _ acc m h l.length c (by simp)
    have := decFrom_append l [c] acc n hn
    rw [h, decFrom_one n d c hd] at this
    exact ⟨n, d, hn, hd, Option.some.inj this⟩
  · rfl
theorem digit_byte {c : UInt8} {d : Nat} (h : Lib.digitVal c = some d) : UInt8.ofNat (48 + d) = c ∧ d < 10 := by
  obtain ⟨h1, h2, h3⟩ := Lib.digitVal_eq h
  refine ⟨?_, by omega⟩
  rw [h3, show 48 + (c.toNat - 48) = c.toNat by omega]
  simp
theorem digits_of : ∀ (n : Nat) (l : List UInt8) (m : Nat), l.length = n → l ≠ [] → l.head? ≠ some 48 → Lib.decFrom 0 l = some m → Lib.decDigits m = l ∧ 1 ≤ m
  | 0, l, m, hn, hne, _, _ => absurd (List.length_eq_zero_iff.1 hn) hne
  | n + 1, l, m, hn, hne, hh, hm => by
    have el := (List.dropLast_concat_getLast hne).symm
    generalize l.dropLast = l' at el
    generalize l.getLast hne = c at el
    subst el
    obtain ⟨k, d, hk, hd, rfl⟩ := decFrom_back l' c 0 m hm
    obtain ⟨hc, hd10⟩ := digit_byte hd
    by_cases hl : l' = []
    · subst hl
      simp [Lib.decFrom] at hk
      subst hk
      have hc48 : c ≠ 48 := by simpa using hh
      have hd0 : d ≠ 0 := fun e => hc48 (by rw [← hc, e]; rfl)
      rw [Lib.decDigits, dif_pos (by omega), show 0 * 10 + d = d by omega, hc]
      exact ⟨rfl, by omega⟩
    · have hh' : l'.head? ≠ some 48 := by
        cases l' with
        | nil => exact absurd rfl hl
        | cons b r => simpa using hh
      obtain ⟨h1, h2⟩ := digits_of n l' k (by simp at hn; omega) hl hh' hk
      rw [Lib.decDigits, dif_neg (by omega), show (k * 10 + d) / 10 = k by omega, show (k * 10 + d) % 10 = d by omega, h1, hc]
      exact ⟨rfl, by omega⟩
theorem numT_numR (d : List UInt8) : numT d = numR d := by
  unfold numT numR
  by_cases h4 : 4 < d.length
  · rw [if_pos h4, if_pos (by omega)]
  rw [if_neg h4]
  cases d with
  | nil => simp [Lib.atoi]
  | cons b r =>
    have hno : Lib.digitVal b = none → Lib.decFrom 0 (b :: r) = none := fun h => by simp [Lib.decFrom, h]
    have hright : Lib.decFrom 0 (b :: r) = none → (if (b :: r).length < 1 ∨ 4 < (b :: r).length ∨ (1 < (b :: r).length ∧ (b :: r)[0]? = some 48) then none else Lib.decFrom 0 (b :: r)) = none := fun h => by rw [h]; split <;> rfl
    by_cases h45 : b = 45
    · subst h45
      rw [hright (hno (by decide))]
      have : ∀ z, Lib.atoi (45 :: r) = some z → ¬ (0 ≤ z ∧ Lib.itoa z = 45 :: r) := by
        rintro z hz ⟨h0, h1⟩
        obtain ⟨n, rfl⟩ := Int.eq_ofNat_of_zero_le h0
        rw [Lib.itoa_nonneg] at h1
        have := digits_bytes n 45 (by rw [h1]; simp)
        simp at this
      cases ha : Lib.atoi (45 :: r) with
      | none => rfl
      | some z => simp only; rw [if_neg (this z ha)]
    by_cases h43 : b = 43
    · subst h43
      rw [hright (hno (by decide))]
      have : ∀ z, Lib.atoi (43 :: r) = some z → ¬ (0 ≤ z ∧ Lib.itoa z = 43 :: r) := by
        rintro z hz ⟨h0, h1⟩
        obtain ⟨n, rfl⟩ := Int.eq_ofNat_of_zero_le h0
        rw [Lib.itoa_nonneg] at h1
        have := digits_bytes n 43 (by rw [h1]; simp)
        simp at this
      cases ha : Lib.atoi (43 :: r) with
      | none => rfl
      | some z => simp only; rw [if_neg (this z ha)]
    have ha : Lib.atoi (b :: r) = (Lib.decFrom 0 (b :: r)).map fun (m : Nat) => (m : Int) := by
      have e1 : (b == 45) = false := by simpa using h45
      have e2 : (b == 43) = false := by simpa using h43
      simp [Lib.atoi, e1, e2, Lib.decNat]
    rw [ha]
    cases hd : Lib.decFrom 0 (b :: r) with
    | none => simp
    | some m =>
      simp only [Option.map_some]
      rw [Lib.itoa_nonneg]
      by_cases hz : 1 < (b :: r).length ∧ (b :: r)[0]? = some 48
      · rw [if_pos (show (b :: r).length < 1 ∨ 4 < (b :: r).length ∨ (1 < (b :: r).length ∧ (b :: r)[0]? = some 48) from .inr (.inr hz))]
        have hno2 : ¬ (0 ≤ (m : Int) ∧ Lib.decDigits m = b :: r) := by
          rintro ⟨_, h1⟩
          have hb : b = 48 := by simpa using hz.2
          subst hb
          by_cases hm : 1 ≤ m
          · have := digits_head m hm
            rw [h1] at this
            simp at this
          · obtain rfl : m = 0 := by omega
            rw [Lib.decDigits, dif_pos (by omega)] at h1
            have h2 := congrArg List.length h1
            have h3 := hz.1
            rw [← h2] at h3
            simp at h3
        rw [if_neg hno2]
      · have hyes : 0 ≤ (m : Int) ∧ Lib.decDigits m = b :: r := by
          refine ⟨by omega, ?_⟩
          by_cases hb : b = 48
          · subst hb
            have hr : r = [] := by
              cases r with
              | nil => rfl
              | cons x y => exact absurd ⟨by simp, by simp⟩ hz
            subst hr
            have e : Lib.decFrom 0 [48] = some 0 := by decide
            rw [e] at hd
            cases hd
            rw [Lib.decDigits, dif_pos (by omega)]
            rfl
          · exact (digits_of _ (b :: r) m rfl (by simp) (by simpa using hb) hd).1
        rw [if_pos hyes, if_neg (show ¬ ((b :: r).length < 1 ∨ 4 < (b :: r).length ∨ (1 < (b :: r).length ∧ (b :: r)[0]? = some 48)) from fun h => by
          rcases h with h | h | h
          · simp at h
          · exact h4 h
          · exact hz h)]
        simp
end Go.Proofs.YtbgkfmodbofalaaGreatDoor.Tf
