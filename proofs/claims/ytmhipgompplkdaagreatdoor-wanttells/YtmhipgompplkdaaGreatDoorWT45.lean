import Derived.Test.YtmhipgompplkdaaGreatDoorWT44
import Derived.Test.YtmhipgompplkdaaGreatDoorWT34
import Derived.Test.YtmhipgompplkdaaGreatDoorWT22
import Derived.Test.YtmhipgompplkdaaGreatDoorWT24
import Derived.Test.YtmhipgompplkdaaGreatDoorWT19
import Derived.Deep.RegionHeld3
namespace Go.Proofs.YtmhipgompplkdaaGreatDoor
open Go.RowKit Go.Shelf Go.Lib
def WantTold (fs : Tf.Fs) (l : List Ru) (x : List UInt8) : Prop :=
  ∀ (W : World) (B mb : Nat) (v lv : Value), RTreeAt B W mb fs v → RRow W lv l → Calls Tryz.prog 77 #[Ptr mb, lv, .string (ba x)] W fun e w' => e = .returned (.tuple #[.string (ba (Bf.want Af.actO fs l x).1), .int .i64 ((Bf.want Af.actO fs l x).2 : Nat)]) ∧ Below W.heap.size W w'
theorem mkr_first {l : List Ru} {x : List UInt8} {j : Nat} (hj : j < l.length) (h : l[j].out = x) (hb : ∀ q (hq : q < l.length), q < j → l[q].out ≠ x) : Bf.mkr l x = some j := by
  unfold Bf.mkr
  rw [List.findIdx?_eq_some_iff_getElem]
  refine ⟨hj, by simpa using h, fun k hk => ?_⟩
  have := hb k (by omega) hk
  simpa using this
theorem mkr_nil {l : List Ru} {x : List UInt8} (hb : ∀ q (hq : q < l.length), l[q].out ≠ x) : Bf.mkr l x = none := by
  unfold Bf.mkr
  rw [List.findIdx?_eq_none_iff]
  intro r hr
  obtain ⟨q, hq, e⟩ := List.getElem_of_mem hr
  have := hb q hq
  rw [e] at this
  simpa using this
set_option maxRecDepth 100000 in
set_option maxHeartbeats 64000000 in
theorem WantOf_step (hAct : ActTells Af.actO) {fs : Tf.Fs} (hn : fs.length ≤ 1000) (hr : Tf.Rises fs) (hby : ∀ x b, Tf.get fs x = some b → b.length ≤ 2000) {l : List Ru} (hl : l.length ≤ 40) (hS : ∀ x ∈ l, x.Small) (x : List UInt8)
    (hrule : ∀ i (hi : i < l.length), Bf.mkr l x = some i → Bf.want Af.actO fs l x = Bf.wrule Af.actO (Bf.want Af.actO fs l) l[i])
    (HI : ∀ i (hi : i < l.length), Bf.mkr l x = some i → ∀ y ∈ l[i].ins, WantTold fs l y) : WantTold fs l x := by
  intro W B mb v lv hT hrow
  have HF := hid1 hT
  have HR := hid1 hr
  have HRow := hid1 hrow
  have HRule := hid1 hrule
  have HIn := hid1 HI
  have HAct := hid1 hAct
  have HS := hid1 hS
  have HL : Hid (∀ y, (Bf.want Af.actO fs l y).1.length ≤ 2000) := hid1 fun y => Bf.want_len hby y _
  have HWf : Hid (Bf.mkr l x = none → Bf.want Af.actO fs l x = ((Tf.get fs x).getD [], if (Tf.get fs x).isSome = true then 0 else 6)) := hid1 fun hm => by
    unfold Bf.want Bf.wantF
    rw [hm]
    cases Tf.get fs x <;> rfl
  obtain ⟨p, cap, rfl, hcap, hnn, hin⟩ := hrow
  have HC := hid1 hin
  have zl : (l.length : Int) ≤ 40 := by omega
  obtain ⟨j0s, hi0, hz0, hz1, hz2⟩ := info_parts Tryz.infoStr
  clear hT hr hrule HI hAct hS hby hin hcap hnn
  generalize hf : Bf.want Af.actO fs l = f at *
  obtain ⟨an, hy⟩ : ∃ an, f x = an := ⟨_, rfl⟩
  rw [hy] at HRule HWf ⊢
  clear hy
  go_enter Tryz.func77, Tryz.ntmps77
  go_wp2
  go_loopw [8] (fun iv wr => ∃ j : Nat, j ≤ l.length ∧ iv = .int .i64 j ∧ (∀ q (hq : q < l.length), q < j → l[q].out ≠ x) ∧ W = wr) (fun iv _ => l.length - (intOf iv).toNat)
  case atStart => exact ⟨0, Nat.zero_le _, rfl, fun q hq h => by omega, rfl⟩
  case round =>
    obtain ⟨j, hj, rfl, hno, rfl⟩ := hrel
    have HNo := hid1 hno
    clear hno
    have j0 : (0 : Int) ≤ (j : Int) := by omega
    by_cases hlt : j < l.length
    · have j1 : (j : Int) < (l.length : Int) := by omega
      obtain ⟨g, o, rfl, hg, hat⟩ := HC.out (by intro e; rw [e] at hlt; simp at hlt)
      obtain ⟨r0, r1, r2, u, r3, hu⟩ := hat j hlt
      by_cases he : l[j].out = x
      · have hm := mkr_first hlt he HNo.out
        have HTl := hid1 (HIn.out j hlt hm)
        have HRl := hid1 (HRule.out j hlt hm)
        have hsm := HS.out _ (List.getElem_mem hlt)
        have hmany := hsm.many
        have hwl := hsm.word
        have qx : (l[j].out == x) = true := by simpa using he
        have HU := hid1 hu
        obtain ⟨pi, ci, rfl, -, -, hxi⟩ := hu
        have HX := hid1 hxi
        unfold Bf.wrule at HRl
        have HR0 := hid1 r0
        have HR1 := hid1 r1
        have HR2 := hid1 r2
        have HR3 := hid1 r3
        have hgW := hg
        clear hat hm HRule HIn HWf HNo hsm hxi HC HS he
        generalize l[j] = r at *
        go_wp2
        clear r0 r1 r2 r3 qx
        go_loopw [9, 10] (fun lv kv wr => ∃ (k : Nat) (xs : List (List UInt8)), k ≤ r.ins.length ∧ kv = .int .i64 k ∧ Bf.winB f (r.ins.take k) = (xs, 0) ∧ wr.ownsRow W.heap.size 9 1 lv xs.length (xs.map sv) ∧ Below W.heap.size W wr) (fun _ kv _ => r.ins.length - (intOf kv).toNat)
        case atStart => exact ⟨0, [], Nat.zero_le _, rfl, rfl, World.ownsRow_nil _ _ _ _, Below.refl _ _⟩
        case round =>
          obtain ⟨k, xs, hk, rfl, hwn, hown, hB⟩ := hrel
          have hxl := Bf.winB_len f hwn
          have hxl2 : xs.length ≤ 12 := by rw [hxl]; simp; omega
          have HG := hid1 hwn
          have HO := hid1 hown
          have k0 : (0 : Int) ≤ (k : Int) := by omega
          have e3 := cell_below' HR3.out hB
          clear hwn hown hxl
          by_cases hkl : k < r.ins.length
          · have k1 : (k : Int) < (r.ins.length : Int) := by omega
            obtain ⟨gi, oi, rfl, hgi, hci⟩ := HX.out (by intro e; rw [e] at hkl; simp at hkl)
            have ex := (hB.cell (p := ⟨gi, oi + k, none⟩) hgi).trans (hci k hkl)
            have htk : r.ins.take (k + 1) = r.ins.take k ++ [r.ins[k]] := List.take_succ_eq_append_getElem hkl
            have HSn : Hid ((f r.ins[k]).2 = 0 → Bf.winB f (r.ins.take (k + 1)) = (xs ++ [(f r.ins[k]).1], 0)) := hid1 fun h0 => by
              rw [htk]; exact Bf.winB_snoc f _ _ HG.out h0
            have HSt : Hid ((f r.ins[k]).2 ≠ 0 → (Bf.winB f r.ins).2 = (f r.ins[k]).2) := hid1 fun h0 => by
              have := Bf.winB_stop f (r.ins.take k) r.ins[k] (r.ins.drop (k + 1)) HG.out h0
              rwa [← List.drop_eq_getElem_cons hkl, List.take_append_drop] at this
            have HT := hid1 (HTl.out r.ins[k] (List.getElem_mem hkl) wr B mb v _ (HF.out.below hB) (HRow.out.below hB))
            rw [hf] at HT
            clear hci htk HX HG HTl HAct HL
            generalize r.ins[k] = y at *
            obtain ⟨b, c, hbc⟩ : ∃ b c, f y = (b, c) := ⟨_, _, rfl⟩
            rw [hbc] at HT HSn HSt
            clear hbc
            simp only at HT HSn HSt
            cases c with
            | zero =>
              have HSm := hid1 (HSn.out rfl)
              have hbz := hB.size
              have hml : xs.length + 1 ≤ maxLen := by unfold maxLen; omega
              clear HSn HSt
              go_wp2_with fail
              refine HT.out.mono ?_
              rintro e w3 ⟨rfl, g3⟩
              have hrow3 : w3.ownsRow W.heap.size 9 1 u9 xs.length (xs.map sv) := own_same HO.out fun q hq => g3.block q (own_lt HO.out _ hq.symm).2
              have hB3 := hB.trans (g3.mono hbz)
              have hz3 := hB3.size
              have f3 := cell_below' e3 g3
              have fx := cell_below' ex g3
              clear HT HO g3 hB ex e3
              go_wp2_with (first
                | (at_builtin; refine wpList_append_own _ rfl _ _ 45 rfl W.heap.size 9 j0s (.string ⟨#[]⟩) 1 16 Tryz.underlying45 hi0 hz0 hz1 hz2 rfl (by decide) _ _ _ rfl (hrow3.alloc _) ⟨w3.heap.size, 0, none⟩ 1 1 [sv b] rfl rfl (one_new _ _ _ _ (by simp)) (by simp [Value.oneCell']) hml (by omega) (by simp; omega) ?_; intro v' w4 hown' hgrow _)
                | go_in)
              exact ⟨⟨k + 1, xs ++ [b], by omega, by go_num, HSm.out, by rw [List.length_append, List.map_append]; exact hown', below_appended hB3 hz3 hrow3 hgrow⟩, by simp [intOf]; omega⟩
            | succ m =>
              have HSm := hid1 (HSt.out (by omega))
              have HP : Hid (Ending.returned (.tuple #[.string (ba []), .int .i64 ((m + 1 : Nat) : Int)]) = Ending.returned (.tuple #[.string (ba an.1), .int .i64 (an.2 : Nat)])) := hid1 (by
                have h1 := HRl.out
                rw [if_neg (by rw [HSm.out]; omega), HSm.out] at h1
                rw [h1])
              have hbz := hB.size
              clear HSn HSt
              go_wp2_with fail
              refine HT.out.mono ?_
              rintro e w3 ⟨rfl, g3⟩
              have hB3 := hB.trans (g3.mono hbz)
              have m0 : (0 : Int) < (m : Int) + 1 := by omega
              clear HT g3 hB HO
              go_wp2
              go_ret2
              exact ⟨HP.out, hB3⟩
          · have k1 : (r.ins.length : Int) ≤ (k : Int) := by omega
            have HG2 : Hid (Bf.winB f r.ins = (xs, 0)) := hid1 (by
              have := HG.out
              rwa [List.take_of_length_le (by omega)] at this)
            have hxs : ∀ y ∈ xs, y.length ≤ 3000 := fun y hy => by
              have := Bf.winB_all f (fun z => z.length ≤ 2000) HL.out HG2.out y hy
              omega
            have hya : an = Af.actO r.kind r.word xs := by
              have h1 := HRl.out
              rwa [HG2.out, if_pos rfl] at h1
            have e1 := cell_below' HR1.out hB
            have e2 := cell_below' HR2.out hB
            have hTr := (TRow.of_owns HO.out).irow
            have HA := hid1 fun (V : World) (gV : Below wr.heap.size wr V) => HAct.out V r.kind r.word u9 xs (hTr.below gV) (by omega) hxs
            obtain ⟨pv, cv, rfl⟩ := own_val HO.out
            clear HG HL hxs HO HTl HX hTr HAct
            rw [← hya] at HA
            clear hya HRl
            have hBz := hB.size
            go_wp2
            go_region_held3 (fun w' => w'.cell? ⟨g, o + j * 4 + 1, none⟩ = some (.string (ba r.kind)) ∧ w'.cell? ⟨g, o + j * 4 + 2, none⟩ = some (.string (ba r.word))) (first | go_keep | fail)
              (first | (go_at_call 35; refine (HA.out _ (below_draws (Below.refl _ wr) 1)).mono ?_; rintro e w3 ⟨rfl, g3⟩; (have y1 := cell_below' e1 ((below_draws (Below.refl _ wr) 1).trans g3)); (have y2 := cell_below' e2 ((below_draws (Below.refl _ wr) 1).trans g3))) | fail)
            all_goals
              go_wp2
              go_ret2
              exact ⟨rfl, hB.trans ((below_draws (Below.refl _ wr) 1).trans g3 |>.mono hBz)⟩
      · have qx : (l[j].out == x) = false := by simpa using he
        have HNN : Hid (∀ q (hq : q < l.length), q < j + 1 → l[q].out ≠ x) := hid1 fun q hq h => by
          rcases Nat.lt_succ_iff_lt_or_eq.1 h with h | h
          · exact HNo.out q hq h
          · subst h; exact he
        clear hat HNo he HC HRule HIn
        generalize l[j].out = y at *
        go_wp2
        exact ⟨⟨j + 1, by omega, by go_num, HNN.out, trivial⟩, by simp [intOf]; omega⟩
    · have j1 : (l.length : Int) ≤ (j : Int) := by omega
      have hm := mkr_nil (l := l) (x := x) fun q hq => HNo.out q hq (by omega)
      have HY := hid1 (HWf.out hm)
      have c0 := HF.out.cell
      clear HNo hm HC HRule HIn HWf
      cases hg : Tf.get fs x with
      | none =>
        have HFd := hid1 (rFind_none HF.out hn HR.out hg)
        rw [hg] at HY
        clear hg
        go_wp2_with fail
        refine HFd.out.mono ?_
        rintro e w3 ⟨rfl, rfl⟩
        clear HFd
        go_wp2
        go_ret2
        exact ⟨by rw [HY.out]; rfl, Below.refl _ _⟩
      | some b =>
        obtain ⟨m, hm, e1, e2⟩ := get_at_some hg
        have HFd := hid1 (rFind_some HF.out hn HR.out hm)
        rw [e1] at HFd
        rw [hg] at HY
        have hrow := HF.out.row
        have hcell : ∃ g cap, v = .slice (some ⟨g, 0, none⟩) fs.length cap ∧ W.cell? ⟨g, m * 2 + 1, none⟩ = some (.string (ba b)) := by
          obtain ⟨p, cap, ev, _, hc⟩ := FRow.of_owns hrow
          obtain ⟨g, cur, rfl, hg, hcc⟩ := hc (by intro e; rw [e] at hm; simp at hm)
          refine ⟨g, cap, ev, ?_⟩
          rw [← e2]
          exact cell_of_row hg (hcc m hm).2
        obtain ⟨g, cap', rfl, hcb⟩ := hcell
        have m0 : (0 : Int) ≤ (m : Int) := by omega
        have m1 : (m : Int) < (fs.length : Int) := by omega
        have zm : (fs.length : Int) ≤ 1000 := by omega
        clear hg e1 e2 hrow
        go_wp2_with fail
        refine HFd.out.mono ?_
        rintro e w3 ⟨rfl, rfl⟩
        clear HFd
        go_wp2
        go_ret2
        exact ⟨by rw [HY.out]; rfl, Below.refl _ _⟩
end Go.Proofs.YtmhipgompplkdaaGreatDoor
