import Derived.Test.YtmhipgompplkdaaGreatDoorWT07
import Derived.Test.YtmhipgompplkdaaGreatDoorWT21
import Derived.Test.YtmhipgompplkdaaGreatDoorWT47
import Derived.Test.YtmhipgompplkdaaGreatDoorWT42
import Derived.Test.YtmhipgompplkdaaGreatDoorWT46
import Derived.Test.YtmhipgompplkdaaGreatDoorWT37
import Derived.Deep.RegionHeld3
import Derived.Test.YtmhipgompplkdaaGreatDoorWT44
import Derived.Laws.AppendOwnNone
import Derived.Deep.AppendLies
import Derived.Test.YtmhipgompplkdaaGreatDoorWT10
import Derived.Test.YtmhipgompplkdaaGreatDoorWT30
namespace Go.Proofs.YtmhipgompplkdaaGreatDoor
open Go.RowKit Go.Shelf Go.Lib
open Af (Kd)
theorem swap_parts {wd : List UInt8} (h : Af.isSwap wd = true) : cutB 61 wd = [(Lib.cut wd [61]).1, (Lib.cut wd [61]).2.1] ∧ (Lib.cut wd [61]).1 ≠ [] := by
  have ha : (Lib.cut wd [61]).1 ≠ [] := by
    intro e
    unfold Af.isSwap at h
    rw [e] at h
    simp at h
  refine ⟨?_, ha⟩
  rw [isSwap_cut] at h
  simp only [Bool.and_eq_true, decide_eq_true_eq] at h
  have h2 := h.1
  unfold Lib.cut
  rw [Lib.index_one]
  by_cases hm : Lib.indexByte wd 61 = -1
  · rw [cutB_none 61 wd hm] at h2
    simp at h2
  · have hge := Lib.indexByte_ge wd 61
    obtain ⟨i, hi⟩ : ∃ i : Nat, Lib.indexByte wd 61 = (i : Int) := ⟨(Lib.indexByte wd 61).toNat, by omega⟩
    obtain ⟨e1, e2⟩ := cutB_some 61 wd i hi
    rw [e1, List.length_cons] at h2
    rw [hi, e1]
    simp only [Int.natCast_nonneg, if_true, Int.toNat_natCast, List.length_cons, List.length_nil, Nat.zero_add]
    by_cases hm2 : Lib.indexByte (wd.drop (i + 1)) 61 = -1
    · rw [cutB_none 61 _ hm2]
    · have hge2 := Lib.indexByte_ge (wd.drop (i + 1)) 61
      obtain ⟨j, hj⟩ : ∃ j : Nat, Lib.indexByte (wd.drop (i + 1)) 61 = (j : Int) := ⟨(Lib.indexByte (wd.drop (i + 1)) 61).toNat, by omega⟩
      obtain ⟨f1, _⟩ := cutB_some 61 _ j hj
      have hne := cutB_ne 61 ((wd.drop (i + 1)).drop (j + 1))
      have h0 : 0 < (cutB 61 ((wd.drop (i + 1)).drop (j + 1))).length := List.length_pos_iff.2 hne
      rw [f1, List.length_cons] at h2
      omega
theorem joinTail_len (wd : List UInt8) : ∀ (l : List (List UInt8)), (∀ y ∈ l, y.length ≤ 3000) → (Lib.joinTail wd l).length ≤ l.length * (wd.length + 3000)
  | [], _ => by simp [Lib.joinTail]
  | x :: r, h => by
    have ih := joinTail_len wd r fun y hy => h y (by simp [hy])
    have hx := h x (by simp)
    simp only [Lib.joinTail, List.map_cons, List.flatten_cons, List.length_append, List.length_cons, Nat.add_mul, Nat.one_mul] at ih ⊢
    omega
theorem made_any {w : World} (k : Kd) (hk : k ≠ .write) (wd : List UInt8) (hl : wd.length ≤ 100) (v : Value) (ls : List (List UInt8)) (hrow : IRow w v ls) (hx : ∀ x ∈ ls, x.length ≤ 3000) (h1 : k.least ≤ ls.length) (h2 : ls.length ≤ k.most) (htk : k.takes wd = true) :
    Calls Tryz.prog 100 #[.string (ba k.name), .string (ba wd), v] w fun e w' => e = .returned (.string (ba (k.out wd ls))) ∧ Below w.heap.size w w' := by
  obtain ⟨p, cap, rfl, hin⟩ := hrow
  have hm8 : k.most ≤ 8 := by cases k <;> decide
  have hl1 : 1 ≤ k.least := by cases k <;> first | exact absurd rfl hk | decide
  obtain ⟨g, o, rfl, hg, hcur⟩ := hin (by intro e; rw [e] at h1; simp at h1; omega)
  have hone : k.most = 1 → ∃ x, ls = [x] := fun e => one_of (by omega)
  have hx4 : ∀ x ∈ ls, x.length ≤ 4000 := fun x h => Nat.le_trans (hx x h) (by omega)
  cases k
  · exact absurd rfl hk
  · match ls, hcur, hx, h2 with
    | [], _, _, _ => simp at h1; omega
    | x :: l, hcur, hx, h2 =>
      simp only [List.length_cons] at h2
      refine made_join wd g o cap x l (by omega) (by omega) (fun y hy => Nat.le_trans (hx y (by simp [hy])) (by omega)) (fun k => ?_) w hcur
      have hx0 := hx x (by simp)
      have := joinTail_len wd (l.take k) fun y hy => hx y (by simp [List.mem_of_mem_take hy])
      have h3 : (l.take k).length * (wd.length + 3000) ≤ 8 * 3100 := Nat.mul_le_mul (by simp; omega) (by omega)
      simp only [List.length_append]
      omega
  · obtain ⟨x, rfl⟩ := hone rfl
    have hxx := hx x (by simp)
    exact made_upper wd x g o cap (by omega) w (hcur 0 (by simp)) hg
  · obtain ⟨x, rfl⟩ := hone rfl
    have hxx := hx x (by simp)
    exact made_lines wd x g o cap (by omega) (by omega) w (hcur 0 (by simp))
  · exact made_sort wd htk g o cap ls (by omega) hx4 w hg hcur
  · exact made_count wd g o cap ls (by omega) hx4 w hg hcur
  · obtain ⟨x, rfl⟩ := hone rfl
    have hxx := hx x (by simp)
    obtain ⟨e1, e2⟩ := swap_parts htk
    have := cut_lens wd [61]
    exact made_swap_ab wd x _ _ g o cap (by omega) (by omega) e1 e2 (by omega) (by omega) w (hcur 0 (by simp)) hg
  · obtain ⟨x, rfl⟩ := hone rfl
    have hxx := hx x (by simp)
    obtain ⟨n, hn⟩ : ∃ n, numM 3 wd = some n := Option.isSome_iff_exists.1 htk
    have hJ : numJ wd = (n : Int) := by
      unfold numJ
      rw [← numM_numR3, hn]
    have e : Kd.head.out wd [x] = Af.told ((Af.lines x).take n) := by simp [Af.Kd.out, hn]
    rw [e]
    exact made_head wd x n hJ g o cap (by omega) (by omega) w (hcur 0 (by simp))
set_option maxRecDepth 100000 in
set_option maxHeartbeats 4000000 in
theorem actOf_bad (nm wd : List UInt8) (p : Option Addr) (n cap c : Nat) (w : World) (HA : Hid (Calls Tryz.prog 37 #[.string (ba nm), .string (ba wd), .int .i64 n] w fun e w' => e = .returned (.int .i64 ((c + 1 : Nat) : Int)) ∧ Below w.heap.size w w')) :
    Calls Tryz.prog 35 #[.string (ba nm), .string (ba wd), .slice p n cap] w fun e w' => e = .returned (.tuple #[.string (ba []), .int .i64 ((c + 1 : Nat) : Int)]) ∧ Below w.heap.size w w' := by
  have z : (0 : Int) < ((c + 1 : Nat) : Int) := by omega
  generalize ((c + 1 : Nat) : Int) = c1 at *
  go_enter Tryz.func35, Tryz.ntmps35
  go_wp2_with fail
  refine Calls.mono HA.out ?_
  rintro e w1 ⟨rfl, g1⟩
  go_wp2
  go_ret2
  exact ⟨rfl, g1⟩
set_option maxRecDepth 100000 in
set_option maxHeartbeats 4000000 in
theorem actOf_write (wd : List UInt8) (p : Option Addr) (n cap : Nat) (w : World) (hl : wd.length ≤ 100) (HA : Hid (Calls Tryz.prog 37 #[.string ⟨#[119, 114, 105, 116, 101]⟩, .string (ba wd), .int .i64 n] w fun e w' => e = .returned (.int .i64 0) ∧ Below w.heap.size w w')) :
    Calls Tryz.prog 35 #[.string ⟨#[119, 114, 105, 116, 101]⟩, .string (ba wd), .slice p n cap] w fun e w' => e = .returned (.tuple #[.string (ba wd), .int .i64 0]) ∧ Below w.heap.size w w' := by
  have z : (wd.length : Int) ≤ 100 := by omega
  go_enter Tryz.func35, Tryz.ntmps35
  go_wp2_with fail
  refine Calls.mono HA.out ?_
  rintro e w1 ⟨rfl, g1⟩
  go_wp2
  go_ret2
  exact ⟨rfl, g1⟩
set_option maxRecDepth 100000 in
set_option maxHeartbeats 4000000 in
theorem actOf_made (nm wd out : List UInt8) (p : Option Addr) (n cap : Nat) (w : World) (hnm : (nm == [119, 114, 105, 116, 101]) = false) (HA : Hid (Calls Tryz.prog 37 #[.string (ba nm), .string (ba wd), .int .i64 n] w fun e w' => e = .returned (.int .i64 0) ∧ Below w.heap.size w w'))
    (HM : Hid (∀ W, Below w.heap.size w W → Calls Tryz.prog 100 #[.string (ba nm), .string (ba wd), .slice p n cap] W fun e w' => e = .returned (.string (ba out)) ∧ Below W.heap.size W w')) :
    Calls Tryz.prog 35 #[.string (ba nm), .string (ba wd), .slice p n cap] w fun e w' => e = .returned (.tuple #[.string (ba (if 2000 < out.length then [] else out)), .int .i64 (if 2000 < out.length then 10 else 0)]) ∧ Below w.heap.size w w' := by
  by_cases h : 2000 < out.length
  · rw [if_pos h, if_pos h]
    have z : (2000 : Int) < (out.length : Int) := by omega
    clear h
    go_enter Tryz.func35, Tryz.ntmps35
    go_wp2_with fail
    refine Calls.mono HA.out ?_
    rintro e w1 ⟨rfl, g1⟩
    go_wp2_with fail
    refine Calls.mono (HM.out w1 g1) ?_
    rintro e w2 ⟨rfl, g2⟩
    go_wp2
    go_ret2
    exact ⟨rfl, g1.trans (g2.mono g1.size)⟩
  · rw [if_neg h, if_neg h]
    have z : (out.length : Int) ≤ 2000 := by omega
    clear h
    go_enter Tryz.func35, Tryz.ntmps35
    go_wp2_with fail
    refine Calls.mono HA.out ?_
    rintro e w1 ⟨rfl, g1⟩
    go_wp2_with fail
    refine Calls.mono (HM.out w1 g1) ?_
    rintro e w2 ⟨rfl, g2⟩
    go_wp2
    go_ret2
    exact ⟨rfl, g1.trans (g2.mono g1.size)⟩
theorem ActOf_calls {w : World} (nm wd : List UInt8) (hl : wd.length ≤ 1000000) (v : Value) (ls : List (List UInt8)) (hrow : IRow w v ls) (hx : ∀ x ∈ ls, x.length ≤ 3000) :
    Calls Tryz.prog 35 #[.string (ba nm), .string (ba wd), v] w fun e w' => e = .returned (.tuple #[.string (ba (Af.actO nm wd ls).1), .int .i64 ((Af.actO nm wd ls).2 : Nat)]) ∧ Below w.heap.size w w' := by
  have hrow' := hrow
  obtain ⟨p, cap, rfl, _⟩ := hrow
  have HA := hid1 (ActError_calls nm wd ls.length hl w)
  by_cases e0 : Af.actE nm wd ls.length = 0
  · cases hk : Af.kindOf nm with
    | none => simp [Af.actE, hk] at e0
    | some k =>
      obtain rfl := Af.kindOf_some hk
      have eO : Af.actO k.name wd ls = if 2000 < (k.out wd ls).length then ([], 10) else (k.out wd ls, 0) := by
        unfold Af.actO
        rw [if_pos e0, hk]
      rw [e0] at HA
      rw [actE_kind] at e0
      have hc : ¬ ((ls.length : Int) < k.least ∨ (k.most : Int) < ls.length ∨ k.takes wd = false) := fun h => by
        rw [if_pos h] at e0
        cases e0
      rw [if_neg hc] at e0
      have hw : ¬ 100 < wd.length := fun h => by
        rw [if_pos h] at e0
        cases e0
      have ht : k.takes wd = true := by
        cases hb : k.takes wd with
        | true => rfl
        | false => exact absurd (.inr (.inr hb)) hc
      by_cases hwr : k = .write
      · subst hwr
        have : Af.actO Kd.write.name wd ls = (wd, 0) := by
          rw [eO]
          have : ¬ 2000 < (Kd.write.out wd ls).length := by simp [Af.Kd.out]; omega
          rw [if_neg this]
          rfl
        rw [this]
        exact actOf_write wd p ls.length cap w (by omega) HA
      · have := actOf_made k.name wd (k.out wd ls) p ls.length cap w (by cases k <;> first | exact absurd rfl hwr | rfl) HA (hid1 fun W hW => made_any k hwr wd (by omega) _ ls (hrow'.below hW) hx (by omega) (by omega) ht)
        refine this.mono ?_
        rintro e w' ⟨rfl, g⟩
        refine ⟨?_, g⟩
        rw [eO]
        split <;> rfl
  · have eO : Af.actO nm wd ls = ([], Af.actE nm wd ls.length) := by
      unfold Af.actO
      rw [if_neg e0]
    rw [eO]
    obtain ⟨c, hc⟩ : ∃ c, Af.actE nm wd ls.length = c + 1 := ⟨Af.actE nm wd ls.length - 1, by omega⟩
    simp only [hc] at HA ⊢
    exact actOf_bad nm wd p ls.length cap c w HA
end Go.Proofs.YtmhipgompplkdaaGreatDoor
namespace Go.Proofs.YtmhipgompplkdaaGreatDoor
open Go.RowKit Go.Shelf Go.Lib Go.Maps
open Tf (Fs)
theorem sadd (a b : List UInt8) (h : a.length + b.length ≤ 100000000) (W : World) : (Op.stringOp .add (ba a) (ba b)).run Tryz.prog W = .ok (.string (ba (a ++ b))) W := by
  rw [run_string_add_sum (P := Tryz.prog) W (ba a) (ba b) (by rw [ba_size, ba_size]; omega), ba_append]
set_option maxRecDepth 100000 in
set_option maxHeartbeats 8000000 in
theorem rText_calls {B : Nat} {w : World} {tb : Nat} {fs : Fs} {v : Value} (h : RTreeAt B w tb fs v) (hw : Tf.Well pathB fs) :
    Calls Tryz.prog 18 #[Ptr tb] w fun e w' => e = .returned (.string (ba (Tf.textT fs))) ∧ Below w.heap.size w w' := by
  have hlen : ∀ f ∈ fs, f.1.length ≤ 64 := well_len hw
  have hn : fs.length ≤ 60 := hw.few
  have hby : ∀ f ∈ fs, f.2.length ≤ 2000 := fun f hf => (hw.each f hf).2
  have hlenA := fun k : Nat => textT_len (fs := fs.take k) (fun f hf => ⟨by have := hlen f (List.mem_of_mem_take hf); omega, hby f (List.mem_of_mem_take hf)⟩)
  have hc := h.cell
  have htb := h.lt
  obtain ⟨pa, cap, rfl, hcap, hin⟩ := FRow.of_owns h.row
  have zn : (fs.length : Int) ≤ 60 := by omega
  clear h hw
  go_enter Tryz.func18, Tryz.ntmps18
  go_wp2
  go_loopw [3, 4] (fun s i wr => ∃ k : Nat, k ≤ fs.length ∧ s = .string (ba (Tf.textT (fs.take k))) ∧ i = .int .i64 k ∧ Below w.heap.size w wr) (fun _ i _ => fs.length - (intOf i).toNat)
  case atStart => exact ⟨0, Nat.zero_le _, rfl, rfl, Below.refl _ _⟩
  case round =>
    obtain ⟨k, hk, rfl, rfl, hB⟩ := hrel
    by_cases hlt : k < fs.length
    · obtain ⟨g, cur, rfl, hg, hcur⟩ := hin (by intro e; rw [e] at hlt; simp at hlt)
      have hgl : g < w.heap.size := (Array.getElem?_eq_some_iff.1 hg).1
      have d0 := (hB.cell (p := ⟨tb, 0, none⟩) htb).trans hc
      have d1 := (hB.cell (p := ⟨g, k * 2, none⟩) hgl).trans (cell_of_row hg (hcur k hlt).1)
      have d2 := (hB.cell (p := ⟨g, k * 2 + 1, none⟩) hgl).trans (cell_of_row hg (hcur k hlt).2)
      have hx64 := hlen _ (List.getElem_mem hlt)
      have hy2 := hby _ (List.getElem_mem hlt)
      have hl0 := hlenA k
      have hstep : Hid (Tf.textT (fs.take (k + 1)) = Tf.textT (fs.take k) ++ (fs[k].1 ++ 32 :: (Lib.decDigits fs[k].2.length ++ 10 :: (fs[k].2 ++ [10])))) := textT_take hlt
      rw [List.length_take] at hl0
      have hdl := digits_len fs[k].2.length (by omega)
      clear hin hcur hg hlenA
      generalize fs[k].1 = x at *
      generalize fs[k].2 = y at *
      generalize Tf.textT (fs.take k) = t at *
      have zt : (t.length : Int) ≤ 240000 := by
        have : min k fs.length * 4000 ≤ 60 * 4000 := Nat.mul_le_mul_right _ (by omega)
        omega
      have zx : (x.length : Int) ≤ 64 := by omega
      have zy : (y.length : Int) ≤ 2000 := by omega
      have zd : ((Lib.decDigits y.length).length : Int) ≤ 21 := by omega
      have HD : Hid (∀ W, Below wr.heap.size wr W → Calls Tryz.prog 88 #[.int .i64 (y.length : Int)] W fun e w' => e = .returned (.string (ba (Lib.decDigits y.length))) ∧ Below wr.heap.size wr w') := fun W hW =>
        (Decimal_calls y.length (by omega) W).mono fun e w' ⟨h1, h2⟩ => ⟨h1, hW.trans (h2.mono hW.size)⟩
      have hgr : g < wr.heap.size := Nat.lt_of_lt_of_le hgl hB.size
      have htr : tb < wr.heap.size := Nat.lt_of_lt_of_le htb hB.size
      have c1 : (k : Int) < (fs.length : Int) := by omega
      have c0 : (0 : Int) ≤ (k : Int) := by omega
      have q8 : IntKind.i64.wrap (k : Int) = (k : Int) := by rw [IntKind.wrap_i64]; omega
      generalize Lib.decDigits y.length = dd at *
      have s1 : ∀ W, (Op.stringOp .add (ba t) (ba x)).run Tryz.prog W = .ok (.string (ba (t ++ x))) W := sadd t x (by omega)
      have s2 : ∀ W, (Op.stringOp .add (ba (t ++ x)) ⟨#[32]⟩).run Tryz.prog W = .ok (.string (ba (t ++ x ++ [32]))) W := sadd (t ++ x) [32] (by simp only [List.length_append, List.length_cons, List.length_nil]; omega)
      have s3 : ∀ W, (Op.stringOp .add (ba (t ++ x ++ [32])) (ba dd)).run Tryz.prog W = .ok (.string (ba (t ++ x ++ [32] ++ dd))) W := sadd _ _ (by simp only [List.length_append, List.length_cons, List.length_nil]; omega)
      have s4 : ∀ W, (Op.stringOp .add (ba (t ++ x ++ [32] ++ dd)) ⟨#[10]⟩).run Tryz.prog W = .ok (.string (ba (t ++ x ++ [32] ++ dd ++ [10]))) W := sadd _ [10] (by simp only [List.length_append, List.length_cons, List.length_nil]; omega)
      have s5 : ∀ W, (Op.stringOp .add (ba (t ++ x ++ [32] ++ dd ++ [10])) (ba y)).run Tryz.prog W = .ok (.string (ba (t ++ x ++ [32] ++ dd ++ [10] ++ y))) W := sadd _ _ (by simp only [List.length_append, List.length_cons, List.length_nil]; omega)
      have s6 : ∀ W, (Op.stringOp .add (ba (t ++ x ++ [32] ++ dd ++ [10] ++ y)) ⟨#[10]⟩).run Tryz.prog W = .ok (.string (ba (t ++ x ++ [32] ++ dd ++ [10] ++ y ++ [10]))) W := sadd _ [10] (by simp only [List.length_append, List.length_cons, List.length_nil]; omega)
      generalize ht1 : t ++ x = t1 at *
      generalize ht2 : t1 ++ [32] = t2 at *
      generalize ht3 : t2 ++ dd = t3 at *
      generalize ht4 : t3 ++ [10] = t4 at *
      generalize ht5 : t4 ++ y = t5 at *
      generalize ht6 : t5 ++ [10] = t6 at *
      have hst0 : Tf.textT (fs.take (k + 1)) = t6 := by
        rw [hstep.out, ← ht6, ← ht5, ← ht4, ← ht3, ← ht2, ← ht1]
        simp
      have hst : Hid (Tf.textT (fs.take (k + 1)) = t6) := hst0
      clear hst0 ht1 ht2 ht3 ht4 ht5 ht6 hstep
      go_wp2
      go_region_held3 (fun w' => w'.cell? ⟨tb, 0, none⟩ = some (.slice (some ⟨g, 0, none⟩) fs.length cap) ∧ w'.cell? ⟨g, k * 2, none⟩ = some (.string (ba x)) ∧ w'.cell? ⟨g, k * 2 + 1, none⟩ = some (.string (ba y))) (first | go_keep | fail)
        (first | (go_at_call 88; refine (HD.out _ (by exact (Below.refl _ wr).drew)).mono ?_; rintro e w3 ⟨rfl, g3⟩; have e0 := (g3.cell (p := ⟨tb, 0, none⟩) htr).trans d0; have e1 := (g3.cell (p := ⟨g, k * 2, none⟩) hgr).trans d1; have e2 := (g3.cell (p := ⟨g, k * 2 + 1, none⟩) hgr).trans d2) | fail)
      all_goals
        go_wp2
        exact ⟨⟨k + 1, by omega, by rw [hst.out], by go_num, hB.trans (g3.mono hB.size)⟩, by simp [intOf]; omega⟩
    · have c1 : (fs.length : Int) ≤ (k : Int) := by omega
      obtain rfl : k = fs.length := by omega
      have d0 := (hB.cell (p := ⟨tb, 0, none⟩) htb).trans hc
      clear hin hlenA
      go_wp2
      go_ret
      exact ⟨by simp, hB⟩
end Go.Proofs.YtmhipgompplkdaaGreatDoor
namespace Go.Proofs.YtmhipgompplkdaaGreatDoor
open Go.RowKit Go.Shelf Go.Lib
theorem Tryz.infoRFileC : (Tryz.prog.info? 51).map (fun i => (i.zero, i.size, i.bytes)) = some (some (.agg #[.string ⟨#[]⟩, .string ⟨#[]⟩]), 2, 32) := by kernel_rfl
theorem ents_one {fs : Tf.Fs} : ∀ u ∈ entCells fs, u.oneCell' = true := fun u hu => by
  unfold entCells at hu
  obtain ⟨f, _, h⟩ := List.mem_flatMap.1 hu
  simp at h
  rcases h with rfl | rfl <;> rfl
set_option maxRecDepth 100000 in
set_option maxHeartbeats 8000000 in
theorem CopyTree_calls {B : Nat} {w : World} {tb : Nat} {fs : Tf.Fs} {tv : Value} (h : RTreeAt B w tb fs tv) (hn : fs.length ≤ 1000) :
    Calls Tryz.prog 80 #[Ptr tb] w fun e w' => ∃ tv', e = .returned (Ptr w.heap.size) ∧ RTreeAt w.heap.size w' w.heap.size fs tv' ∧ Below w.heap.size w w' := by
  have g0 : Below w.heap.size w (w.alloc (.cells #[.slice none 0 0] 38)) := (Below.refl _ w).alloc (Nat.le_refl _) _
  have h0 := h.below g0
  have c0 := h0.cell
  have b0 : (w.alloc (.cells #[.slice none 0 0] 38)).cell? ⟨w.heap.size, 0, none⟩ = some (.slice none 0 0) := by simp
  have b1 : (w.alloc (.cells #[.slice none 0 0] 38)).frozen? ⟨w.heap.size, 0, none⟩ = false := by simp
  have hz : (w.alloc (.cells #[.slice none 0 0] 38)).heap.size = w.heap.size + 1 := by simp
  obtain ⟨i0, hi, hz0, hz1, hz2⟩ := info_parts Tryz.infoRFileC
  have HH := hid1 h0
  have HG := hid1 g0
  have hN : (w.alloc (.cells #[.slice none 0 0] 38)).ownsRow (w.heap.size + 1) 51 2 (.slice none 0 0) 0 [] := World.ownsRow_nil _ _ _ _
  by_cases hfs : fs = []
  · subst hfs
    obtain rfl := h.nil rfl
    clear h h0 g0
    generalize hW0 : w.alloc (.cells #[.slice none 0 0] 38) = W0 at *
    have hrun := run_append_owned_none (P := Tryz.prog) (w := W0.drew) (w.heap.size + 1) 36 36 51 i0 2 Tryz.underlying36 hi (.slice none 0 0) 0 [] hN
    go_enter Tryz.func80, Tryz.ntmps80
    go_wp2
    go_region
    go_wp2
    go_ret
    refine ⟨.slice none 0 0, rfl, ⟨Nat.le_refl _, ?_, ?_, World.ownsRow_nil _ _ _ _, by simp [Value.ownBlock], fun _ => rfl⟩, ?_⟩
    · exact World.cell?_setCell_same' _ _ _ (by show (W0.cell? _).isSome = true; rw [b0]; rfl)
    · show (W0.setCell ⟨w.heap.size, 0, none⟩ (.slice none 0 0)).frozen? ⟨w.heap.size, 0, none⟩ = false
      rw [World.frozen?_setCell]
      exact b1
    · exact below_setCell (B := w.heap.size) HG.out.drew (Nat.le_refl _) _
  · obtain ⟨tp, tcap, rfl, htc, htr⟩ := FRow.of_owns h0.row
    obtain ⟨tg, tcur, rfl, htb, htl⟩ := htr hfs
    have hnews : ∀ j u, (entCells fs)[j]? = some u → (w.alloc (.cells #[.slice none 0 0] 38)).cell? ((⟨tg, 0, none⟩ : Addr).add j) = some u := h0.row.cells (g := tg) rfl
    have hel : (entCells fs).length = fs.length * 2 := h0.row.1
    have hpos : 0 < fs.length := List.length_pos_iff.2 hfs
    have hml : 0 + fs.length ≤ maxLen := by unfold maxLen; omega
    clear h h0 g0 htb htl
    generalize hW0 : w.alloc (.cells #[.slice none 0 0] 38) = W0 at *
    have hW0l : w.heap.size < W0.heap.size := by omega
    have hNd : W0.drew.ownsRow (w.heap.size + 1) 51 2 (.slice none 0 0) 0 [] := hN
    have hnewsd : ∀ j u, (entCells fs)[j]? = some u → W0.drew.cell? ((⟨tg, 0, none⟩ : Addr).add j) = some u := hnews
    go_enter Tryz.func80, Tryz.ntmps80
    go_wp2
    go_region_law (refine step_append_lies _ rfl (.tmp 10) (.tmp 14) 36 rfl (w.heap.size + 1) 51 i0 (.agg #[.string ⟨#[]⟩, .string ⟨#[]⟩]) 2 32 Tryz.underlying36 hi hz0 hz1 hz2 rfl (by decide) (.slice none 0 0) 0 [] rfl hNd ⟨tg, 0, none⟩ fs.length tcap (entCells fs) rfl hel hnewsd ents_one hpos hml (by omega) (by show w.heap.size + 1 ≤ W0.heap.size; omega) _ rfl ?_; intro g8 cap8 w8 hown8 hgrow8 hlies8 hlt8; (have d0 : w8.cell? ⟨w.heap.size, 0, none⟩ = some (.slice none 0 0) := (World.grownBy.cell_far hgrow8 ⟨w.heap.size, 0, none⟩ (by show w.heap.size < W0.heap.size; omega) (by simp [Value.ownBlock])).trans b0); (have d1 : w8.frozen? ⟨w.heap.size, 0, none⟩ = false := (World.grownBy.frozen_far hgrow8 ⟨w.heap.size, 0, none⟩ (by show w.heap.size < W0.heap.size; omega) (by simp [Value.ownBlock])).trans b1); (have HE := hid1 (And.intro hown8 (And.intro hgrow8 hlt8))); clear hown8 hgrow8 hlies8)
    all_goals
      go_wp2
      go_ret
      obtain ⟨hown8, hgrow8, hlt8⟩ := HE.out
      have hge := (hown8.lt g8 rfl).1
      refine ⟨_, rfl, ⟨Nat.le_refl _, World.cell?_setCell_same' _ _ _ (by rw [d0]; rfl), by rw [World.frozen?_setCell]; exact d1, ?_, ?_, fun e => absurd e hfs⟩, ?_⟩
      · have h1 := hown8
        rw [Nat.zero_add, List.nil_append] at h1
        refine ⟨h1.1, ?_⟩
        rcases h1.2 with ⟨e, _⟩ | ⟨g, cap, cur, e, h0, hg, h2⟩
        · cases e
        · refine .inr ⟨g, cap, cur, e, by omega, ?_, h2⟩
          rw [Below.heap_setCell w8 ⟨w.heap.size, 0, none⟩ _ g (by show g ≠ w.heap.size; omega)]
          exact hg
      · simp [Value.ownBlock]
        omega
      · have hb8 : Below w.heap.size w w8 := ⟨hgrow8.os.trans HG.out.os, hgrow8.tape.trans HG.out.tape, hgrow8.output.trans HG.out.output, by have h1 := hgrow8.size; have : W0.drew.heap.size = W0.heap.size := rfl; omega, fun j hj => (hgrow8.block j (by show j < W0.heap.size; omega) (by simp [Value.ownBlock])).trans (HG.out.block j hj)⟩
        exact below_setCell hb8 (Nat.le_refl _) _
end Go.Proofs.YtmhipgompplkdaaGreatDoor
namespace Go.Proofs.YtmhipgompplkdaaGreatDoor
open Go.RowKit Go.Shelf Go.Lib
theorem E12.terr {w : World} {es : Nat → Addr} (h : E12 w es) : TErr w (erOf es) :=
  ⟨h.c1, h.c2, h.c3, h.c5, h.c6, h.c7, fun _ => ⟨_, _, rfl⟩, rfl⟩
end Go.Proofs.YtmhipgompplkdaaGreatDoor
