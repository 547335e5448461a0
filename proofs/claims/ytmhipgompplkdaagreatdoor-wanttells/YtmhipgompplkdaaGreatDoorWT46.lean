import Derived.Test.YtmhipgompplkdaaGreatDoorWT45
import Derived.Test.YtmhipgompplkdaaGreatDoorWT34
import Derived.Test.YtmhipgompplkdaaGreatDoorWT21
import Derived.Test.YtmhipgompplkdaaGreatDoorWT10
import Derived.Test.YtmhipgompplkdaaGreatDoorWT30
import Derived.Test.YtmhipgompplkdaaGreatDoorWT11
import Derived.Test.YtmhipgompplkdaaGreatDoorWT15
import Derived.Test.YtmhipgompplkdaaGreatDoorWT08
import Derived.Test.YtmhipgompplkdaaGreatDoorWT09
import Derived.Test.YtmhipgompplkdaaGreatDoorWT16
import Derived.Lib.IndexMore
namespace Go.Proofs.YtmhipgompplkdaaGreatDoor
open Go.RowKit Go.Shelf Go.Lib
theorem WantOf_told (hAct : ActTells Af.actO) {fs : Tf.Fs} (hn : fs.length ≤ 1000) (hr : Tf.Rises fs) (hby : ∀ x b, Tf.get fs x = some b → b.length ≤ 2000) {l : List Ru} (hl : l.length ≤ 40) (hS : ∀ x ∈ l, x.Small) {o : List Nat} (ht : Ru.Topo l o) (hnd : o.Nodup) (hlt : ∀ i ∈ o, i < l.length) (x : List UInt8) (hin : ∀ i, Bf.mkr l x = some i → i ∈ o) : WantTold fs l x := by
  have hWt := Bf.want_is (act := Af.actO) (fs := fs) ht hnd hlt
  have main : ∀ n (x : List UInt8), (∀ i, Bf.mkr l x = some i → i ∈ o ∧ o.idxOf i < n) → WantTold fs l x := by
    intro n
    induction n with
    | zero =>
      intro x h
      refine WantOf_step hAct hn hr hby hl hS x (fun i hi hm => ?_) (fun i hi hm => ?_) <;> (have := (h i hm).2; omega)
    | succ n ih =>
      intro x h
      refine WantOf_step hAct hn hr hby hl hS x (fun i hi hm => ?_) (fun i hi hm y hy => ?_)
      · have e := hWt.rule x i hm (h i hm).1
        rwa [Bf.getD_at hi] at e
      · obtain ⟨hio, hr⟩ := h i hm
        refine ih y fun j hj => ?_
        obtain ⟨hjl, ej⟩ := Bf.mkr_of hj
        have hn : Ru.needs l i j = true := by
          rw [Ru.needs_eq hi hjl, ej]
          exact decide_eq_true hy
        have := Bf.rank_of ht hio hn
        exact ⟨this.1, by omega⟩
  exact main (o.length + 1) x fun i hi => ⟨hin i hi, by have : o.idxOf i < o.length := List.idxOf_lt_length_of_mem (hin i hi); omega⟩
theorem wantF_code {fs : Tf.Fs} {l : List Ru} (x : List UInt8) : ∀ n, (Bf.wantF Af.actO fs l n x).2 ≤ 12
  | 0 => by simp [Bf.wantF]
  | n + 1 => by
    have hw : ∀ (a : List (List UInt8)), (Bf.winB (Bf.wantF Af.actO fs l n) a).2 ≤ 12 := fun a => by
      induction a with
      | nil => simp [Bf.winB]
      | cons y r ih =>
        unfold Bf.winB
        split
        · exact ih
        · exact wantF_code y n
    have ha : ∀ k w xs, (Af.actO k w xs).2 ≤ 12 := fun k w xs => by
      unfold Af.actO
      split
      · split
        · split <;> simp
        · simp
      · rename_i h
        show Af.actE k w xs.length ≤ 12
        unfold Af.actE
        split
        · omega
        · split
          · omega
          · split <;> omega
    unfold Bf.wantF
    split
    · unfold Bf.wrule
      split
      · exact ha _ _ _
      · exact hw _
    · split <;> simp
theorem want_code (fs : Tf.Fs) (l : List Ru) (x : List UInt8) : (Bf.want Af.actO fs l x).2 = 0 ∨ ∃ k, k < 12 ∧ (Bf.want Af.actO fs l x).2 = k + 1 := by
  have := wantF_code (fs := fs) (l := l) x (l.length + 2)
  unfold Bf.want
  cases h : (Bf.wantF Af.actO fs l (l.length + 2) x).2 with
  | zero => exact .inl rfl
  | succ k => exact .inr ⟨k, by omega, rfl⟩
end Go.Proofs.YtmhipgompplkdaaGreatDoor
namespace Go.Proofs.YtmhipgompplkdaaGreatDoor
namespace Ru
inductive Rch (l : List Ru) (outs : List (List UInt8)) : Nat → Prop where
  | base {k : Nat} : base l outs k = true → Rch l outs k
  | step {i k : Nat} : Rch l outs i → needs l i k = true → Rch l outs k
open Classical in
theorem needed_is (l : List Ru) (outs : List (List UInt8)) : ∃ f, Needed l outs f := by
  refine ⟨fun k => decide (Rch l outs k), fun k hk => decide_eq_true (.base hk), fun i k hi hn => ?_, fun P h1 h2 k _ hk => ?_⟩
  · have hi' : decide (Rch l outs i) = true := hi
    exact decide_eq_true (.step (of_decide_eq_true hi') hn)
  · have hk' : decide (Rch l outs k) = true := hk
    have := of_decide_eq_true hk'
    induction this with
    | base hb => exact h1 _ hb
    | step h hn ih =>
      have hl := (needs_lt hn).1
      exact h2 _ _ (ih hl (decide_eq_true h) (decide_eq_true h)) hn
end Ru
theorem need_order {l : List Ru} {out : List UInt8} (h : (Ru.order l (Bf.need l [out])).isSome = true) : ∃ o, Ru.Topo l o ∧ o.Nodup ∧ (∀ i ∈ o, i < l.length) ∧ ∀ i, Bf.mkr l out = some i → i ∈ o := by
  obtain ⟨o, ho⟩ := Option.isSome_iff_exists.1 h
  obtain ⟨ht, hall⟩ := Ru.order_some ho
  obtain ⟨hnd, hlt⟩ := Ru.order_nodup ho
  refine ⟨o, ht, hnd, hlt, fun i hi => ?_⟩
  obtain ⟨hk, ek⟩ := Bf.mkr_of hi
  refine hall i hk ?_
  obtain ⟨f, hf⟩ := Ru.needed_is l [out]
  rw [Bf.need_eq hf hk]
  exact hf.start i (by unfold Ru.base; rw [List.getElem?_eq_getElem hk]; simp [ek])
end Go.Proofs.YtmhipgompplkdaaGreatDoor
namespace Go.Proofs.YtmhipgompplkdaaGreatDoor
open Go.RowKit Go.Shelf Go.Lib
theorem coded2_nil (c : Int) (w : World) : Calls Tryz.prog 68 #[.nilIface, .int .i64 c] w fun e w' => e = .returned (.bool (decide (0 = c))) ∧ w' = w := by
  by_cases h : 0 = c
  · subst h
    go_enter Tryz.func68, Tryz.ntmps68
    go_wp2_with fail
    refine (Code_nil _).mono ?_
    rintro e w' ⟨rfl, rfl⟩
    go_wp2
    go_ret
    exact ⟨rfl, rfl⟩
  · have hb : ((0 : Int) == c) = false := by simpa using h
    have hd : decide (0 = c) = false := by simpa using h
    rw [hd]
    go_enter Tryz.func68, Tryz.ntmps68
    go_wp2_with fail
    refine (Code_nil _).mono ?_
    rintro e w' ⟨rfl, rfl⟩
    go_wp2
    go_ret
    exact ⟨rfl, rfl⟩
theorem coded2_ptr (c : Int) (x : Addr) (es : Nat → Addr) (cx : Array Value) (tx : TypeId) (w : World) (hE : E12 w es) (hx : w.heap[x.block]? = some (.cells cx tx (0, 0))) :
    Calls Tryz.prog 68 #[.iface 399 (.pointer (some x)), .int .i64 c] w fun e w' => e = .returned (.bool (decide (codeOf es x = c))) ∧ Below w.heap.size w w' := by
  have HC : Hid (Calls Tryz.prog 84 #[.iface 399 (.pointer (some x))] w fun e w' => e = .returned (.tuple #[.int .i64 (codeOf es x), .int .i64 (-1)]) ∧ Below w.heap.size w w') := Code_ptr x es cx tx w hE hx
  generalize codeOf es x = y at *
  clear hE hx
  by_cases h : y = c
  · subst h
    have hd : decide (y = y) = true := by simp
    rw [hd]
    go_enter Tryz.func68, Tryz.ntmps68
    go_wp2_with fail
    refine HC.out.mono ?_
    rintro e w' ⟨rfl, hb⟩
    go_wp2
    go_ret
    exact ⟨rfl, hb⟩
  · have hb : (y == c) = false := by simpa using h
    have hd : decide (y = c) = false := by simpa using h
    rw [hd]
    go_enter Tryz.func68, Tryz.ntmps68
    go_wp2_with fail
    refine HC.out.mono ?_
    rintro e w' ⟨rfl, hb⟩
    go_wp2
    go_ret
    exact ⟨rfl, hb⟩
theorem coded2_es (k : Nat) (hk : k < 12) (es : Nat → Addr) (w : World) (hE : E12 w es) :
    Calls Tryz.prog 68 #[.iface 399 (.pointer (some (es k))), .int .i64 ((k : Int) + 1)] w fun e w' => e = .returned (.bool true) ∧ Below w.heap.size w w' := by
  obtain ⟨c, t, hr⟩ := hE.rows k hk
  have := coded2_ptr ((k : Int) + 1) (es k) es c t w hE hr
  rwa [codeOf_es hE k hk, show decide ((k : Int) + 1 = (k : Int) + 1) = true from decide_eq_true rfl] at this
theorem coded2_none (w : World) : Calls Tryz.prog 68 #[.nilIface, .int .i64 0] w fun e w' => e = .returned (.bool true) ∧ Below w.heap.size w w' :=
  (coded2_nil 0 w).mono fun _ _ ⟨he, hw⟩ => ⟨he, hw ▸ Below.refl _ _⟩
theorem coded2_er (c : Nat) (hc : c = 0 ∨ ∃ k, k < 12 ∧ c = k + 1) (es : Nat → Addr) (w : World) (hE : E12 w es) :
    Calls Tryz.prog 68 #[erOf es c, .int .i64 (c : Int)] w fun e w' => e = .returned (.bool true) ∧ Below w.heap.size w w' := by
  rcases hc with rfl | ⟨k, hk, rfl⟩
  · exact coded2_none w
  · exact coded2_es k hk es w hE
set_option maxHeartbeats 4000000 in
theorem faulted2_calls {w : World} {es : Nat → Addr} (hE : E12 w es) (v : Value) (f : Nat × Int) (h : ErrV w es v f) :
    Calls Tryz.prog 70 #[v, .agg #[.int .i64 f.1, .int .i64 f.2]] w fun e w' => e = .returned (.bool true) ∧ Below w.heap.size w w' := by
  obtain ⟨c, n⟩ := f
  have hB0 : Below w.heap.size w (w.alloc (.cells #[.int .i64 c, .int .i64 n] 75)) := (Below.refl _ w).alloc (Nat.le_refl _) _
  have hc0 : (w.alloc (.cells #[.int .i64 c, .int .i64 n] 75)).cell? ⟨w.heap.size, 0, none⟩ = some (.int .i64 c) := by simp
  have hc1 : (w.alloc (.cells #[.int .i64 c, .int .i64 n] 75)).cell? ⟨w.heap.size, 1, none⟩ = some (.int .i64 n) := by simp
  have HC : Hid (∀ W, Below w.heap.size w W → Calls Tryz.prog 84 #[v] W fun e w' => ∃ n', e = .returned (.tuple #[.int .i64 (c : Int), .int .i64 n']) ∧ (c = 0 ∨ n' = n) ∧ Below W.heap.size W w') := hid1 fun W hW => by
    rcases h with ⟨h1, rfl, h2⟩ | ⟨pb, m, rfl, hm, h0, h1, h2⟩
    · simp only at h1 h2 ⊢
      subst h1
      cases c with
      | zero => exact (Code_nil W).mono fun e w' ⟨p, q⟩ => ⟨_, p, .inl rfl, q ▸ Below.refl _ _⟩
      | succ k =>
        obtain ⟨cc, t, hr⟩ := (hE.below hW).rows k (by omega)
        have := Code_ptr (es k) es cc t W (hE.below hW) hr
        rw [codeOf_es hE k (by omega)] at this
        exact this.mono fun e w' ⟨p, q⟩ => ⟨_, p, .inr rfl, q⟩
    · simp only at h0 h1 h2
      subst h0
      exact (Code_fault pb n m hm es W (hE.below hW) (cell_below' h1 hW) (cell_below' h2 hW)).mono fun e w' ⟨p, q⟩ => ⟨n, p, .inr rfl, q⟩
  clear hE h
  simp only
  generalize hci : (c : Int) = ci at *
  go_enter Tryz.func70, Tryz.ntmps70
  go_wp2_with fail
  refine (HC.out _ hB0).mono ?_
  rintro e w1 ⟨n', rfl, hd, g⟩
  have g1 := below_then hB0 g
  have d0 := cell_below' hc0 g
  have d1 := cell_below' hc1 g
  clear HC hB0 hc0 hc1 g
  by_cases h0 : ci = 0
  · subst h0
    go_wp2
    go_ret
    exact ⟨rfl, g1⟩
  · have e0 : (ci == 0) = false := by simpa using h0
    obtain rfl : n' = n := hd.resolve_left (by intro e; apply h0; rw [← hci, e]; rfl)
    go_wp2
    go_ret
    exact ⟨rfl, g1⟩
end Go.Proofs.YtmhipgompplkdaaGreatDoor
namespace Go.Proofs.YtmhipgompplkdaaGreatDoor
open Go.RowKit Go.Shelf Go.Lib
theorem madd (a b : List UInt8) (h : a.length + b.length ≤ 100000000) (W : World) : (Op.stringOp .add (ba a) (ba b)).run Tryz.prog W = .ok (.string (ba (a ++ b))) W := by
  rw [run_string_add_sum (P := Tryz.prog) W (ba a) (ba b) (by rw [ba_size, ba_size]; omega), ba_append]
set_option maxRecDepth 100000 in
set_option maxHeartbeats 4000000 in
theorem made_join (wd : List UInt8) (g o cap : Nat) (x : List UInt8) (l : List (List UInt8)) (hl : l.length ≤ 20) (hwd : wd.length ≤ 100000) (hx : ∀ y ∈ l, y.length ≤ 100000) (hall : ∀ k, (x ++ Lib.joinTail wd (l.take k)).length ≤ 10000000) (w : World) (hcur : ∀ j (hj : j < (x :: l).length), w.cell? ⟨g, o + j, none⟩ = some (.string (ba (x :: l)[j]))) :
    Calls Tryz.prog 100 #[.string ⟨#[106, 111, 105, 110]⟩, .string (ba wd), .slice (some ⟨g, o, none⟩) (l.length + 1) cap] w fun e w' => e = .returned (.string (ba (Lib.join (x :: l) wd))) ∧ Below w.heap.size w w' := by
  have hc0 : w.cell? ⟨g, o, none⟩ = some (.string (ba x)) := hcur 0 (by simp)
  have zl : (l.length : Int) ≤ 20 := by omega
  rw [Lib.join_cons]
  have HX := hid1 hx
  have HA := hid1 hall
  have HC := hid1 fun j (hj : j < l.length) => hcur (j + 1) (by simp; omega)
  clear hx hall hcur
  go_enter Tryz.func100, Tryz.ntmps100
  go_wp2
  go_loopw [7, 8] (fun s i wr => ∃ k : Nat, k ≤ l.length ∧ s = .string (ba (x ++ Lib.joinTail wd (l.take k))) ∧ i = .int .i64 ((k : Int) + 1) ∧ w = wr) (fun _ i _ => l.length + 1 - (intOf i).toNat)
  case atStart => exact ⟨0, Nat.zero_le _, by simp [Lib.joinTail], rfl, rfl⟩
  case round =>
    obtain ⟨k, hk, rfl, rfl, rfl⟩ := hrel
    have h0 := HA.out k
    by_cases hlt : k < l.length
    · have hc := HC.out k hlt
      have hy := HX.out _ (List.getElem_mem hlt)
      simp only [List.getElem_cons_succ] at hc
      have HT := hid1 (Lib.joinTail_take_succ wd l k l[k] (List.getElem?_eq_getElem hlt))
      generalize l[k] = y at *
      generalize Lib.joinTail wd (l.take k) = t at *
      have s1 : ∀ W, (Op.stringOp .add (ba (x ++ t)) (ba wd)).run Tryz.prog W = .ok (.string (ba (x ++ t ++ wd))) W := madd _ _ (by omega)
      have s2 : ∀ W, (Op.stringOp .add (ba (x ++ t ++ wd)) (ba y)).run Tryz.prog W = .ok (.string (ba (x ++ t ++ wd ++ y))) W := madd _ _ (by rw [List.length_append]; omega)
      have c1 : (k : Int) + 1 < (l.length : Int) + 1 := by omega
      have e0 : (0 : Int) ≤ (k : Int) + 1 := by omega
      have e3 : ((k : Int) + 1).toNat = k + 1 := by omega
      have q8 : IntKind.i64.wrap ((k : Int) + 1) = (k : Int) + 1 := by rw [IntKind.wrap_i64]; omega
      have q9 : IntKind.i64.wrap ((k : Int) + 1 + 1) = (k : Int) + 1 + 1 := by rw [IntKind.wrap_i64]; omega
      have HE := hid1 (show x ++ t ++ wd ++ y = x ++ (t ++ wd ++ y) by simp)
      generalize x ++ t ++ wd ++ y = t2 at *
      generalize x ++ t ++ wd = t1 at *
      generalize x ++ t = t0 at *
      go_wp2
      exact ⟨⟨k + 1, by omega, by rw [HT.out, HE.out], by go_num, trivial⟩, by simp [intOf]; omega⟩
    · obtain rfl : k = l.length := by omega
      have c1 : ¬ (l.length : Int) + 1 < (l.length : Int) + 1 := by omega
      rw [List.take_length] at *
      go_wp2
      go_ret
      exact ⟨rfl, Below.refl _ _⟩
end Go.Proofs.YtmhipgompplkdaaGreatDoor
namespace Go.Proofs.YtmhipgompplkdaaGreatDoor
open Go.RowKit Go.Shelf Go.Lib
open Go.Sort (grow Holds putRow)
set_option maxRecDepth 100000 in
set_option maxHeartbeats 4000000 in
theorem rLinesOf_calls (s : List UInt8) (hs : s.length ≤ 1000000) (w : World) :
    Calls Tryz.prog 154 #[.string (ba s)] w fun e w' => ∃ v, e = .returned v ∧ TRow w' v (Af.lines s) ∧ Below w.heap.size w w' := by
  obtain ⟨o, l, hc, hl⟩ := Af.lines_of_cut s
  have HS := hid1 (rCut_calls s hs 10 10 rfl w)
  have hol : o.length ≤ 1000000 := by
    have := cutB_len 10 s
    rw [hc] at this
    simp at this
    omega
  rw [hc] at HS
  have HL : Hid (Af.lines s = (if l = [] then o else o ++ [l])) := hl
  clear hl hc
  generalize Af.lines s = L at *
  go_enter Tryz.func154, Tryz.ntmps154
  go_wp2_with fail
  refine Calls.mono HS.out ?_
  rintro e w3 ⟨v, rfl, hown, hB3⟩
  obtain ⟨pa, cap, rfl, hcap, hin⟩ := TRow.of_owns hown
  obtain ⟨g, cur, rfl, hg, hcur⟩ := hin (by simp)
  have hcz := cell_of_row hg (hcur o.length (by simp))
  rw [List.getElem_append_right (by omega)] at hcz
  simp only [Nat.sub_self, List.getElem_cons_zero] at hcz
  simp only [List.length_append, List.length_cons, List.length_nil] at hcap ⊢
  have hcurA : ∀ j (hj : j < o.length), cur[j]? = some (.string (ba o[j])) := fun j hj => by
    have := hcur j (by simp; omega)
    rwa [List.getElem_append_left hj] at this
  clear HS hown hin
  have z1 : (o.length : Int) ≤ 1000000 := by omega
  by_cases he : l = []
  · subst he
    have hL : L = o := by rw [HL.out, if_pos rfl]
    subst hL
    clear HL hcur
    go_wp2
    go_ret
    exact ⟨_, rfl, ⟨_, _, rfl, by omega, fun _ => ⟨g, cur, rfl, hg, hcurA⟩⟩, hB3⟩
  · have d1 : l.isEmpty = false := empty_not he
    have hL : L = o ++ [l] := by rw [HL.out, if_neg he]
    subst hL
    clear HL
    go_wp2
    go_ret
    exact ⟨_, rfl, ⟨some ⟨g, 0, none⟩, cap, by simp, by simp; omega, fun _ => ⟨g, cur, rfl, hg, hcur⟩⟩, hB3⟩
theorem compact_pre (S : List (List UInt8)) : ∀ (d i : Nat), i + d = S.length → ∃ t, Lib.compact S = compactUpTo S.toArray i ++ t
  | 0, i, h => ⟨[], by rw [Lib.compact, List.append_nil, ← h]; rfl⟩
  | d + 1, i, h => by
    obtain ⟨t, ht⟩ := compact_pre S d (i + 1) (by omega)
    rw [Af.compact_succ, List.append_assoc] at ht
    exact ⟨_, ht⟩
theorem compact_keep (S : List (List UInt8)) (i : Nat) (h : i < S.length) (hk : keeps S.toArray i = true) : compactUpTo S.toArray (i + 1) = compactUpTo S.toArray i ++ [S[i]] ∧ (compactUpTo S.toArray i).length < (Lib.compact S).length ∧ ∀ hx : (compactUpTo S.toArray i).length < (Lib.compact S).length, (Lib.compact S)[(compactUpTo S.toArray i).length] = S[i] := by
  have e : compactUpTo S.toArray (i + 1) = compactUpTo S.toArray i ++ [S[i]] := by
    rw [Af.compact_succ, if_pos hk]
    simp [h]
  obtain ⟨t, ht⟩ := compact_pre S (S.length - (i + 1)) (i + 1) (by omega)
  rw [e] at ht
  refine ⟨e, by rw [ht]; simp, fun hx => ?_⟩
  simp only [ht, List.append_assoc]
  rw [List.getElem_append_right (Nat.le_refl _)]
  simp
theorem compact_skip (S : List (List UInt8)) (i : Nat) (hk : keeps S.toArray i = false) : compactUpTo S.toArray (i + 1) = compactUpTo S.toArray i := by
  rw [Af.compact_succ, hk]
  simp
theorem keeps_zero (S : List (List UInt8)) : keeps S.toArray 0 = true := by simp [keeps]
theorem keeps_succ (S : List (List UInt8)) (i : Nat) (h : i + 1 < S.length) : keeps S.toArray (i + 1) = !(S[i + 1] == S[i]) := by
  have h' : i < S.length := by omega
  unfold keeps
  simp [h, h']
  by_cases e : S[i + 1] = S[i] <;> simp [e]
end Go.Proofs.YtmhipgompplkdaaGreatDoor
namespace Go.Proofs.YtmhipgompplkdaaGreatDoor
open Go.RowKit Go.Shelf Go.Lib
theorem bytes_bound {m : Nat} : ∀ {ls : List (List UInt8)}, (∀ x ∈ ls, x.length ≤ m) → Af.bytes ls ≤ ls.length * m
  | [], _ => by simp [Af.bytes]
  | x :: r, h => by
    have ih := bytes_bound (ls := r) fun y hy => h y (by simp [hy])
    have hx := h x (by simp)
    simp only [Af.bytes, List.map_cons, List.sum_cons, List.length_cons, Nat.add_mul, Nat.one_mul] at ih ⊢
    omega
theorem all_len_le : ∀ (ls : List (List UInt8)), (Af.all ls).length ≤ Af.bytes ls
  | [] => by simp [Af.all, Af.bytes]
  | x :: r => by
    have ih := all_len_le r
    have hx := Af.lines_len x
    simp only [Af.all, Af.bytes, List.flatMap_cons, List.length_append, List.map_cons, List.sum_cons] at ih ⊢
    omega
theorem take_bound {m n : Nat} {ls : List (List UInt8)} (hn : ls.length ≤ n) (h : ∀ x ∈ ls, x.length ≤ m) (k : Nat) : Af.bytes (ls.take k) ≤ n * m := by
  refine Nat.le_trans (bytes_bound fun x hx => h x (List.mem_of_mem_take hx)) (Nat.mul_le_mul_right _ ?_)
  simp
  omega
set_option maxRecDepth 100000 in
set_option maxHeartbeats 4000000 in
theorem made_count (wd : List UInt8) (g o cap : Nat) (ls : List (List UInt8)) (hn : ls.length ≤ 20) (hx : ∀ x ∈ ls, x.length ≤ 4000) (w : World) (hg : g < w.heap.size) (hcur : ∀ j (hj : j < ls.length), w.cell? ⟨g, o + j, none⟩ = some (.string (ba ls[j]))) :
    Calls Tryz.prog 100 #[.string ⟨#[99, 111, 117, 110, 116]⟩, .string (ba wd), .slice (some ⟨g, o, none⟩) ls.length cap] w fun e w' => e = .returned (.string (ba (Af.count ls))) ∧ Below w.heap.size w w' := by
  have zl : (ls.length : Int) ≤ 20 := by omega
  have HC := hid1 hcur
  have HX := hid1 hx
  have HTB := hid1 fun k => take_bound hn hx k
  have HLL := hid1 fun (y : List UInt8) (hy : y.length ≤ 4000) W => rLinesOf_calls y (by omega) W
  have HD := hid1 Decimal_calls
  clear hcur hx
  go_enter Tryz.func100, Tryz.ntmps100
  go_wp2
  go_loopw [19, 20, 21] (fun n b i wr => ∃ k : Nat, k ≤ ls.length ∧ n = .int .i64 ((Af.all (ls.take k)).length : Nat) ∧ b = .int .i64 (Af.bytes (ls.take k) : Nat) ∧ i = .int .i64 k ∧ Below w.heap.size w wr) (fun _ _ i _ => ls.length - (intOf i).toNat)
  case atStart => exact ⟨0, Nat.zero_le _, rfl, rfl, rfl, Below.refl _ _⟩
  case round =>
    obtain ⟨k, hk, rfl, rfl, rfl, hB⟩ := hrel
    have c0 : (0 : Int) ≤ (k : Int) := by omega
    have hb0 : Af.bytes (ls.take k) ≤ 80000 := HTB.out k
    have ha0 : (Af.all (ls.take k)).length ≤ 80000 := Nat.le_trans (all_len_le _) hb0
    by_cases hlt : k < ls.length
    · have c1 : (k : Int) < (ls.length : Int) := by omega
      have hy := HX.out _ (List.getElem_mem hlt)
      have hcell := (hB.cell (p := ⟨g, o + k, none⟩) hg).trans (HC.out k hlt)
      have hgr : g < wr.heap.size := Nat.lt_of_lt_of_le hg hB.size
      have HA : Hid ((Af.all (ls.take (k + 1))).length = (Af.all (ls.take k)).length + (Af.lines ls[k]).length) := by
        refine hid1 ?_
        rw [all_take hlt, List.length_append]
      have HBy := hid1 (bytes_take hlt)
      have H1 := HLL.out ls[k] hy wr
      have hly := Af.lines_len ls[k]
      generalize ls[k] = y at *
      generalize Af.lines y = L at *
      generalize (Af.all (ls.take k)).length = n at *
      generalize Af.bytes (ls.take k) = b at *
      have q8 : IntKind.i64.wrap (k : Int) = (k : Int) := by rw [IntKind.wrap_i64]; omega
      have q9 : IntKind.i64.wrap ((n : Int) + (L.length : Int)) = ((n + L.length : Nat) : Int) := by rw [IntKind.wrap_i64]; omega
      have q7 : IntKind.i64.wrap ((b : Int) + (y.length : Int)) = ((b + y.length : Nat) : Int) := by rw [IntKind.wrap_i64]; omega
      go_wp2_with fail
      refine Calls.mono H1 ?_
      rintro e w1 ⟨v, rfl, ⟨pa, lc, rfl, hcap, _⟩, g1⟩
      have hcell1 := (g1.cell (p := ⟨g, o + k, none⟩) hgr).trans hcell
      go_wp2
      exact ⟨⟨k + 1, by omega, by rw [HA.out, Int.natCast_add], by rw [HBy.out, Int.natCast_add], by go_num, hB.trans (g1.mono hB.size)⟩, by simp [intOf]; omega⟩
    · obtain rfl : k = ls.length := by omega
      have c1 : ¬ (ls.length : Int) < (ls.length : Int) := by omega
      have HQ : Hid (Af.count ls = Lib.decDigits (Af.all ls).length ++ 32 :: (Lib.decDigits (Af.bytes ls) ++ [10])) := rfl
      rw [List.take_length] at *
      have H1 := hid1 fun W => HD.out (Af.all ls).length (by omega) W
      have H2 := hid1 fun W => HD.out (Af.bytes ls) (by omega) W
      have hd1 := digits_len (Af.all ls).length (by omega)
      have hd2 := digits_len (Af.bytes ls) (by omega)
      generalize (Af.all ls).length = n at *
      generalize Af.bytes ls = b at *
      generalize Lib.decDigits n = dn at *
      generalize Lib.decDigits b = db at *
      have s1 : ∀ W, (Op.stringOp .add (ba dn) ⟨#[32]⟩).run Tryz.prog W = .ok (.string (ba (dn ++ [32]))) W := madd dn [32] (by simp; omega)
      have s2 : ∀ W, (Op.stringOp .add (ba (dn ++ [32])) (ba db)).run Tryz.prog W = .ok (.string (ba (dn ++ [32] ++ db))) W := madd (dn ++ [32]) db (by simp; omega)
      have s3 : ∀ W, (Op.stringOp .add (ba (dn ++ [32] ++ db)) ⟨#[10]⟩).run Tryz.prog W = .ok (.string (ba (dn ++ [32] ++ db ++ [10]))) W := madd (dn ++ [32] ++ db) [10] (by simp; omega)
      have HE : Hid (Af.count ls = dn ++ [32] ++ db ++ [10]) := by
        refine hid1 ?_
        rw [HQ.out]
        simp
      generalize dn ++ [32] ++ db ++ [10] = t3 at *
      generalize dn ++ [32] ++ db = t2 at *
      generalize dn ++ [32] = t1 at *
      go_wp2_with fail
      refine Calls.mono (H1.out _) ?_
      rintro e w1 ⟨rfl, g1⟩
      go_wp2_with fail
      refine Calls.mono (H2.out _) ?_
      rintro e w2 ⟨rfl, g2⟩
      go_wp2
      go_ret
      have hB1 := hB.trans (g1.mono hB.size)
      refine ⟨?_, hB1.trans (g2.mono hB1.size)⟩
      show Ending.returned (.string (ba t3)) = _
      rw [HE.out]
end Go.Proofs.YtmhipgompplkdaaGreatDoor
namespace Go.Proofs.YtmhipgompplkdaaGreatDoor
open Go.RowKit Go.Shelf Go.Lib
theorem occAt_far {s wd : List UInt8} {i : Nat} (h : s.length < i + wd.length) (hi : i ≤ s.length) : Lib.occAt s wd i = false := by
  cases ho : Lib.occAt s wd i with
  | false => rfl
  | true =>
    rcases Lib.occAt_room ho with h1 | h1
    · omega
    · subst h1
      simp at h
      omega
set_option maxRecDepth 100000 in
set_option maxHeartbeats 4000000 in
theorem has_calls (s wd : List UInt8) (i : Nat) (hs : s.length ≤ 1000000) (hw : wd.length ≤ 1000000) (hi : i ≤ s.length) (w : World) :
    Calls Tryz.prog 156 #[.string (ba s), .int .i64 i, .string (ba wd)] w fun e w' => e = .returned (.bool (Lib.occAt s wd i)) ∧ w' = w := by
  have z1 : (s.length : Int) ≤ 1000000 := by omega
  have z2 : (wd.length : Int) ≤ 1000000 := by omega
  have z3 : (i : Int) ≤ (s.length : Int) := by omega
  have z4 : (0 : Int) ≤ (i : Int) := by omega
  have z5 : (0 : Int) ≤ (wd.length : Int) := by omega
  by_cases hr : i + wd.length ≤ s.length
  · have ho := Lib.occAt_iff_take s wd i hr
    have d1 : decide ((i : Int) + (wd.length : Int) ≤ (s.length : Int)) = true := decide_eq_true (by omega)
    have d2 : (i : Int) + (wd.length : Int) ≤ (s.length : Int) := by omega
    have d3 : (i : Int) ≤ (i : Int) + (wd.length : Int) := by omega
    have e1 : (ba s).extract i (i + wd.length) = ba ((s.drop i).take wd.length) := by
      have := (Txt.mk (bs := ba s) (s := s) rfl).extract i (i + wd.length)
      rw [this]
      congr 1
      rw [List.drop_take, Nat.add_sub_cancel_left]
    have HO := hid1 ho
    generalize Lib.occAt s wd i = r at *
    generalize (s.drop i).take wd.length = y at *
    clear ho
    go_enter Tryz.func156, Tryz.ntmps156
    go_wp2
    go_ret
    exact ⟨ret_bool HO.out.symm, rfl⟩
  · have ho := occAt_far (s := s) (wd := wd) (i := i) (by omega) hi
    have d1 : decide ((i : Int) + (wd.length : Int) ≤ (s.length : Int)) = false := decide_eq_false (by omega)
    rw [ho]
    clear ho
    go_enter Tryz.func156, Tryz.ntmps156
    go_wp2
    go_ret
    exact ⟨rfl, rfl⟩
set_option maxRecDepth 100000 in
set_option maxHeartbeats 4000000 in
theorem in_calls (s wd : List UInt8) (hs : s.length ≤ 1000000) (hw : wd.length ≤ 1000000) (w : World) :
    Calls Tryz.prog 155 #[.string (ba s), .string (ba wd)] w fun e w' => e = .returned (.bool (Lib.contains s wd)) ∧ w' = w := by
  have HH := hid1 fun (i : Nat) (hi : i ≤ s.length) => has_calls s wd i hs hw hi w
  have HI := hid1 (Lib.index_spec s wd)
  have HQ : Hid (Lib.contains s wd = decide (0 ≤ Lib.index s wd)) := rfl
  generalize Lib.contains s wd = r at *
  generalize Lib.index s wd = ix at *
  have z1 : (s.length : Int) ≤ 1000000 := by omega
  go_enter Tryz.func155, Tryz.ntmps155
  go_wp2
  go_loopw [5] (fun i wr => ∃ k : Nat, k ≤ s.length + 1 ∧ i = .int .i64 k ∧ Lib.NoOcc s wd k ∧ wr = w) (fun i _ => s.length + 1 - (intOf i).toNat)
  case atStart => exact ⟨0, by omega, rfl, Lib.NoOcc.zero _ _, rfl⟩
  case round =>
    obtain ⟨k, hk, rfl, hno, rfl⟩ := hrel
    have HNO := hid1 hno
    clear hno
    by_cases hle : k ≤ s.length
    · have c1 : (k : Int) ≤ (s.length : Int) := by omega
      have H1 := HH.out k hle
      cases ho : Lib.occAt s wd k with
      | false =>
        rw [ho] at H1
        go_wp2_with fail
        refine Calls.mono H1 ?_
        rintro e w1 ⟨rfl, rfl⟩
        go_wp2
        exact ⟨⟨k + 1, by omega, by go_num, HNO.out.succ ho, trivial⟩, by simp [intOf]; omega⟩
      | true =>
        rw [ho] at H1
        go_wp2_with fail
        refine Calls.mono H1 ?_
        rintro e w1 ⟨rfl, rfl⟩
        go_wp2
        go_ret
        refine ⟨ret_bool ?_, rfl⟩
        rw [HQ.out]
        rcases HI.out with ⟨_, h2⟩ | ⟨j, h2, _⟩
        · rw [h2 k hle] at ho
          cases ho
        · rw [h2]; simp
    · have c1 : (s.length : Int) < (k : Int) := by omega
      go_wp2
      go_ret
      refine ⟨ret_bool ?_, rfl⟩
      rw [HQ.out]
      rcases HI.out with ⟨h2, _⟩ | ⟨j, _, h3, h4, _⟩
      · rw [h2]; rfl
      · have := HNO.out j (by omega)
        rw [this] at h4
        cases h4
end Go.Proofs.YtmhipgompplkdaaGreatDoor
namespace Go.Proofs.YtmhipgompplkdaaGreatDoor
open Go.RowKit Go.Shelf Go.Lib
theorem told_step (l : List (List UInt8)) (x : List UInt8) : Af.told (l ++ [x]) = Af.told l ++ x ++ [10] := by
  rw [Af.told_append]
  simp [Af.told]
theorem withW_take (wd : List UInt8) (L : List (List UInt8)) (k : Nat) (hk : k < L.length) : Af.withW wd (L.take (k + 1)) = Af.withW wd (L.take k) ++ (if Lib.contains L[k] wd then [L[k]] else []) := by
  unfold Af.withW
  rw [List.take_succ_eq_append_getElem hk, List.filter_append]
  congr 1
  by_cases h : Lib.contains L[k] wd <;> simp [h]
set_option maxRecDepth 100000 in
set_option maxHeartbeats 4000000 in
theorem made_lines (wd x : List UInt8) (g o cap : Nat) (hwd : wd.length ≤ 1000) (hx : x.length ≤ 100000) (w : World) (hc : w.cell? ⟨g, o, none⟩ = some (.string (ba x))) :
    Calls Tryz.prog 100 #[.string ⟨#[108, 105, 110, 101, 115]⟩, .string (ba wd), .slice (some ⟨g, o, none⟩) 1 cap] w fun e w' => e = .returned (.string (ba (Af.told (Af.withW wd (Af.lines x))))) ∧ Below w.heap.size w w' := by
  have HL := hid1 (rLinesOf_calls x (by omega) w)
  have hll : (Af.lines x).length ≤ 100000 := Nat.le_trans (Af.lines_len x) hx
  have hlx : ∀ y ∈ Af.lines x, y.length ≤ 100000 := fun y hy => Nat.le_trans (Af.line_len hy) hx
  have htl : ∀ k, (Af.told (Af.withW wd ((Af.lines x).take k))).length ≤ 100001 := fun k => by
    have h1 := withW_len wd ((Af.lines x).take k)
    have h2 := told_take_len (l := Af.lines x) k
    have h3 := (Af.told_lines_len x).2
    omega
  generalize Af.lines x = L at *
  have HX := hid1 hlx
  have HTL := hid1 htl
  have HI := hid1 fun (y : List UInt8) (hy : y.length ≤ 100000) W => in_calls y wd (by omega) (by omega) W
  have zl : (L.length : Int) ≤ 100000 := by omega
  clear hlx htl
  go_enter Tryz.func100, Tryz.ntmps100
  go_wp2_with fail
  refine Calls.mono HL.out ?_
  rintro e w1 ⟨v, rfl, hrow, hB⟩
  obtain ⟨pa, lc, rfl, hcap, hin⟩ := hrow
  have HR := hid1 hin
  clear hin HL hc
  go_wp2
  go_loopw [7, 12] (fun s i wr => ∃ k : Nat, k ≤ L.length ∧ s = .string (ba (Af.told (Af.withW wd (L.take k)))) ∧ i = .int .i64 k ∧ w1 = wr) (fun _ i _ => L.length - (intOf i).toNat)
  case atStart => exact ⟨0, Nat.zero_le _, rfl, rfl, rfl⟩
  case round =>
    obtain ⟨k, hk, rfl, rfl, rfl⟩ := hrel
    have c0 : (0 : Int) ≤ (k : Int) := by omega
    have hl0 := HTL.out k
    by_cases hlt : k < L.length
    · obtain ⟨g1, cur, rfl, hg1, hcur⟩ := HR.out (by intro e; rw [e] at hlt; simp at hlt)
      have hcell := cell_of_row hg1 (hcur k hlt)
      have c1 : (k : Int) < (L.length : Int) := by omega
      have hy := HX.out _ (List.getElem_mem hlt)
      have HW := hid1 (withW_take wd L k hlt)
      have H1 := HI.out L[k] hy w1
      clear hcur HR hg1
      generalize L[k] = y at *
      generalize Af.withW wd (L.take k) = fl at *
      have q8 : IntKind.i64.wrap (k : Int) = (k : Int) := by rw [IntKind.wrap_i64]; omega
      cases hcn : Lib.contains y wd with
      | false =>
        rw [hcn] at H1
        have HE := hid1 (show Af.told (Af.withW wd (L.take (k + 1))) = Af.told fl by rw [HW.out, hcn]; simp)
        generalize Af.told fl = t at *
        go_wp2_with fail
        refine Calls.mono H1 ?_
        rintro e w2 ⟨rfl, rfl⟩
        go_wp2
        exact ⟨⟨k + 1, by omega, by rw [HE.out], by go_num, trivial⟩, by simp [intOf]; omega⟩
      | true =>
        rw [hcn] at H1
        have HE := hid1 (show Af.told (Af.withW wd (L.take (k + 1))) = Af.told fl ++ y ++ [10] by rw [HW.out, hcn]; exact told_step fl y)
        generalize Af.told fl = t at *
        have s1 : ∀ W, (Op.stringOp .add (ba t) (ba y)).run Tryz.prog W = .ok (.string (ba (t ++ y))) W := madd t y (by omega)
        have s2 : ∀ W, (Op.stringOp .add (ba (t ++ y)) ⟨#[10]⟩).run Tryz.prog W = .ok (.string (ba (t ++ y ++ [10]))) W := madd (t ++ y) [10] (by rw [List.length_append]; simp; omega)
        generalize t ++ y ++ [10] = t2 at *
        generalize t ++ y = t1 at *
        go_wp2_with fail
        refine Calls.mono H1 ?_
        rintro e w2 ⟨rfl, rfl⟩
        go_wp2
        exact ⟨⟨k + 1, by omega, by rw [HE.out], by go_num, trivial⟩, by simp [intOf]; omega⟩
    · obtain rfl : k = L.length := by omega
      have c1 : ¬ (L.length : Int) < (L.length : Int) := by omega
      rw [List.take_length] at *
      go_wp2
      go_ret
      exact ⟨rfl, hB⟩
end Go.Proofs.YtmhipgompplkdaaGreatDoor
