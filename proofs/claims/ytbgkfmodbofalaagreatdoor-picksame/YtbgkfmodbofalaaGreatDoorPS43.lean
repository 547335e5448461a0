import Derived.Test.YtbgkfmodbofalaaGreatDoorPS41
import Derived.Test.YtbgkfmodbofalaaGreatDoorPS23
import Derived.Test.YtbgkfmodbofalaaGreatDoorPS10
import Derived.Test.YtbgkfmodbofalaaGreatDoorPS36
import Derived.Test.YtbgkfmodbofalaaGreatDoorPS35
import Derived.Test.YtbgkfmodbofalaaGreatDoorPS19
namespace Go.Proofs.YtbgkfmodbofalaaGreatDoor
namespace Ru
def levTo (l : List Ru) (f : Nat → Nat) (i : Nat) : Nat → Nat
  | 0 => 0
  | n + 1 => if needs l i n = true then max (levTo l f i n) (f n + 1) else levTo l f i n
def levF (l : List Ru) : Nat → Nat → Nat
  | 0, _ => 0
  | t + 1, i => levTo l (levF l t) i l.length
def lev (l : List Ru) (i : Nat) : Nat := levF l (l.length + 1) i
theorem levTo_congr {l : List Ru} {f g : Nat → Nat} {i : Nat} : ∀ {n : Nat}, (∀ k, k < n → needs l i k = true → f k = g k) → levTo l f i n = levTo l g i n
  | 0, _ => rfl
  | n + 1, h => by
    unfold levTo
    rw [levTo_congr fun k hk => h k (by omega)]
    split
    · rename_i hn
      rw [h n (by omega) hn]
    · rfl
theorem levTo_le {l : List Ru} {f : Nat → Nat} {i : Nat} : ∀ {n : Nat} {k : Nat}, k < n → needs l i k = true → f k + 1 ≤ levTo l f i n
  | n + 1, k, hk, hn => by
    unfold levTo
    by_cases e : k = n
    · subst e
      rw [if_pos hn]
      exact Nat.le_max_right _ _
    · have := levTo_le (f := f) (n := n) (k := k) (by omega) hn
      split
      · exact Nat.le_trans this (Nat.le_max_left _ _)
      · exact this
theorem levTo_some {l : List Ru} {f : Nat → Nat} {i : Nat} : ∀ {n : Nat}, levTo l f i n ≠ 0 → ∃ k, k < n ∧ needs l i k = true ∧ levTo l f i n = f k + 1
  | 0, h => absurd rfl h
  | n + 1, h => by
    unfold levTo at h ⊢
    by_cases hn : needs l i n = true
    · rw [if_pos hn] at h ⊢
      by_cases hm : levTo l f i n ≤ f n + 1
      · exact ⟨n, by omega, hn, Nat.max_eq_right hm⟩
      · obtain ⟨k, h1, h2, h3⟩ := levTo_some (l := l) (f := f) (i := i) (n := n) (by omega)
        exact ⟨k, by omega, h2, by rw [Nat.max_eq_left (by omega)]; exact h3⟩
    · rw [if_neg hn] at h ⊢
      obtain ⟨k, h1, h2, h3⟩ := levTo_some (l := l) (f := f) (i := i) (n := n) h
      exact ⟨k, by omega, h2, h3⟩
theorem levF_enough {l : List Ru} {rank : Nat → Nat} (hr : ∀ i k, needs l i k = true → rank k < rank i) : ∀ (t t' i : Nat), rank i < t → rank i < t' → levF l t i = levF l t' i
  | 0, _, _, h, _ => by omega
  | _, 0, _, _, h => by omega
  | t + 1, t' + 1, i, h, h' => by
    unfold levF
    refine levTo_congr fun k _ hn => ?_
    have := hr i k hn
    exact levF_enough hr t t' k (by omega) (by omega)
theorem lev_eq {l : List Ru} {rank : Nat → Nat} (hr : ∀ i k, needs l i k = true → rank k < rank i) (hb : ∀ i, rank i ≤ l.length) (i : Nat) : lev l i = levTo l (lev l) i l.length := by
  unfold lev
  conv => lhs; unfold levF
  refine levTo_congr fun k _ hn => ?_
  have h1 := hr i k hn
  have h2 := hb i
  exact levF_enough hr _ _ k (by omega) (by omega)
def deepTo (l : List Ru) : Nat → Nat
  | 0 => 0
  | n + 1 => max (deepTo l n) (lev l n + 1)
def deep (l : List Ru) : Nat := deepTo l l.length
theorem deepTo_le {l : List Ru} : ∀ {n i : Nat}, i < n → lev l i < deepTo l n
  | n + 1, i, h => by
    unfold deepTo
    by_cases e : i = n
    · subst e
      have := Nat.le_max_right (deepTo l i) (lev l i + 1)
      omega
    · have := deepTo_le (l := l) (n := n) (i := i) (by omega)
      have := Nat.le_max_left (deepTo l n) (lev l n + 1)
      omega
theorem deepTo_some {l : List Ru} : ∀ {n : Nat}, deepTo l n ≠ 0 → ∃ i, i < n ∧ deepTo l n = lev l i + 1
  | 0, h => absurd rfl h
  | n + 1, h => by
    unfold deepTo at h ⊢
    by_cases hm : deepTo l n ≤ lev l n + 1
    · exact ⟨n, by omega, Nat.max_eq_right hm⟩
    · obtain ⟨i, h1, h2⟩ := deepTo_some (l := l) (n := n) (by omega)
      exact ⟨i, by omega, by rw [Nat.max_eq_left (by omega)]; exact h2⟩
def levelOf (l : List Ru) (k : Nat) : List Nat := (List.range l.length).filter fun i => lev l i == k
def levels (l : List Ru) : List (List Nat) := (List.range (deep l)).map (levelOf l)
end Ru
end Go.Proofs.YtbgkfmodbofalaaGreatDoor
namespace Go.Proofs.YtbgkfmodbofalaaGreatDoor
namespace Ru
def levL (l : List Ru) (ns : List Nat) : Nat := ns.foldl (fun m k => max m (lev l k + 1)) 0
theorem levL_snoc (l : List Ru) (ns : List Nat) (k : Nat) : levL l (ns ++ [k]) = max (levL l ns) (lev l k + 1) := by simp [levL]
theorem levL_acc (l : List Ru) : ∀ (ns : List Nat) (m : Nat), m ≤ ns.foldl (fun m k => max m (lev l k + 1)) m ∧ (∀ k ∈ ns, lev l k + 1 ≤ ns.foldl (fun m k => max m (lev l k + 1)) m) ∧ (ns.foldl (fun m k => max m (lev l k + 1)) m = m ∨ ∃ k ∈ ns, ns.foldl (fun m k => max m (lev l k + 1)) m = lev l k + 1)
  | [], m => ⟨Nat.le_refl _, fun k hk => by simp at hk, .inl rfl⟩
  | x :: r, m => by
    obtain ⟨h1, h2, h3⟩ := levL_acc l r (max m (lev l x + 1))
    rw [List.foldl_cons]
    refine ⟨by omega, fun k hk => ?_, ?_⟩
    · rcases List.mem_cons.1 hk with rfl | hk
      · omega
      · exact h2 k hk
    · rcases h3 with h3 | ⟨k, hk, e⟩
      · by_cases hm : m ≤ lev l x + 1
        · exact .inr ⟨x, by simp, by rw [h3]; omega⟩
        · exact .inl (by rw [h3]; omega)
      · exact .inr ⟨k, by simp [hk], e⟩
theorem levL_of (l : List Ru) (ns : List Nat) : (∀ k ∈ ns, lev l k + 1 ≤ levL l ns) ∧ (levL l ns ≠ 0 → ∃ k ∈ ns, levL l ns = lev l k + 1) := by
  obtain ⟨-, h2, h3⟩ := levL_acc l ns 0
  exact ⟨h2, fun h => h3.resolve_left h⟩
structure Ordd (l : List Ru) (o : List Nat) : Prop where
  topo : Topo l o
  once : o.Nodup
  lt : ∀ i ∈ o, i < l.length
  all : ∀ i, i < l.length → i ∈ o
theorem Ordd.of {l : List Ru} {o : List Nat} {f : Nat → Bool} (h : order l f = some o) (hf : ∀ i, i < l.length → f i = true) : Ordd l o := by
  obtain ⟨h1, h2⟩ := order_some h
  obtain ⟨h3, h4⟩ := order_nodup h
  exact ⟨h1, h3, h4, fun i hi => h2 i hi (hf i hi)⟩
theorem Ordd.rank {l : List Ru} {o : List Nat} (h : Ordd l o) : ∀ i k, needs l i k = true → o.idxOf k < o.idxOf i := fun i _ hn => (Bf.rank_of h.topo (h.all i (needs_lt hn).1) hn).2
theorem Ordd.len {l : List Ru} {o : List Nat} (h : Ordd l o) : o.length ≤ l.length := by
  have := nodup_sub (b := List.range l.length) h.once fun i hi => List.mem_range.2 (h.lt i hi)
  simpa using this
theorem Ordd.bound {l : List Ru} {o : List Nat} (h : Ordd l o) : ∀ i, o.idxOf i ≤ l.length := fun i => by
  have h1 : o.idxOf i ≤ o.length := List.idxOf_le_length
  have h2 := h.len
  omega
theorem Ordd.lev {l : List Ru} {o : List Nat} (h : Ordd l o) (hA : Apart l) {i : Nat} (hi : i < l.length) : levL l (needL l l[i].ins) = Ru.lev l i := by
  rw [lev_eq h.rank h.bound i]
  obtain ⟨h1, h2⟩ := levL_of l (needL l l[i].ins)
  apply Nat.le_antisymm
  · refine Nat.le_of_not_lt fun hlt => ?_
    obtain ⟨k, hk, e⟩ := h2 (by omega)
    have hn := (needL_mem hA hi k).1 hk
    have := levTo_le (f := Ru.lev l) (needs_lt hn).2 hn
    omega
  · refine Nat.le_of_not_lt fun hlt => ?_
    obtain ⟨k, hk, hn, e⟩ := levTo_some (l := l) (f := Ru.lev l) (i := i) (n := l.length) (by omega)
    have := h1 k ((needL_mem hA hi k).2 hn)
    omega
theorem Ordd.lev_lt {l : List Ru} {o : List Nat} (h : Ordd l o) : ∀ (n i : Nat), o.idxOf i = n → Ru.lev l i ≤ n := by
  intro n
  induction n using Nat.strongRecOn with
  | _ n ih =>
    intro i e
    by_cases h0 : Ru.lev l i = 0
    · omega
    · rw [lev_eq h.rank h.bound i] at h0 ⊢
      obtain ⟨k, hk, hn, e2⟩ := levTo_some (l := l) (f := Ru.lev l) (i := i) (n := l.length) h0
      have h1 := h.rank i k hn
      have h2 := ih (o.idxOf k) (by omega) k rfl
      omega
theorem Ordd.lev_le {l : List Ru} {o : List Nat} (h : Ordd l o) (i : Nat) : Ru.lev l i ≤ l.length := by
  have h1 := h.lev_lt _ i rfl
  have h2 := h.bound i
  omega
def levM (l : List Ru) (o : List Nat) (x : List UInt8) : Option Value := (mkr l x).bind fun i => if i ∈ o then some (Value.int .i64 (Ru.lev l i : Nat)) else none
theorem levM_nil (l : List Ru) (x : List UInt8) : levM l [] x = none := by
  unfold levM
  cases mkr l x <;> simp
theorem levM_snoc {l : List Ru} (hA : Apart l) {o : List Nat} {i : Nat} (hi : i < l.length) (y : List UInt8) : (if y = l[i].out then some (Value.int .i64 (Ru.lev l i : Nat)) else levM l o y) = levM l (o ++ [i]) y := by
  unfold levM
  by_cases e : y = l[i].out
  · subst e
    rw [if_pos rfl, mkr_eq hA hi]
    simp
  · rw [if_neg e]
    cases hm : mkr l y with
    | none => rfl
    | some j =>
      have hj : j ≠ i := fun e2 => by
        subst e2
        obtain ⟨_, h1, _⟩ := mkr_some hm
        exact e h1.symm
      simp [hj]
theorem levM_in {l : List Ru} {o : List Nat} (h : Topo l o) {k : Nat} (hk : k < o.length) (hi : o[k] < l.length) {s : List UInt8} (hs : s ∈ l[o[k]].ins) : levM l (o.take k) s = (mkr l s).map fun j => Value.int .i64 (Ru.lev l j : Nat) := by
  unfold levM
  cases hm : mkr l s with
  | none => rfl
  | some j =>
    obtain ⟨hj, e, _⟩ := mkr_some hm
    have hn : needs l o[k] j = true := by
      rw [needs_eq hi hj]
      simpa [e] using hs
    have := h k hk j hn
    simp [this]
theorem levM_all {l : List Ru} {o : List Nat} (h : Ordd l o) (x : List UInt8) : levM l o x = (mkr l x).map fun j => Value.int .i64 (Ru.lev l j : Nat) := by
  unfold levM
  cases hm : mkr l x with
  | none => rfl
  | some j =>
    obtain ⟨hj, _⟩ := mkr_some hm
    simp [h.all j hj]
def lvTo (l : List Ru) (k j : Nat) : List Nat := (List.range k).filter fun i => Ru.lev l i == j
theorem lvTo_same (l : List Ru) (k : Nat) : lvTo l (k + 1) (Ru.lev l k) = lvTo l k (Ru.lev l k) ++ [k] := by
  unfold lvTo
  rw [List.range_succ, List.filter_append]
  simp
theorem lvTo_other {l : List Ru} {k j : Nat} (h : j ≠ Ru.lev l k) : lvTo l (k + 1) j = lvTo l k j := by
  unfold lvTo
  rw [List.range_succ, List.filter_append]
  simp [Ne.symm h]
theorem lvTo_none {l : List Ru} {k j : Nat} (h : deepTo l k ≤ j) : lvTo l k j = [] := by
  unfold lvTo
  rw [List.filter_eq_nil_iff]
  intro i hi
  have := deepTo_le (l := l) (List.mem_range.1 hi)
  simp
  omega
theorem lvTo_len (l : List Ru) (k j : Nat) : (lvTo l k j).length ≤ k := by
  unfold lvTo
  have := List.length_filter_le (fun i => Ru.lev l i == j) (List.range k)
  simpa using this
end Ru
end Go.Proofs.YtbgkfmodbofalaaGreatDoor
namespace Go.Proofs.YtbgkfmodbofalaaGreatDoor
open Go.RowKit Go.Shelf Go.Lib Go.Maps
theorem VMap.look0 {W : World} {b : Nat} {fd : List UInt8 → Option Value} (h : VMap W b fd) {t e : TypeId} (ht : Tryz.prog.underlying t = some (.map 9 e)) {z : Value} (hz : (zeroValue e).run Tryz.prog W = .ok z W) (x : List UInt8) (hx : x.length ≤ 1000000) :
    (Instr.lookup t (.map (some b)) (.string (ba x)) false).run Tryz.prog W = .ok ((fd x).getD z) W := by
  obtain ⟨D, K, h1, h2, h3, h4, h5, h6⟩ := h
  obtain ⟨v, ps, hrun, hv⟩ := h1.lookup (t := t) (e := e) claw ht (z := z) hz (zd := .held z) (zp := []) rfl (ckey x hx)
  have hv' : (DataW.held v : DataW Value) = D.atKey (.string x) (.held z) := by
    have : vElem v = some (.held v, []) := rfl
    rw [this] at hv
    simpa using congrArg (fun o => o.map Prod.fst) hv
  rw [hrun]
  have : v = (fd x).getD z := by
    cases hf : fd x with
    | some u =>
      rw [h6 x u _ hf] at hv'
      injection hv'
    | none =>
      have hh : has D (.string x) = false := by rw [h4, hf]; rfl
      rw [atKey_of_not_has hh] at hv'
      injection hv'
  rw [this]
set_option maxRecDepth 100000 in
set_option maxHeartbeats 16000000 in
theorem pLevelsOf_calls {w : World} (vl : Value) (l : List Ru) (hrow : RRow w vl l) (hl : l.length ≤ 40) (hS : ∀ x ∈ l, x.Small) (hA : Ru.Apart l) (vo : Value) (o : List Nat) (hO : Ru.Ordd l o) (hor : NIRow w vo o) :
    Calls Tryz.prog 146 #[vl, vo] w fun e w' => e = .returned (.map (some w.heap.size)) ∧ Below w.heap.size w w' ∧ VMap w' w.heap.size (fun x => (Ru.mkr l x).map fun j => Value.int .i64 (Ru.lev l j : Nat)) := by
  obtain ⟨pr, cap, rfl, hcap, hnn, hin⟩ := hrow
  obtain ⟨po, co, rfl, hoin⟩ := hor
  have HI := hid1 hin
  have HOI := hid1 hoin
  have HO := hid1 hO
  have HA := hid1 hA
  have HSm := hid1 hS
  have hol := hO.len
  have zo : (o.length : Int) ≤ 40 := by omega
  have zl : (l.length : Int) ≤ 40 := by omega
  have hmm := @run_makeMap Tryz.prog
  have HV0 := hid1 (VMap.made w)
  clear hin hoin hO hA hS hnn
  go_enter Tryz.func146, Tryz.ntmps146
  go_wp2
  go_loopw [16] (fun iv wr => ∃ k : Nat, k ≤ o.length ∧ iv = .int .i64 k ∧ VMap wr w.heap.size (Ru.levM l (o.take k)) ∧ Below w.heap.size w wr) (fun iv _ => o.length - (intOf iv).toNat)
  case atStart => exact ⟨0, Nat.zero_le _, rfl, HV0.out.congr fun x => by rw [List.take_zero]; exact Ru.levM_nil l x, (Below.refl _ w).alloc (Nat.le_refl _) _⟩
  case round =>
    clear HV0
    obtain ⟨k, hk, rfl, hV, hB⟩ := hrel
    have HV := hid1 hV
    have HB := hid1 hB
    clear hV
    have k0 : (0 : Int) ≤ (k : Int) := by omega
    by_cases hlt : k < o.length
    · have k1 : (k : Int) < (o.length : Int) := by omega
      obtain ⟨g1, o1, rfl, hg1, hc1⟩ := HOI.out (by intro e; rw [e] at hlt; simp at hlt)
      have d0 := cell_below' (hc1 k hlt) hB
      have hi : o[k] < l.length := HO.out.lt _ (List.getElem_mem hlt)
      obtain ⟨g2, o2, rfl, hg2, hc2⟩ := HI.out (by intro e; rw [e] at hi; simp at hi)
      obtain ⟨b0, b1, b2, ui, b3, bx⟩ := hc2 o[k] hi
      have e0 := cell_below' b0 hB
      have e3 := cell_below' b3 hB
      obtain ⟨p3, c3, rfl, hcap3, -, hin3⟩ := bx
      have HI3 := hid1 hin3
      have h12 := (HSm.out _ (List.getElem_mem hi)).many
      have z12 : (l[o[k]].ins.length : Int) ≤ 12 := by omega
      have HIn := hid1 fun (s : List UInt8) (hs : s ∈ l[o[k]].ins) => Ru.levM_in HO.out.topo hlt hi hs
      have HLv := hid1 (HO.out.lev HA.out hi)
      have HNx := hid1 fun y => Ru.levM_snoc HA.out (o := o.take k) hi y
      have HTk : Hid (o.take (k + 1) = o.take k ++ [o[k]]) := hid1 (List.take_succ_eq_append_getElem hlt)
      have hout := (HSm.out _ (List.getElem_mem hi)).out
      have HKs : Hid (∀ x, (Ru.levM l (o.take k) x).isSome = true → x ∈ l.map Ru.out) := hid1 fun x hx => by
        unfold Ru.levM at hx
        cases hm : Ru.mkr l x with
        | none => rw [hm] at hx; cases hx
        | some j =>
          obtain ⟨hj, e, _⟩ := Ru.mkr_some hm
          exact List.mem_map.2 ⟨l[j], List.getElem_mem hj, e⟩
      have HIl := hid1 fun (s : List UInt8) (hs : s ∈ l[o[k]].ins) => (HSm.out _ (List.getElem_mem hi)).ins s hs
      have hlj : Ru.lev l o[k] ≤ 40 := Nat.le_trans (HO.out.lev_le _) hl
      have HLe := hid1 fun j => Nat.le_trans (HO.out.lev_le j) hl
      clear hc1 hc2 b0 b1 b2 b3 hin3 HI HOI HSm hB
      generalize hik : o[k] = i at *
      have i0 : (0 : Int) ≤ (i : Int) := by omega
      have i1 : (i : Int) < (l.length : Int) := by omega
      generalize hy : l[i] = y at *
      clear hy hik
      go_wp2
      go_loopw [8, 26] (fun ow mv wx => ∃ m : Nat, m ≤ y.ins.length ∧ mv = .int .i64 m ∧ ow = .int .i64 (Ru.levL l (Ru.needL l (y.ins.take m)) : Nat) ∧ Ru.levL l (Ru.needL l (y.ins.take m)) ≤ 41 ∧ wr = wx) (fun _ mv _ => y.ins.length - (intOf mv).toNat)
      case atStart => exact ⟨0, Nat.zero_le _, rfl, rfl, by simp [Ru.needL, Ru.levL], rfl⟩
      case round =>
        obtain ⟨m, hm, rfl, rfl, hm41, rfl⟩ := hrel
        have m0 : (0 : Int) ≤ (m : Int) := by omega
        by_cases hmlt : m < y.ins.length
        · have m1 : (m : Int) < (y.ins.length : Int) := by omega
          obtain ⟨g3, o3, rfl, hg3, hc3⟩ := HI3.out (by intro e; rw [e] at hmlt; simp at hmlt)
          have f3 := (HB.out.cell (p := ⟨g3, o3 + m, none⟩) hg3).trans (hc3 m hmlt)
          have HS := hid1 (Ru.needL_succ l hmlt)
          have hil := HIl.out _ (List.getElem_mem hmlt)
          have hlk := HV.out.look Tryz.underlying183 (Tryz.zeroValue3 wr) y.ins[m] (by omega)
          rw [HIn.out _ (List.getElem_mem hmlt)] at hlk
          clear hc3 HI3 e0 e3
          generalize y.ins[m] = s at *
          cases hmk : Ru.mkr l s with
          | none =>
            rw [hmk] at hlk HS
            simp only [Option.map_none, Option.getD_none, Option.isSome_none, Option.toList_none, List.append_nil] at hlk HS
            clear hmk
            go_wp2
            exact ⟨⟨m + 1, by omega, by go_num, by rw [HS.out], by rw [HS.out]; exact hm41, trivial⟩, by simp [intOf]; omega⟩
          | some j =>
            rw [hmk] at hlk HS
            simp only [Option.map_some, Option.getD_some, Option.isSome_some, Option.toList_some] at hlk HS
            have hlj' := HLe.out j
            have HM : Hid (Ru.levL l (Ru.needL l (y.ins.take (m + 1))) = max (Ru.levL l (Ru.needL l (y.ins.take m))) (Ru.lev l j + 1)) := hid1 (by rw [HS.out, Ru.levL_snoc])
            clear hmk HS
            generalize Ru.levL l (Ru.needL l (y.ins.take m)) = a at *
            generalize Ru.lev l j = c at *
            have za : (a : Int) ≤ 41 := by omega
            have zc : (c : Int) ≤ 40 := by omega
            have za0 : (0 : Int) ≤ (a : Int) := by omega
            have zc0 : (0 : Int) ≤ (c : Int) := by omega
            by_cases hac : a < c + 1
            · have z1 : (a : Int) < (c : Int) + 1 := by omega
              have e : max a (c + 1) = c + 1 := by omega
              rw [e] at HM
              go_wp2
              exact ⟨⟨m + 1, by omega, by go_num, by rw [HM.out]; go_num, by rw [HM.out]; omega, trivial⟩, by simp [intOf]; omega⟩
            · have z1 : (c : Int) + 1 ≤ (a : Int) := by omega
              have e : max a (c + 1) = a := by omega
              rw [e] at HM
              go_wp2
              exact ⟨⟨m + 1, by omega, by go_num, by rw [HM.out]; simp only [Value.int.injEq, true_and]; omega, by rw [HM.out]; omega, trivial⟩, by simp [intOf]; omega⟩
        · have m1 : (y.ins.length : Int) ≤ (m : Int) := by omega
          obtain rfl : m = y.ins.length := by omega
          rw [List.take_length, HLv.out] at hm41 ⊢
          obtain ⟨w1, hup, hV1, hT1⟩ := HV.out.laid Tryz.underlying183 (l.map Ru.out) HKs.out (by simp; omega) y.out (by omega) (.int .i64 (Ru.lev l i : Nat))
          have hbl := HV.out.lt
          have HQ : Hid (VMap w1 w.heap.size (Ru.levM l (o.take (k + 1))) ∧ Below w.heap.size w w1) := hid1 ⟨hV1.congr fun x => by rw [HTk.out, ← HNx.out x], below_turned HB.out HB.out.size (Nat.le_refl _) hT1⟩
          clear hV1 hT1 HI3 HV HB HIn
          go_wp2
          exact ⟨⟨k + 1, by omega, by go_num, HQ.out.1, HQ.out.2⟩, by simp [intOf]; omega⟩
    · have k1 : (o.length : Int) ≤ (k : Int) := by omega
      obtain rfl : k = o.length := by omega
      have HQ : Hid (VMap wr w.heap.size (fun x => (Ru.mkr l x).map fun j => Value.int .i64 (Ru.lev l j : Nat))) := hid1 (HV.out.congr fun x => by rw [List.take_length, Ru.levM_all HO.out])
      clear HI HOI HV
      go_wp2
      go_ret
      exact ⟨rfl, hB, HQ.out⟩
end Go.Proofs.YtbgkfmodbofalaaGreatDoor
