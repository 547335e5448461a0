import Derived.Test.YtbgkfmodbofalaaGreatDoorPL39
import Derived.Test.YtbgkfmodbofalaaGreatDoorPL08
import Derived.Test.YtbgkfmodbofalaaGreatDoorPL36
import Derived.Deep.LoopGhost
import Derived.Deep.AppendLies
import Derived.Test.YtbgkfmodbofalaaGreatDoorPL03
import Derived.Test.YtbgkfmodbofalaaGreatDoorPL21
import Derived.Test.YtbgkfmodbofalaaGreatDoorPL35
namespace Go.Proofs.YtbgkfmodbofalaaGreatDoor
namespace Bf
theorem Going.lefts {fs : Tf.Fs} {l : List Ru} {o : List Nat} (hs : Sheet fs l o) {d d' : Bd} {c c' : Ca} (h : Going fs l o d c) (hw : d.waits = 0) (h' : Going fs l o d' c') (hw' : d'.waits = 0) (k : Nat) : (d.st k).isLeft = (d'.st k).isLeft := by
  have hend : ∀ {d : Bd} {c : Ca}, Going fs l o d c → d.waits = 0 → ∀ k, k < l.length → (d.st k).isBad = !(d.st k).isDone := fun {d c} h hw k hk => by
    have := (h.good.ends hw (k := k) (by rw [h.hl]; exact hk)).1
    cases hst : d.st k with
    | no => rw [hst] at this; simp [St.isDone, St.isFailed, St.isLeft] at this
    | waits => rw [hst] at this; simp [St.isDone, St.isFailed, St.isLeft] at this
    | done s b => rfl
    | failed c => rfl
    | left => rfl
  have hbad : ∀ k, k < l.length → (d.st k).isBad = (d'.st k).isBad := fun k hk => by
    rw [hend h hw k hk, hend h' hw' k hk, (h.result hs hw hk).2, (h'.result hs hw' hk).2]
  have himp : ∀ {d d' : Bd} {c c' : Ca}, Going fs l o d c → Going fs l o d' c' → (∀ k, k < l.length → (d.st k).isBad = (d'.st k).isBad) → ∀ k, (d.st k).isLeft = true → (d'.st k).isLeft = true := fun {d d' c c'} h h' hb k hl => by
    obtain ⟨j, hn, hj⟩ := h.good.left k hl
    rw [h.hl] at hn
    refine h'.good.bad k j (by rw [h'.hl]; exact hn) ?_
    rw [← hb j (Ru.needs_lt hn).2]
    exact hj
  rw [Bool.eq_iff_iff]
  exact ⟨himp h h' hbad k, himp h' h (fun k hk => (hbad k hk).symm) k⟩
theorem Going.bads {fs : Tf.Fs} {l : List Ru} {o : List Nat} (hs : Sheet fs l o) {d d' : Bd} {c c' : Ca} (h : Going fs l o d c) (hw : d.waits = 0) (h' : Going fs l o d' c') (hw' : d'.waits = 0) : d.fails = d'.fails ∧ d.lefts = d'.lefts := by
  have hend : ∀ {d : Bd} {c : Ca}, Going fs l o d c → d.waits = 0 → ∀ k, k < l.length → ((d.st k).isBad = !(d.st k).isDone) ∧ ((d.st k).isFailed = ((d.st k).isBad && !(d.st k).isLeft)) := fun {d c} h hw k hk => by
    have := (h.good.ends hw (k := k) (by rw [h.hl]; exact hk)).1
    cases hst : d.st k with
    | no => rw [hst] at this; simp [St.isDone, St.isFailed, St.isLeft] at this
    | waits => rw [hst] at this; simp [St.isDone, St.isFailed, St.isLeft] at this
    | done s b => exact ⟨rfl, rfl⟩
    | failed c => exact ⟨rfl, rfl⟩
    | left => exact ⟨rfl, rfl⟩
  have hbad : ∀ k, k < l.length → (d.st k).isBad = (d'.st k).isBad := fun k hk => by
    rw [(hend h hw k hk).1, (hend h' hw' k hk).1, (h.result hs hw hk).2, (h'.result hs hw' hk).2]
  have himp : ∀ {d d' : Bd} {c c' : Ca}, Going fs l o d c → Going fs l o d' c' → (∀ k, k < l.length → (d.st k).isBad = (d'.st k).isBad) → ∀ k, (d.st k).isLeft = true → (d'.st k).isLeft = true := fun {d d' c c'} h h' hb k hl => by
    obtain ⟨j, hn, hj⟩ := h.good.left k hl
    rw [h.hl] at hn
    refine h'.good.bad k j (by rw [h'.hl]; exact hn) ?_
    rw [← hb j (Ru.needs_lt hn).2]
    exact hj
  have hleft : ∀ k, (d.st k).isLeft = (d'.st k).isLeft := fun k => by
    rw [Bool.eq_iff_iff]
    exact ⟨himp h h' hbad k, himp h' h (fun k hk => (hbad k hk).symm) k⟩
  unfold Bd.fails Bd.lefts
  rw [h.hl, h'.hl]
  refine ⟨many_congr fun k hk => ?_, many_congr fun k _ => hleft k⟩
  rw [(hend h hw k hk).2, (hend h' hw' k hk).2, hbad k hk, hleft k]
end Bf
end Go.Proofs.YtbgkfmodbofalaaGreatDoor
namespace Go.Proofs.YtbgkfmodbofalaaGreatDoor
namespace Bf
noncomputable def allL (act : Act) : Nat → Ca → Bd → List Nat
  | 0, _, _ => []
  | f + 1, c, d =>
    match d.ready with
    | [] => []
    | i :: _ => i :: allL act f (go act c d i).c (go act c d i).d
theorem allL_enough (act : Act) : ∀ (f f' : Nat) (c : Ca) (d : Bd), d.waits < f → d.waits < f' → allL act f c d = allL act f' c d
  | 0, _, _, _, h, _ => by omega
  | _, 0, _, _, _, h => by omega
  | f + 1, f' + 1, c, d, h, h' => by
    unfold allL
    cases hr : d.ready with
    | nil => rfl
    | cons i r =>
      have hm := mem_ready.1 (show i ∈ d.ready by rw [hr]; simp)
      have := (go_less act c d i hm.1 hm.2).1
      simp only
      rw [allL_enough act f f' _ _ (by omega) (by omega)]
theorem allL_nil (act : Act) (c : Ca) (d : Bd) (h : d.ready = []) : allL act (d.waits + 1) c d = [] := by
  unfold allL
  rw [h]
theorem allL_cons (act : Act) (c : Ca) (d : Bd) {i : Nat} {r : List Nat} (h : d.ready = i :: r) : allL act (d.waits + 1) c d = i :: allL act ((go act c d i).d.waits + 1) (go act c d i).c (go act c d i).d := by
  have hm := mem_ready.1 (show i ∈ d.ready by rw [h]; simp)
  have := (go_less act c d i hm.1 hm.2).1
  conv => lhs; unfold allL
  rw [h]
  simp only
  rw [allL_enough act d.waits ((go act c d i).d.waits + 1) _ _ (by omega) (by omega)]
end Bf
end Go.Proofs.YtbgkfmodbofalaaGreatDoor
namespace Go.Proofs.YtbgkfmodbofalaaGreatDoor
namespace Bf
def pickAt (p : Int) (n : Nat) : Nat := if p < -9223372036854775807 then 0 else p.natAbs % n
theorem pickAt_lt {p : Int} {n : Nat} (h : 0 < n) : pickAt p n < n := by
  unfold pickAt
  split
  · exact h
  · exact Nat.mod_lt _ h
structure Pk where
  d : Bd
  c : Ca
  xs : List Nat
noncomputable def pstep (act : Act) (s : Pk) (p : Int) : Pk :=
  if s.d.ready = [] then s else
    let k := s.d.ready.getD (pickAt p s.d.ready.length) 0
    ⟨(go act s.c s.d k).d, (go act s.c s.d k).c, s.xs ++ [k]⟩
noncomputable def picks (act : Act) (c : Ca) (d : Bd) (ps : List Int) : Pk := ps.foldl (pstep act) ⟨d, c, []⟩
theorem pstep_none {act : Act} {s : Pk} {p : Int} (h : s.d.ready = []) : pstep act s p = s := by unfold pstep; rw [if_pos h]
theorem pstep_some {act : Act} {s : Pk} {p : Int} (h : s.d.ready ≠ []) (hk : pickAt p s.d.ready.length < s.d.ready.length) : pstep act s p = ⟨(go act s.c s.d s.d.ready[pickAt p s.d.ready.length]).d, (go act s.c s.d s.d.ready[pickAt p s.d.ready.length]).c, s.xs ++ [s.d.ready[pickAt p s.d.ready.length]]⟩ := by
  unfold pstep
  have e : s.d.ready.getD (pickAt p s.d.ready.length) 0 = s.d.ready[pickAt p s.d.ready.length] := by
    rw [List.getD_eq_getElem?_getD, List.getElem?_eq_getElem hk]
    rfl
  rw [if_neg h, e]
noncomputable def pickRun (act : Act) (c : Ca) (d : Bd) (ps : List Int) : Pk :=
  let s := picks act c d ps
  ⟨(all act s.c s.d).1, (all act s.c s.d).2, s.xs ++ allL act (s.d.waits + 1) s.c s.d⟩
structure Ran (d : Bd) (xs : List Nat) : Prop where
  once : xs.Nodup
  iff : ∀ k, k ∈ xs ↔ (d.st k).ran = true
  lt : ∀ k ∈ xs, k < d.l.length
theorem Ran.go {act : Act} {c : Ca} {d : Bd} {xs : List Nat} (h : Ran d xs) {k : Nat} (hk : k < d.l.length) (hr : d.isReady k = true) : Ran (go act c d k).d (xs ++ [k]) := by
  have hw := ready_waits hr
  have hn : k ∉ xs := fun e => by
    have := (h.iff k).1 e
    rw [hw] at this
    cases this
  obtain ⟨e1, -⟩ := go_same act c d k
  refine ⟨List.nodup_append.2 ⟨h.once, by simp, fun a ha b hb => ?_⟩, fun j => ?_, fun j hj => ?_⟩
  · obtain rfl := List.mem_singleton.1 hb
    exact fun e => hn (e ▸ ha)
  · rw [go_ran act c d hr, List.mem_append, List.mem_singleton, h.iff]
    by_cases e : j = k <;> simp [e]
  · rw [e1]
    rcases List.mem_append.1 hj with h1 | h1
    · exact h.lt j h1
    · rw [List.mem_singleton.1 h1]; exact hk
theorem Going.go {fs : Tf.Fs} {l : List Ru} {o : List Nat} (hs : Sheet fs l o) {d : Bd} {c : Ca} (h : Going fs l o d c) {k : Nat} (hk : k < d.l.length) (hr : d.isReady k = true) : Going fs l o (Bf.go Af.actO c d k).d (Bf.go Af.actO c d k).c := by
  have := h.run hs (k : Int)
  rwa [run_ready _ _ _ _ hk hr] at this
structure PkOk (fs : Tf.Fs) (l : List Ru) (o : List Nat) (s : Pk) : Prop where
  going : Going fs l o s.d s.c
  ran : Ran s.d s.xs
  bare : s.c = none
  fresh : Fresh s.d
theorem PkOk.step {fs : Tf.Fs} {l : List Ru} {o : List Nat} (hs : Sheet fs l o) {s : Pk} (h : PkOk fs l o s) (p : Int) : PkOk fs l o (pstep Af.actO s p) := by
  by_cases hr : s.d.ready = []
  · rw [pstep_none hr]; exact h
  · have hk := pickAt_lt (p := p) (List.length_pos_iff.2 hr)
    rw [pstep_some hr hk]
    have hm := mem_ready.1 (List.getElem_mem hk)
    have hf := h.bare
    have hg := go_fresh (act := Af.actO) h.fresh s.d.ready[pickAt p s.d.ready.length]
    refine ⟨h.going.go hs hm.1 hm.2, h.ran.go hm.1 hm.2, ?_, ?_⟩
    · rw [hf]; exact hg.2
    · rw [hf]; exact hg.1
theorem PkOk.picks {fs : Tf.Fs} {l : List Ru} {o : List Nat} (hs : Sheet fs l o) : ∀ (ps : List Int) {s : Pk}, PkOk fs l o s → PkOk fs l o (ps.foldl (pstep Af.actO) s)
  | [], _, h => h
  | p :: r, _, h => PkOk.picks hs r (h.step hs p)
theorem PkOk.init {fs : Tf.Fs} {l : List Ru} {o : List Nat} (hs : Sheet fs l o) (hf : ∀ f ∈ fs, f.2.length ≤ 2000) : PkOk fs l o ⟨Bf.init fs l (l.map Ru.out), none, []⟩ := by
  refine ⟨Going.init hs hf trivial trivial, ⟨List.nodup_nil, fun k => ?_, fun k hk => by simp at hk⟩, rfl, fun k s b e => absurd e (init_waits k s b)⟩
  show k ∈ [] ↔ ((Bf.init fs l (l.map Ru.out)).st k).ran = true
  rw [init_all]
  split <;> simp [St.ran, St.isDone, St.isFailed]
theorem PkOk.same {fs : Tf.Fs} {l : List Ru} {o : List Nat} (hs : Sheet fs l o) {s t : Pk} (h : PkOk fs l o s) (hw : s.d.waits = 0) (h' : PkOk fs l o t) (hw' : t.d.waits = 0) :
    s.xs.length = t.xs.length ∧ (∀ k, k ∈ s.xs ↔ k ∈ t.xs) ∧ (s.d.ran = t.d.ran ∧ s.d.hits = t.d.hits ∧ s.d.fails = t.d.fails ∧ s.d.lefts = t.d.lefts) ∧ ∀ k, k < l.length → (s.d.st k).out = (t.d.st k).out ∧ (s.d.st k).isDone = (t.d.st k).isDone ∧ (s.d.st k).name = (t.d.st k).name := by
  have hl := h.going.lefts hs hw h'.going hw'
  have key : ∀ {s t : Pk}, PkOk fs l o s → s.d.waits = 0 → PkOk fs l o t → t.d.waits = 0 → (∀ k, (s.d.st k).isLeft = (t.d.st k).isLeft) → ∀ k, k ∈ s.xs → k ∈ t.xs := fun {s t} h hw h' hw' hl k hk => by
    have hlt := h.ran.lt k hk
    have hr := (h.ran.iff k).1 hk
    rw [(h.going.good.ends hw hlt).2, hl k] at hr
    have hlt' : k < t.d.l.length := by rw [h'.going.hl, ← h.going.hl]; exact hlt
    rw [h'.ran.iff, (h'.going.good.ends hw' hlt').2]
    exact hr
  have k1 := key h hw h' hw' hl
  have k2 := key h' hw' h hw fun k => (hl k).symm
  have hd := h.going.dones hs hw h'.going hw'
  have hb := h.going.bads hs hw h'.going hw'
  have f1 := fresh_hits h.fresh
  have f2 := fresh_hits h'.fresh
  refine ⟨Nat.le_antisymm (Cf.nodup_len h.ran.once k1) (Cf.nodup_len h'.ran.once k2), fun k => ⟨k1 k, k2 k⟩, ⟨by omega, by omega, hb.1, hb.2⟩, fun k hk => ?_⟩
  have r1 := h.going.result hs hw hk
  have r2 := h'.going.result hs hw' hk
  refine ⟨r1.1.trans r2.1.symm, r1.2.trans r2.2.symm, ?_⟩
  have e1 := (h.going.good.ends hw (k := k) (by rw [h.going.hl]; exact hk)).1
  have e2 := (h'.going.good.ends hw' (k := k) (by rw [h'.going.hl]; exact hk)).1
  have hD : (s.d.st k).isDone = (t.d.st k).isDone := r1.2.trans r2.2.symm
  have hL := hl k
  cases h1 : s.d.st k <;> cases h2 : t.d.st k <;> rw [h1] at e1 hD hL <;> rw [h2] at e2 hD hL <;> simp [St.isDone, St.isFailed, St.isLeft] at e1 e2 hD hL <;> rfl
end Bf
end Go.Proofs.YtbgkfmodbofalaaGreatDoor
namespace Go.Proofs.YtbgkfmodbofalaaGreatDoor
namespace Bf
noncomputable def fin (act : Act) (s : Pk) (ps : List Int) : Pk :=
  let t := ps.foldl (pstep act) s
  ⟨(all act t.c t.d).1, (all act t.c t.d).2, t.xs ++ allL act (t.d.waits + 1) t.c t.d⟩
theorem pickRun_fin (act : Act) (c : Ca) (d : Bd) (ps : List Int) : pickRun act c d ps = fin act ⟨d, c, []⟩ ps := rfl
theorem fin_cons (act : Act) (s : Pk) (p : Int) (ps : List Int) : fin act s (p :: ps) = fin act (pstep act s p) ps := rfl
theorem fold_none {act : Act} {s : Pk} (h : s.d.ready = []) : ∀ ps : List Int, ps.foldl (pstep act) s = s
  | [] => rfl
  | p :: r => by rw [List.foldl_cons, pstep_none h]; exact fold_none h r
theorem fin_none {act : Act} {s : Pk} (h : s.d.ready = []) (ps : List Int) : fin act s ps = s := by
  unfold fin
  simp only
  rw [fold_none h, all_nil act s.c s.d h, allL_nil act s.c s.d h, List.append_nil]
theorem pickAt_zero (n : Nat) : pickAt 0 n = 0 := by unfold pickAt; simp
theorem fin_nil {act : Act} {s : Pk} (h : s.d.ready ≠ []) : fin act s [] = fin act (pstep act s 0) [] := by
  obtain ⟨i, r, hr⟩ := List.exists_cons_of_ne_nil h
  have e : pstep act s 0 = ⟨(go act s.c s.d i).d, (go act s.c s.d i).c, s.xs ++ [i]⟩ := by
    unfold pstep
    rw [if_neg h, pickAt_zero, hr]
    rfl
  rw [e]
  unfold fin
  simp only [List.foldl_nil]
  rw [all_cons act s.c s.d hr, allL_cons act s.c s.d hr, List.append_assoc]
  rfl
def turn (ps : List Int) (j : Nat) : Int := ps.getD j 0
theorem fin_turn {act : Act} {s : Pk} (h : s.d.ready ≠ []) (ps : List Int) (j : Nat) : fin act s (ps.drop j) = fin act (pstep act s (turn ps j)) (ps.drop (j + 1)) := by
  unfold turn
  by_cases hj : j < ps.length
  · rw [List.drop_eq_getElem_cons hj, fin_cons, List.getD_eq_getElem?_getD, List.getElem?_eq_getElem hj]
    rfl
  · rw [List.drop_eq_nil_of_le (by omega), List.drop_eq_nil_of_le (by omega), List.getD_eq_getElem?_getD, List.getElem?_eq_none (by omega)]
    exact fin_nil h
end Bf
end Go.Proofs.YtbgkfmodbofalaaGreatDoor
namespace Go.Proofs.YtbgkfmodbofalaaGreatDoor
open Go.RowKit Go.Shelf Go.Lib
structure MFit (d : Bf.Bd) : Prop where
  few : d.l.length ≤ 40
  small : ∀ x ∈ d.l, x.Small
  apart : ∀ i j (hi : i < d.l.length) (hj : j < d.l.length), d.l[i].out = d.l[j].out → i = j
  rises : Tf.Rises d.fs
  files : d.fs.length ≤ 1000
  fit : Bf.Fit d
theorem MFit.same {d d' : Bf.Bd} (h : MFit d) (hl : d'.l = d.l) (hf : d'.fs = d.fs) (hF : Bf.Fit d') : MFit d' := by
  obtain ⟨fs', l', st'⟩ := d'
  obtain rfl : l' = d.l := hl
  obtain rfl : fs' = d.fs := hf
  exact ⟨h.few, h.small, h.apart, h.rises, h.files, hF⟩
theorem ownsRow_keep {S : Nat → Prop} {w w' : World} {B : Nat} {e : TypeId} {s n : Nat} {v : Value} {xs : List Value} (h : w.ownsRow B e s v n xs) (o : Only S w w') (hn : ∀ j, some j = v.ownBlock → ¬ S j) : w'.ownsRow B e s v n xs := by
  refine ⟨h.1, ?_⟩
  rcases h.2 with h1 | ⟨g, cap, cur, e1, h0, hg, h2⟩
  · exact .inl h1
  · exact .inr ⟨g, cap, cur, e1, h0, (o.block g (Array.getElem?_eq_some_iff.1 hg).1 (hn g (by rw [e1]; rfl))).trans hg, h2⟩
end Go.Proofs.YtbgkfmodbofalaaGreatDoor
namespace Go.Proofs.YtbgkfmodbofalaaGreatDoor
open Go.RowKit Go.Shelf Go.Lib
theorem Bf.pickAt_size (p : Int) (n : Nat) : Bf.pickAt p n = Bf.size p % n := by
  unfold Bf.pickAt Bf.size
  split
  · simp
  · rfl
theorem Bf.size_le {p : Int} (h0 : -9223372036854775808 ≤ p) (h1 : p ≤ 9223372036854775807) : Bf.size p ≤ 9223372036854775807 := by
  unfold Bf.size
  split <;> omega
theorem Bf.turn_mem (ps : List Int) (j : Nat) : Bf.turn ps j = 0 ∨ Bf.turn ps j ∈ ps := by
  unfold Bf.turn
  by_cases hj : j < ps.length
  · right
    rw [List.getD_eq_getElem?_getD, List.getElem?_eq_getElem hj]
    exact List.getElem_mem hj
  · left
    rw [List.getD_eq_getElem?_getD, List.getElem?_eq_none (by omega)]
    rfl
set_option maxRecDepth 100000 in
set_option maxHeartbeats 4000000 in
theorem pAt_calls {w : World} (v : Value) (ps : List Int) (hZ : ZRow w v ps) (hps : ∀ x ∈ ps, -9223372036854775808 ≤ x ∧ x ≤ 9223372036854775807) (_hl : ps.length ≤ 1000) (j : Nat) (_hj : j ≤ 1000) : Calls Tryz.prog 147 #[v, .int .i64 j] w fun e w' => e = .returned (.int .i64 (Bf.size (Bf.turn ps j) : Nat)) ∧ w' = w := by
  obtain ⟨p, cap, rfl, hin⟩ := hZ
  have j0 : (0 : Int) ≤ (j : Int) := by omega
  by_cases hlt : j < ps.length
  · obtain ⟨g, o, rfl, hg, hc⟩ := hin (by intro e; rw [e] at hlt; simp at hlt)
    have d0 := hc j hlt
    have e : Bf.turn ps j = ps[j] := by
      unfold Bf.turn
      rw [List.getD_eq_getElem?_getD, List.getElem?_eq_getElem hlt]
      rfl
    rw [e]
    have hb := hps _ (List.getElem_mem hlt)
    have HS := hid1 fun V => pSize_calls ps[j] hb.1 hb.2 V
    have j1 : (j : Int) < (ps.length : Int) := by omega
    clear hc hin hps e
    generalize ps[j] = y at *
    go_enter Tryz.func147, Tryz.ntmps147
    go_wp2_with fail
    refine (HS.out _).mono ?_
    rintro e w1 ⟨rfl, rfl⟩
    go_wp2
    go_ret
    exact ⟨rfl, rfl⟩
  · have e : Bf.turn ps j = 0 := by
      unfold Bf.turn
      rw [List.getD_eq_getElem?_getD, List.getElem?_eq_none (by omega)]
      rfl
    rw [e]
    have j1 : (ps.length : Int) ≤ (j : Int) := by omega
    clear hin hps e
    go_enter Tryz.func147, Tryz.ntmps147
    go_wp2
    go_ret
    exact ⟨rfl, rfl⟩
structure PkS (act : Bf.Act) (BAt : (Nat → Prop) → World → Value → Value → Bf.Bd → Prop) (p : Addr) (ps : List Int) (d : Bf.Bd) (S : Nat → Prop) (W : World) (s : Bf.Pk) (S' : Nat → Prop) (ov : Value) (wr : World) : Prop where
  fin : Bf.pickRun act none d ps = Bf.fin act s (ps.drop s.xs.length)
  bare : s.c = none
  l : s.d.l = d.l
  fit : Bf.Fit s.d
  bat : BAt S' wr (.pointer (some p)) (.pointer none) s.d
  sub : ∀ j, S' j → S j ∨ W.heap.size ≤ j
  only : Only S W wr
  row : wr.ownsRow W.heap.size 3 1 ov s.xs.length (s.xs.map nv)
  far : ∀ j, some j = ov.ownBlock → ¬ S' j
  len : s.xs.length + s.d.waits ≤ d.waits
theorem PkS.below {es : Nat → Addr} {act : Bf.Act} {At : (Nat → Prop) → World → Value → Nat → Cf.Ens → Prop} {BAt : (Nat → Prop) → World → Value → Value → Bf.Bd → Prop} (HB : Builds es act At BAt) {p : Addr} {ps : List Int} {d : Bf.Bd} {S : Nat → Prop} {W : World} {s : Bf.Pk} {S' : Nat → Prop} {ov : Value} {wr w' : World} (h : PkS act BAt p ps d S W s S' ov wr) (hb : Below wr.heap.size wr w') : PkS act BAt p ps d S W s S' ov w' :=
  ⟨h.fin, h.bare, h.l, h.fit, HB.same _ _ _ _ _ _ h.bat hb.size fun k hk => hb.block k (HB.lt _ _ _ _ _ h.bat k hk), h.sub, h.only.trans (S' := fun _ => False) (Only.of hb) fun _ hj => hj.elim, ownsRow_below h.row hb, h.far, h.len⟩
theorem PkS.next {es : Nat → Addr} {act : Bf.Act} {At : (Nat → Prop) → World → Value → Nat → Cf.Ens → Prop} {BAt : (Nat → Prop) → World → Value → Value → Bf.Bd → Prop} (HB : Builds es act At BAt) (hAf : Bf.ActFit act) {p : Addr} {ps : List Int} {d : Bf.Bd} {S : Nat → Prop} {W : World} {s : Bf.Pk} {S' S6 : Nat → Prop} {ov : Value} {wr w6 Y : World} {g cap k : Nat} {o : Obj} (h : PkS act BAt p ps d S W s S' ov wr)
    (hr : s.d.ready ≠ []) (hk : k = s.d.ready.getD (Bf.pickAt (Bf.turn ps s.xs.length) s.d.ready.length) 0) (hO6 : Only (fun j => S' j ∨ False) wr w6) (hB6 : BAt S6 w6 (.pointer (some p)) (.pointer none) (Bf.run act none s.d (k : Int)).d) (hS6 : ∀ j, S6 j → S' j ∨ wr.heap.size ≤ j)
    (hY : Y.ownsRow W.heap.size 3 1 (.slice (some ⟨g, 0, none⟩) (s.xs.length + 1) cap) (s.xs.length + 1) (s.xs.map nv ++ [nv k])) (hgr : (w6.alloc o).grownBy Y ov.ownBlock) (hli : ov.ownBlock = some g ∨ g = (w6.alloc o).heap.size) :
    PkS act BAt p ps d S W (Bf.pstep act s (Bf.turn ps s.xs.length)) S6 (.slice (some ⟨g, 0, none⟩) (s.xs.length + 1) cap) Y ∧ (Bf.pstep act s (Bf.turn ps s.xs.length)).d.waits < s.d.waits := by
  have hlt := Bf.pickAt_lt (p := Bf.turn ps s.xs.length) (List.length_pos_iff.2 hr)
  have ek : k = s.d.ready[Bf.pickAt (Bf.turn ps s.xs.length) s.d.ready.length] := by
    rw [hk, List.getD_eq_getElem?_getD, List.getElem?_eq_getElem hlt]
    rfl
  have hm := Bf.mem_ready.1 (ek ▸ List.getElem_mem hlt)
  have e := Bf.pstep_some (act := act) (p := Bf.turn ps s.xs.length) hr hlt
  rw [← ek, h.bare] at e
  rw [Bf.run_ready act none s.d k hm.1 hm.2] at hB6
  have hless := Bf.go_less act none s.d k hm.1 hm.2
  have hgf := Bf.go_fit hAf (c := none) (d := s.d) (by trivial) h.fit k
  have hf := Bf.fin_turn (act := act) hr ps s.xs.length
  have hlw := HB.lt _ _ _ _ _ h.bat
  have hl6 := HB.lt _ _ _ _ _ hB6
  have z6 := hO6.size
  have zW := h.only.size
  have za : (w6.alloc o).heap.size = w6.heap.size + 1 := by simp
  have zY := hgr.size
  have hgy : ∀ j, j < w6.heap.size → some j ≠ ov.ownBlock → Y.heap[j]? = w6.heap[j]? := fun j hj hn => (hgr.block j (by omega) hn).trans (((Below.refl _ w6).alloc (Nat.le_refl _) _).block j hj)
  have hov : ∀ j, some j = ov.ownBlock → W.heap.size ≤ j ∧ j < wr.heap.size := fun j hj => h.row.lt j hj.symm
  have hS6' : ∀ j, S6 j → some j ≠ ov.ownBlock := fun j hj e => by
    rcases hS6 j hj with h1 | h1
    · exact h.far j e h1
    · have := (hov j e).2
      omega
  refine ⟨?_, by rw [e]; exact hless.1⟩
  have hxs : (Bf.pstep act s (Bf.turn ps s.xs.length)).xs.length = s.xs.length + 1 := by rw [e]; simp
  refine ⟨by rw [h.fin, hf, hxs], by rw [e]; exact Bf.go_none act s.d k, by rw [e]; exact hless.2.1.trans h.l, by rw [e]; exact hgf.1, ?_, fun j hj => ?_, ?_, ?_, fun j hj ht => ?_, ?_⟩
  · rw [e]
    exact HB.same _ _ _ _ _ _ hB6 (by omega) fun j hj => hgy j (hl6 j hj) (hS6' j hj)
  · rcases hS6 j hj with h1 | h1
    · exact h.sub j h1
    · exact .inr (by omega)
  · refine ⟨?_, ?_, ?_, by omega, fun j hj hs => ?_⟩
    · exact hgr.os.trans (hO6.os.trans h.only.os)
    · exact hgr.tape.trans (hO6.tape.trans h.only.tape)
    · exact hgr.output.trans (hO6.output.trans h.only.output)
    · refine (hgy j (by omega) fun e => by have := (hov j e).1; omega).trans ((hO6.block j (by omega) fun hx => ?_).trans (h.only.block j hj hs))
      rcases hx with h1 | h1
      · rcases h.sub j h1 with h2 | h2
        · exact hs h2
        · omega
      · exact h1
  · rw [hxs, e, List.map_append]
    exact hY
  · obtain rfl : j = g := by simpa [Value.ownBlock] using hj
    rcases hli with h1 | h1
    · exact hS6' j ht h1.symm
    · have := hl6 j ht
      omega
  · rw [hxs, e]
    have h1 := hless.1
    have h2 := h.len
    simp only
    omega
def PickTells (act : Bf.Act) (BAt : (Nat → Prop) → World → Value → Value → Bf.Bd → Prop) (p : Addr) (ps : List Int) (d : Bf.Bd) (S : Nat → Prop) (W w' : World) (u : Value) : Prop :=
  ∃ S', BAt S' w' (.pointer (some p)) (.pointer none) (Bf.pickRun act none d ps).d ∧ (∀ j, S' j → S j ∨ W.heap.size ≤ j) ∧ Only S W w' ∧ w'.ownsRow W.heap.size 3 1 u (Bf.pickRun act none d ps).xs.length ((Bf.pickRun act none d ps).xs.map nv) ∧ (∀ j, some j = u.ownBlock → ¬ S' j)
set_option maxRecDepth 100000 in
set_option maxHeartbeats 16000000 in
theorem pRun_calls {es : Nat → Addr} {act : Bf.Act} {At : (Nat → Prop) → World → Value → Nat → Cf.Ens → Prop} {BAt : (Nat → Prop) → World → Value → Value → Bf.Bd → Prop} (HB : Builds es act At BAt) (hAf : Bf.ActFit act) {B : Nat} {S : Nat → Prop} {W : World} {p : Addr} {d : Bf.Bd} (hA : BAt S W (.pointer (some p)) (.pointer none) d) (hW : BuildB B W es) (hSB : ∀ j, S j → B ≤ j) (hf : (Ru.fault d.l).1 = 0) (hsm : ∀ x ∈ d.l, x.Small) (hfit : Bf.Fit d)
    (v : Value) (ps : List Int) (hZ : ZRow W v ps) (hps : ∀ x ∈ ps, -9223372036854775808 ≤ x ∧ x ≤ 9223372036854775807) (hl : ps.length ≤ 1000) (hfar : ps ≠ [] → ∀ g o n c, v = .slice (some ⟨g, o, none⟩) n c → ¬ S g) :
    Calls Tryz.prog 88 #[.pointer (some p), v] W fun e w' => ∃ u, e = .returned (.tuple #[u, .nilIface]) ∧ PickTells act BAt p ps d S W w' u := by
  have HBu := hid1 HB
  have HAf := hid1 hAf
  have HW := hid1 hW
  have HSB := hid1 hSB
  have HFa := hid1 hf
  have HSm := hid1 hsm
  have HPs := hid1 hps
  have HZ : Hid (∀ V, Only S W V → ZRow V v ps) := hid1 fun V hV => by
    obtain ⟨q, cap, rfl, hin⟩ := hZ
    refine ⟨q, cap, rfl, fun hne => ?_⟩
    obtain ⟨g, o, rfl, hg, hc⟩ := hin hne
    exact ⟨g, o, rfl, Nat.lt_of_lt_of_le hg hV.size, fun j hj => hV.cell (hc j hj) (hfar hne g o _ _ rfl)⟩
  have HS0 : Hid (PkS act BAt p ps d S W ⟨d, none, []⟩ S (.slice none 0 0) W) := hid1 ⟨rfl, rfl, rfl, hfit, hA, fun j hj => .inl hj, Only.refl _ _, World.ownsRow_nil _ _ _ _, fun j hj => by simp [Value.ownBlock] at hj, by simp⟩
  have h40 := (Ru.fault_ok hf).1
  have hwd : d.waits ≤ 40 := Nat.le_trans (Bf.many_le d.st Bf.St.isWaits d.l.length) h40
  have HRd0 := hid1 (HB.ready _ _ _ _ _ hA h40)
  obtain ⟨pv, cv, rfl, -⟩ := hZ
  obtain ⟨i0, hi, hz0, hz1, hz2⟩ := info_parts Tryz.infoInt
  clear hA hW hSB hf hsm hfit hps hfar HB hAf
  go_enter Tryz.func88, Tryz.ntmps88
  go_wp2_with fail
  refine HRd0.out.mono ?_
  rintro e w2 ⟨u0, rfl, hu0, g2⟩
  have HU0 := hid1 hu0
  have HA2 := hid1 (HS0.out.below HBu.out g2)
  obtain ⟨p0, k0, rfl, -⟩ := hu0
  clear HRd0 HS0 g2
  go_wp2
  go_loopg [6, 7] (d.waits) (fun gn ov rv wr => ∃ (s : Bf.Pk) (S' : Nat → Prop), s.d.waits = gn ∧ PkS act BAt p ps d S W s S' ov wr ∧ NIRow wr rv s.d.ready)
  case atStart => exact ⟨_, S, rfl, HA2.out, HU0.out⟩
  case round =>
    clear HA2 HU0
    obtain ⟨s, S', hgn, hK, hu⟩ := hrel
    have HK := hid1 hK
    have HGn := hid1 hgn
    have hl' : s.d.l.length ≤ 40 := by rw [hK.l]; exact h40
    have hrl : s.d.ready.length ≤ 40 := Nat.le_trans (Bf.readyTo_len s.d s.d.l.length) hl'
    have HU := hid1 hu
    have hxl : s.xs.length ≤ 40 := by have := hK.len; omega
    obtain ⟨p3, c3, rfl, -⟩ := hu
    obtain ⟨p6, c6, e6⟩ := own_slice hK.row
    have e6' := e6
    subst e6'
    clear hK hgn
    by_cases hq : s.d.ready = []
    · have HDn : Hid (PickTells act BAt p ps d S W wr (.slice p6 s.xs.length c6)) := hid1 (by
        have e : Bf.pickRun act none d ps = s := by rw [HK.out.fin, Bf.fin_none hq]
        unfold PickTells
        rw [e]
        exact ⟨S', HK.out.bat, HK.out.sub, HK.out.only, HK.out.row, HK.out.far⟩)
      have e0 : s.d.ready.length = 0 := by rw [hq]; rfl
      rw [e0]
      clear hq HU HK
      go_wp2
      go_ret2
      exact ⟨_, rfl, HDn.out⟩
    · have hpos := List.length_pos_iff.2 hq
      have hlt := Bf.pickAt_lt (p := Bf.turn ps s.xs.length) hpos
      have hsz := Bf.pickAt_size (Bf.turn ps s.xs.length) s.d.ready.length
      have hbt : -9223372036854775808 ≤ Bf.turn ps s.xs.length ∧ Bf.turn ps s.xs.length ≤ 9223372036854775807 := by
        rcases Bf.turn_mem ps s.xs.length with h1 | h1
        · rw [h1]; omega
        · exact HPs.out _ h1
      have hsl := Bf.size_le hbt.1 hbt.2
      obtain ⟨g3, o3, rfl, hg3, hc3⟩ := NIRow.at HU.out hq
      have d0 := hc3 _ hlt
      have HAt := hid1 (pAt_calls _ ps (HZ.out wr HK.out.only) HPs.out hl s.xs.length (by omega))
      obtain ⟨k, hk⟩ : ∃ k, k = s.d.ready.getD (Bf.pickAt (Bf.turn ps s.xs.length) s.d.ready.length) 0 := ⟨_, rfl⟩
      have ek : s.d.ready[Bf.pickAt (Bf.turn ps s.xs.length) s.d.ready.length] = k := by
        rw [hk, List.getD_eq_getElem?_getD, List.getElem?_eq_getElem hlt]
        rfl
      rw [ek] at d0
      have hm := Bf.mem_ready.1 (ek ▸ List.getElem_mem hlt)
      have hki : k ≤ 40 := by have := hm.1; omega
      have HRn := hid1 (HBu.out.run B S' (fun _ => False) wr p (.pointer none) s.d none (k : Int) HK.out.bat ⟨rfl, fun j h => h⟩ (fun j _ h => h) (HW.out.only HK.out.only HSB.out) (fun j hj => by
        rcases HK.out.sub j hj with h1 | h1
        · exact HSB.out j h1
        · have := HW.out.le
          omega) (fun j h => h.elim) (by rw [HK.out.l]; exact HFa.out) (by rw [HK.out.l]; exact HSm.out) HK.out.fit trivial (by omega) (by omega))
      have HNx := hid1 fun (w6 Y : World) (S6 : Nat → Prop) (g cap : Nat) (o : Obj) => HK.out.next HBu.out HAf.out (w6 := w6) (Y := Y) (S6 := S6) (g := g) (cap := cap) (o := o) hq hk
      have hrow := HK.out.row
      have hfr := HK.out.far
      have HBat := hid1 HK.out.bat
      have hbz := HK.out.only.size
      have htm : Int.tmod ((Bf.size (Bf.turn ps s.xs.length) : Nat) : Int) ((s.d.ready.length : Nat) : Int) = ((Bf.pickAt (Bf.turn ps s.xs.length) s.d.ready.length : Nat) : Int) := by
        rw [hsz, ← Int.ofNat_tmod]
      have HLw := hid1 (HBu.out.lt _ _ _ _ _ HK.out.bat)
      clear hk ek hm hq HU hc3 HK hsz hbt
      generalize Bf.pickAt (Bf.turn ps s.xs.length) s.d.ready.length = a at *
      generalize Bf.size (Bf.turn ps s.xs.length) = z at *
      have za : (a : Int) < (s.d.ready.length : Int) := by omega
      have za0 : (0 : Int) ≤ (a : Int) := by omega
      have zr : (0 : Int) < (s.d.ready.length : Int) := by omega
      have zr0 : (s.d.ready.length : Int) ≠ 0 := by omega
      have zz : (z : Int) ≤ 9223372036854775807 := by omega
      go_wp2_with fail
      refine HAt.out.mono ?_
      rintro e w3 ⟨rfl, rfl⟩
      clear HAt
      go_wp2_with fail
      refine HRn.out.mono ?_
      rintro e w6 ⟨rfl, hO6, S6, SC6, hB6, -, -, hS6, -⟩
      have hrow6 := ownsRow_keep hrow hO6 fun j hj hx => hx.elim (hfr j hj) id
      have z6 := hO6.size
      have HN6 := hid1 fun (Y : World) (g cap : Nat) (o : Obj) => HNx.out w6 Y S6 g cap o hO6 hB6 hS6
      have hml : s.xs.length + 1 ≤ maxLen := by unfold maxLen; omega
      have hbz6 : W.heap.size ≤ w6.heap.size := by omega
      clear HRn HNx hO6 hB6 hS6 hrow hfr
      go_wp2_with (first
        | (at_builtin; refine wpList_append_lies _ rfl _ _ 68 rfl W.heap.size 3 i0 (.int .i64 0) 1 8 Tryz.underlying68 hi hz0 hz1 hz2 rfl (by decide) _ s.xs.length (s.xs.map nv) rfl (hrow6.alloc _) ⟨w6.heap.size, 0, none⟩ 1 1 [nv k] rfl rfl (cell_one_new _ _ _) (by simp [Value.oneCell']) (by decide) hml (by omega) (by simp; omega) _ rfl ?_; intro g8 cap8 w8 hown8 hgrow8 hlies8 hlt8)
        | fail)
      obtain ⟨hP8, hw8⟩ := HN6.out w8 g8 cap8 _ hown8 hgrow8 hlies8
      have HP8 := hid1 hP8
      have HRd := hid1 (HBu.out.ready _ _ _ _ _ hP8.bat (by rw [hP8.l]; exact h40))
      clear hP8 HN6 hown8 hgrow8 hlies8 hrow6
      go_wp2_with fail
      refine HRd.out.mono ?_
      rintro e w9 ⟨u9, rfl, hu9, g9⟩
      have HU9 := hid1 hu9
      have HA9 := hid1 (HP8.out.below HBu.out g9)
      obtain ⟨p9, c9, rfl, -⟩ := hu9
      clear HRd HP8 g9
      go_wp2
      go_roundg ((Bf.pstep act s (Bf.turn ps s.xs.length)).d.waits)
      case measure => rw [← HGn.out]; exact hw8
      case rel => exact ⟨_, S6, rfl, HA9.out, HU9.out⟩
end Go.Proofs.YtbgkfmodbofalaaGreatDoor
namespace Go.Proofs.YtbgkfmodbofalaaGreatDoor
namespace Ru
def levTo (l : List Ru) (f : Nat → Nat) (i : Nat) : Nat → Nat
  | 0 => 0
  | n + 1 => if needs l i n = true then max (levTo l f i n) (f n + 1) else levTo l f i n
def levF (l : List Ru) : Nat → Nat → Nat
  | 0, _ => 0
  | t + 1, i => levTo l (levF l t) i l.length
def lev (l : List Ru) (i : Nat) : Nat := levF l (l.length + 1) i
theorem levTo_congr {l : List Ru} {f g : Nat → Nat} {i : Nat} : ∀ {n : Nat}, (∀ k, k < n → needs l i k = true → f k = g k) → levTo l f i n = levTo l g i n
  | 0, _ => rfl
  | n + 1, h => by
    unfold levTo
    rw [levTo_congr fun k hk => h k (by omega)]
    split
    · rename_i hn
      rw [h n (by omega) hn]
    · rfl
theorem levTo_le {l : List Ru} {f : Nat → Nat} {i : Nat} : ∀ {n : Nat} {k : Nat}, k < n → needs l i k = true → f k + 1 ≤ levTo l f i n
  | n + 1, k, hk, hn => by
    unfold levTo
    by_cases e : k = n
    · subst e
      rw [if_pos hn]
      exact Nat.le_max_right _ _
    · have := levTo_le (f := f) (n := n) (k := k) (by omega) hn
      split
      · exact Nat.le_trans this (Nat.le_max_left _ _)
      · exact this
theorem levTo_some {l : List Ru} {f : Nat → Nat} {i : Nat} : ∀ {n : Nat}, levTo l f i n ≠ 0 → ∃ k, k < n ∧ needs l i k = true ∧ levTo l f i n = f k + 1
  | 0, h => absurd rfl h
  | n + 1, h => by
    unfold levTo at h ⊢
    by_cases hn : needs l i n = true
    · rw [if_pos hn] at h ⊢
      by_cases hm : levTo l f i n ≤ f n + 1
      · exact ⟨n, by omega, hn, Nat.max_eq_right hm⟩
      · obtain ⟨k, h1, h2, h3⟩ := levTo_some (l := l) (f := f) (i := i) (n := n) (by omega)
        exact ⟨k, by omega, h2, by rw [Nat.max_eq_left (by omega)]; exact h3⟩
    · rw [if_neg hn] at h ⊢
      obtain ⟨k, h1, h2, h3⟩ := levTo_some (l := l) (f := f) (i := i) (n := n) h
      exact ⟨k, by omega, h2, h3⟩
theorem levF_enough {l : List Ru} {rank : Nat → Nat} (hr : ∀ i k, needs l i k = true → rank k < rank i) : ∀ (t t' i : Nat), rank i < t → rank i < t' → levF l t i = levF l t' i
  | 0, _, _, h, _ => by omega
  | _, 0, _, _, h => by omega
  | t + 1, t' + 1, i, h, h' => by
    unfold levF
    refine levTo_congr fun k _ hn => ?_
    have := hr i k hn
    exact levF_enough hr t t' k (by omega) (by omega)
theorem lev_eq {l : List Ru} {rank : Nat → Nat} (hr : ∀ i k, needs l i k = true → rank k < rank i) (hb : ∀ i, rank i ≤ l.length) (i : Nat) : lev l i = levTo l (lev l) i l.length := by
  unfold lev
  conv => lhs; unfold levF
  refine levTo_congr fun k _ hn => ?_
  have h1 := hr i k hn
  have h2 := hb i
  exact levF_enough hr _ _ k (by omega) (by omega)
def deepTo (l : List Ru) : Nat → Nat
  | 0 => 0
  | n + 1 => max (deepTo l n) (lev l n + 1)
def deep (l : List Ru) : Nat := deepTo l l.length
theorem deepTo_le {l : List Ru} : ∀ {n i : Nat}, i < n → lev l i < deepTo l n
  | n + 1, i, h => by
    unfold deepTo
    by_cases e : i = n
    · subst e
      have := Nat.le_max_right (deepTo l i) (lev l i + 1)
      omega
    · have := deepTo_le (l := l) (n := n) (i := i) (by omega)
      have := Nat.le_max_left (deepTo l n) (lev l n + 1)
      omega
theorem deepTo_some {l : List Ru} : ∀ {n : Nat}, deepTo l n ≠ 0 → ∃ i, i < n ∧ deepTo l n = lev l i + 1
  | 0, h => absurd rfl h
  | n + 1, h => by
    unfold deepTo at h ⊢
    by_cases hm : deepTo l n ≤ lev l n + 1
    · exact ⟨n, by omega, Nat.max_eq_right hm⟩
    · obtain ⟨i, h1, h2⟩ := deepTo_some (l := l) (n := n) (by omega)
      exact ⟨i, by omega, by rw [Nat.max_eq_left (by omega)]; exact h2⟩
theorem lev_each {l : List Ru} {rank : Nat → Nat} (hr : ∀ i k, needs l i k = true → rank k < rank i) (hb : ∀ i, rank i ≤ l.length) : ∀ (m i : Nat), i < l.length → ∀ k, k + m = lev l i → ∃ j, j < l.length ∧ lev l j = k
  | 0, i, hi, k, e => ⟨i, hi, by omega⟩
  | m + 1, i, hi, k, e => by
    have h := lev_eq hr hb i
    obtain ⟨j, hj, hn, e2⟩ := levTo_some (l := l) (f := lev l) (i := i) (n := l.length) (by omega)
    exact lev_each hr hb m j hj k (by omega)
theorem deep_each {l : List Ru} {rank : Nat → Nat} (hr : ∀ i k, needs l i k = true → rank k < rank i) (hb : ∀ i, rank i ≤ l.length) {k : Nat} (hk : k < deep l) : ∃ j, j < l.length ∧ lev l j = k := by
  obtain ⟨i, hi, e⟩ := deepTo_some (l := l) (n := l.length) (by unfold deep at hk; omega)
  unfold deep at hk
  exact lev_each hr hb (lev l i - k) i hi k (by omega)
def levelOf (l : List Ru) (k : Nat) : List Nat := (List.range l.length).filter fun i => lev l i == k
def levels (l : List Ru) : List (List Nat) := (List.range (deep l)).map (levelOf l)
theorem levelOf_mem {l : List Ru} {k i : Nat} : i ∈ levelOf l k ↔ i < l.length ∧ lev l i = k := by
  unfold levelOf
  rw [List.mem_filter, List.mem_range]
  simp
theorem levelOf_rises (l : List Ru) (k : Nat) : (levelOf l k).Pairwise (· < ·) := List.Pairwise.filter _ List.pairwise_lt_range
theorem count_levels (l : List Ru) : ∀ n : Nat, ((List.range n).map fun k => (levelOf l k).length).sum = ((List.range l.length).filter fun i => decide (lev l i < n)).length
  | 0 => by
    rw [List.filter_eq_nil_iff.2 fun i _ => by simp]
    rfl
  | n + 1 => by
    rw [List.range_succ, List.map_append, List.sum_append, count_levels l n]
    unfold levelOf
    simp only [List.map_cons, List.map_nil, List.sum_cons, List.sum_nil, Nat.add_zero]
    rw [← List.countP_eq_length_filter, ← List.countP_eq_length_filter, ← List.countP_eq_length_filter]
    induction (List.range l.length) with
    | nil => rfl
    | cons x r ih =>
      simp only [List.countP_cons]
      have : (if decide (lev l x < n) = true then 1 else 0) + (if (lev l x == n) = true then 1 else 0) = if decide (lev l x < n + 1) = true then 1 else 0 := by
        by_cases h1 : lev l x < n
        · simp [h1, show lev l x < n + 1 by omega, show lev l x ≠ n by omega]
        · by_cases h2 : lev l x = n
          · simp [h2]
          · simp [h1, h2, show ¬ lev l x < n + 1 by omega]
      omega
theorem levels_all (l : List Ru) : ((List.range (deep l)).map fun k => (levelOf l k).length).sum = l.length := by
  rw [count_levels]
  rw [List.filter_eq_self.2 fun i hi => ?_]
  · simp
  · exact decide_eq_true (deepTo_le (List.mem_range.1 hi))
end Ru
end Go.Proofs.YtbgkfmodbofalaaGreatDoor
