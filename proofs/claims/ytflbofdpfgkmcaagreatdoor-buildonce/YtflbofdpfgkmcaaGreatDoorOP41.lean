import Derived.Test.YtflbofdpfgkmcaaGreatDoorOP36
import Derived.Test.YtflbofdpfgkmcaaGreatDoorOP40
import Derived.Test.YtflbofdpfgkmcaaGreatDoorOP09
namespace Go.Proofs.YtflbofdpfgkmcaaGreatDoor
open Go.RowKit Go.Shelf Go.Lib Go.Maps
theorem OfS.build {es : Nat → Addr} {W0 w1 : World} {l : List Ru} {fs : Tf.Fs} {bm mb : Nat} {ord : List Nat} {L : Lay} (h : OfS es W0 l fs (ruOf l) bm mb ord L w1) (hA : Ru.Apart l) (hS : ∀ x ∈ l, x.Small) {outs : List (List UInt8)} {f : Nat → Bool} (hN : Ru.Needed l outs f) (hn : ∀ k, k ∈ ord ↔ k < l.length ∧ f k = true) (hlen : ord.length ≤ 40) {cv : Value} {w2 : World} {bb : Nat} (hb : Below w1.heap.size w1 w2) (hz : w1.heap.size ≤ bb) (c0 : w2.cell? ⟨bb, 0, none⟩ = some (.map (some bm))) (c1 : w2.cell? ⟨bb, 1, none⟩ = some cv) :
    BuM es w2 bb bm ord.length L cv (Bf.init fs l outs) ∧ ∀ j, BBlk bb bm (Bf.init fs l outs) L j → W0.heap.size ≤ j := by
  have hst : ∀ k, (Bf.init fs l outs).st k = if k ∈ ord then .waits else .no := fun k => by
    show (if Bf.need l outs k = true then Bf.St.waits else .no) = _
    by_cases hk : k < l.length
    · rw [Bf.need_eq hN hk]
      by_cases hf : f k = true
      · rw [if_pos hf, if_pos ((hn k).2 ⟨hk, hf⟩)]
      · rw [if_neg hf, if_neg fun e => hf ((hn k).1 e).2]
    · rw [Bf.need_out (by omega), if_neg (by simp), if_neg fun e => hk ((hn k).1 e).1]
  have hdom : (Bf.init fs l outs).dom = fun k => k ∈ ord := by
    funext k
    unfold Bf.Bd.dom Bf.Bd.dm
    rw [hst k]
    by_cases hk : k ∈ ord
    · rw [if_pos hk]; simp [hk, Bf.St.isNo]
    · rw [if_neg hk]; simp [hk, Bf.St.isNo]
  have hno : ∀ k, ((Bf.init fs l outs).st k).isNo = false ↔ k ∈ ord := fun k => by
    rw [hst k]
    by_cases hk : k ∈ ord
    · rw [if_pos hk]; simp [hk, Bf.St.isNo]
    · rw [if_neg hk]; simp [hk, Bf.St.isNo]
  have hins : ∀ k, insOf (Bf.init fs l outs) k = (ruOf l k).ins.map (inpOf l fs) := fun k => rfl
  refine ⟨⟨c0, c1, ?_, ?_, ?_, ?_, ?_, hA, ?_⟩, ?_⟩
  · rw [hdom]
    exact h.smap.same (hb.block bm h.smap.lt)
  · have hs := h.made.steps.below hb
    rw [hdom]
    exact hs.congr fun i hi => by rw [hst i, if_pos hi]
  · intro i hi k
    rw [h.us i ((hno i).1 hi) k, ← hno k]
    rfl
  · intro i hi
    rw [hdom] at hi
    have := h.usl i hi
    omega
  · refine Bf.Inv.init (fun i hi => ?_) (fun i k hk hi => ?_) fun i => ?_
    · rw [hst i, if_neg fun e => by have := ((hn i).1 e).1; have : l.length ≤ i := hi; omega]
    · rw [hno] at hi ⊢
      have hk' : Ru.needs l i k = true := hk
      exact (hn k).2 ⟨(Ru.needs_lt hk').2, hN.closed i k ((hn i).1 hi).2 hk'⟩
    · rw [hst i]
      split
      · exact .inr rfl
      · exact .inl rfl
  · intro i hi
    rw [hdom] at hi
    rw [hins, List.length_map]
    have hil := ((hn i).1 hi).1
    have := (hS _ (List.getElem_mem hil)).many
    simp [ruOf, hil]
    omega
  · rintro j (rfl | rfl | hj)
    · have := h.made.base.size
      omega
    · exact h.lb
    · rw [hdom] at hj
      exact h.made.low j hj
set_option maxRecDepth 100000 in
set_option maxHeartbeats 4000000 in
theorem containsI_new {W : World} {nb : Nat} {v : Value} {ll : List Nat} (hc : W.cell? ⟨nb, 0, none⟩ = some v) (hrow : NIRow W v ll) (hl : ll.length ≤ 1000) (x : Nat) : Calls Tryz.prog 104 #[nv x, .pointer (some ⟨nb, 0, none⟩)] W fun e w' => e = .returned (.bool (decide (x ∈ ll))) ∧ Below W.heap.size W w' := by
  have HC := hid1 (slContainsI_calls v ll x hrow (by omega))
  obtain ⟨p, c, rfl, -⟩ := hrow
  go_enter Tryz.func104, Tryz.ntmps104
  go_wp2_with fail
  refine HC.out.mono ?_
  rintro e w1 ⟨rfl, rfl⟩
  clear HC
  go_wp2
  go_ret
  exact ⟨rfl, Below.refl _ _⟩
set_option maxRecDepth 100000 in
set_option maxHeartbeats 4000000 in
theorem buNew_nil {es : Nat → Addr} {W : World} (hW : BuildW W es) (lv ov cv : Value) : Calls Tryz.prog 56 #[.pointer none, lv, ov, cv] W fun e w' => e = .returned (.tuple #[.pointer none, erOf es 3]) ∧ Below W.heap.size W w' := by
  have c := hW.shape
  clear hW
  go_enter Tryz.func56, Tryz.ntmps56
  go_wp2
  go_region
  go_wp2
  go_ret2
  exact ⟨rfl, (Below.refl _ W).drew⟩
end Go.Proofs.YtflbofdpfgkmcaaGreatDoor
namespace Go.Proofs.YtflbofdpfgkmcaaGreatDoor
open Go.RowKit Go.Shelf Go.Lib Go.Maps
theorem NewTells.below {es : Nat → Addr} {n : Nat} {fs : Tf.Fs} {l : List Ru} {outs : List (List UInt8)} {cv : Value} {w w' : World} {ev : Value} (h : NewTells es (BuAt es) n fs l outs cv w (.pointer none) ev) (hb : Below w.heap.size w w') : NewTells es (BuAt es) n fs l outs cv w' (.pointer none) ev := by
  rcases h with ⟨h0, h1 | ⟨h1, k, hk, h2, h3, h4⟩ | h1⟩ | ⟨_, _, _, _, ⟨p, e⟩, _⟩
  · exact .inl ⟨h0, .inl ⟨h1.1, h1.2.below hb⟩⟩
  · exact .inl ⟨h0, .inr (.inl ⟨h1, k, hk, h2, h3, h4.below hb⟩)⟩
  · exact .inl ⟨h0, .inr (.inr h1)⟩
  · cases e
set_option maxRecDepth 100000 in
set_option maxHeartbeats 4000000 in
theorem newOrder_calls {es : Nat → Addr} {V : World} (hG : GraphW V es) (lv : Value) (l : List Ru) (hrow : RRow V lv l) (hl : l.length ≤ 1000) (hS : ∀ x ∈ l, x.Small) (nb : Nat) (v : Value) (ll : List Nat) (hc : V.cell? ⟨nb, 0, none⟩ = some v) (hr : NIRow V v ll) (hll : ll.length ≤ 1000) (hcl : ∀ i k, i ∈ ll → Ru.needs l i k = true → k ∈ ll) :
    Calls Tryz.prog 91 #[lv, .func (.func 104) #[] #[.pointer (some ⟨nb, 0, none⟩)]] V fun e w' => ∃ u ev, e = .returned (.tuple #[u, ev]) ∧ Below V.heap.size V w' ∧ SomeTells es l (fun k => decide (k ∈ ll)) w' u ev :=
  grOrderOf_calls hG lv l hrow hl hS 104 #[.pointer (some ⟨nb, 0, none⟩)] (enters_of Tryz.func104 (by kernel_rfl) rfl) (fun k => decide (k ∈ ll)) (hid1 fun i k hi hk => by
    simp only [decide_eq_true_eq] at hi ⊢
    exact hcl i k hi hk) (hid1 fun x W' _ gW => containsI_new (cell_below' hc gW) (hr.below gW) hll x)
set_option maxRecDepth 100000 in
set_option maxHeartbeats 16000000 in
theorem buNew_calls {es : Nat → Addr} {W : World} (hW : BuildW W es) {Bt tb : Nat} {fs : Tf.Fs} {o : Option Nat} (hT : TreeAt Bt W tb fs o) (lv : Value) (l : List Ru) (hrow : RRow W lv l) (hl : l.length ≤ 1000) (hS : ∀ x ∈ l, x.Small) (ov : Value) (outs : List (List UInt8)) (hout : XRow W ov outs) (hol : outs.length ≤ 1000) (cv : Value) (hcv : ∃ q, cv = .pointer q) :
    Calls Tryz.prog 56 #[Ptr tb, lv, ov, cv] W fun e w' => ∃ bv ev, e = .returned (.tuple #[bv, ev]) ∧ Below W.heap.size W w' ∧ NewTells es (BuAt es) W.heap.size fs l outs cv w' bv ev := by
  have HNd := hid1 (gNeeds_calls hW.g.s hW.none lv l hrow hl hS ov outs hout hol)
  have HOf := hid1 fun (V : World) (g : Below W.heap.size W V) => newOrder_calls (hW.g.below g) lv l (hrow.below g) hl hS
  have HSt := hid1 fun (V : World) (g : Below W.heap.size W V) (h40 : l.length ≤ 40) (hA : Ru.Apart l) (uv : Value) (ord : List Nat) (hord : NIRow V uv ord) (ht : Ru.Topo l ord) (hnd : ord.Nodup) (ho : ∀ i ∈ ord, i < l.length) => stepsOf_calls (es := es) (hT.below g) lv l (hrow.below g) h40 hS hA uv ord hord ht hnd ho
  have HS := hid1 hS
  obtain ⟨q, rfl⟩ := hcv
  obtain ⟨pl, cl, rfl, -⟩ := hrow
  obtain ⟨po, co, rfl, -⟩ := hout
  clear hW hT hS
  go_enter Tryz.func56, Tryz.ntmps56
  go_wp2_with fail
  refine HNd.out.mono ?_
  rintro e w1 ⟨u1, ev, rfl, g1, hT1⟩
  clear HNd
  rcases hT1 with ⟨hf, hE, pn, cn, rfl⟩ | ⟨hf, k, hk, h1, h2, hE, pn, cn, rfl⟩ | ⟨hf, h1, rfl, f, hN, hrw⟩
  · have HP : Hid (NewTells es (BuAt es) W.heap.size fs l outs (.pointer q) w1 (.pointer none) ev) := hid1 (.inl ⟨rfl, .inl ⟨hf, hE⟩⟩)
    obtain ⟨t, x, rfl⟩ := hE.some hf
    have gA : Below w1.heap.size w1 (w1.alloc (.cells #[.slice pn 0 cn] 68)) := (Below.refl _ w1).alloc (Nat.le_refl _) _
    clear hf hE HOf HSt
    go_wp2
    go_ret2
    exact ⟨_, _, rfl, below_then g1 gA, HP.out.below gA⟩
  · have HP : Hid (NewTells es (BuAt es) W.heap.size fs l outs (.pointer q) w1 (.pointer none) ev) := hid1 (.inl ⟨rfl, .inr (.inl ⟨hf, k, hk, h1, h2, hE⟩)⟩)
    obtain ⟨t, x, rfl⟩ := hE.some (by simp)
    have gA : Below w1.heap.size w1 (w1.alloc (.cells #[.slice pn 0 cn] 68)) := (Below.refl _ w1).alloc (Nat.le_refl _) _
    clear hf hE h1 h2 HOf HSt
    go_wp2
    go_ret2
    exact ⟨_, _, rfl, below_then g1 gA, HP.out.below gA⟩
  · obtain ⟨h40, hA⟩ := Ru.fault_ok hf
    have HR1 := hid1 hrw
    obtain ⟨pn, cn, rfl, -⟩ := hrw
    have gA : Below w1.heap.size w1 (w1.alloc (.cells #[.slice pn ((List.range l.length).filter f).length cn] 68)) := (Below.refl _ w1).alloc (Nat.le_refl _) _
    have G2 := below_then g1 gA
    have hfl : ((List.range l.length).filter f).length ≤ 40 := Nat.le_trans (by simpa using List.length_filter_le f (List.range l.length)) h40
    have hch : ∀ k, k < l.length → (decide (k ∈ (List.range l.length).filter f)) = Bf.need l outs k := fun k hk => by
      rw [Bf.need_eq hN hk]
      simp [hk]
    have HCh := hid1 (Ru.order_congr2 hch)
    have HO := hid1 (HOf.out _ G2 w1.heap.size _ _ (by simp) (HR1.out.below gA) (by omega) fun i k hi hk => by
      simp only [List.mem_filter, List.mem_range] at hi ⊢
      exact ⟨(Ru.needs_lt hk).2, hN.closed i k hi.2 hk⟩)
    unfold SomeTells at HO
    rw [HCh.out] at HO
    have HFt := hid1 hf
    have H1 := hid1 h1
    have HN := hid1 hN
    have HA := hid1 hA
    have hsh := HR1.out
    clear hf h1 hN hA HOf HCh hch hsh HR1
    go_wp2_with fail
    refine HO.out.mono ?_
    rintro e w3 ⟨u3, ev3, rfl, g3, hT3⟩
    have G3 := below_then G2 g3
    clear HO
    rcases hT3 with ⟨h0, -⟩ | ⟨-, hnone, rfl, pn3, cn3, rfl⟩ | ⟨-, ord, hsome, rfl, hr3⟩
    · exact absurd HFt.out h0
    · have HP : Hid (NewTells es (BuAt es) W.heap.size fs l outs (.pointer q) w3 (.pointer none) (erOf es 9)) := hid1 (.inl ⟨rfl, .inr (.inr ⟨HFt.out, H1.out, hnone, rfl⟩)⟩)
      clear hnone HSt
      obtain ⟨t9, x9, e9⟩ : ∃ t x, erOf es 9 = .iface t x := ⟨_, _, rfl⟩
      rw [e9] at HP ⊢
      clear e9
      go_wp2
      go_ret2
      exact ⟨_, _, rfl, G3, HP.out⟩
    · obtain ⟨ht, hall⟩ := Ru.order_some hsome
      obtain ⟨hnd, hlt⟩ := Ru.order_nodup hsome
      have hch := Ru.order_ch hsome
      have HSo := hid1 (HSt.out w3 G3 h40 HA.out u3 ord hr3 ht hnd hlt)
      have hol2 : ord.length ≤ 40 := Nat.le_trans (len_le hnd hlt) h40
      have HMem : Hid (∀ k, k ∈ ord ↔ k < l.length ∧ f k = true) := hid1 fun k => by
        constructor
        · intro hk
          have h1 := hlt k hk
          exact ⟨h1, by rw [← Bf.need_eq HN.out h1]; exact hch k hk⟩
        · rintro ⟨h1, h2⟩
          exact hall k h1 (by rw [Bf.need_eq HN.out h1]; exact h2)
      have HSome : Hid ((Ru.order l (Bf.need l outs)).isSome = true) := hid1 (by rw [hsome]; rfl)
      obtain ⟨p3, c3, rfl, -⟩ := hr3
      clear HSt ht hall hnd hlt hch hsome
      go_wp2_with fail
      refine HSo.out.mono ?_
      rintro e w4 ⟨bm, mb, L, rfl, hO4⟩
      have g4 : Below w3.heap.size w3 w4 := hO4.made.base
      have gB : Below w4.heap.size w4 (w4.alloc (.cells #[.map (some bm), .pointer q] 184)) := (Below.refl _ w4).alloc (Nat.le_refl _) _
      have rr := row_new w4 (.cells #[.map (some bm), .pointer q] 184)
      obtain ⟨hB, hlo⟩ := hO4.build HA.out HS.out HN.out HMem.out hol2 (cv := .pointer q) gB (Nat.le_refl _) (cell_of_row (j := 0) rr rfl) (cell_of_row (j := 1) rr rfl)
      have hz3 := G3.size
      have HP : Hid (NewTells es (BuAt es) W.heap.size fs l outs (.pointer q) (w4.alloc (.cells #[.map (some bm), .pointer q] 184)) (Ptr w4.heap.size) .nilIface) := hid1 (.inr ⟨HFt.out, H1.out, HSome.out, rfl, ⟨_, rfl⟩, _, ⟨_, _, _, L, rfl, ⟨q, rfl⟩, fun _ => Iff.rfl, hB⟩, fun j hj => Nat.le_trans hz3 (hlo j hj)⟩)
      have G5 := below_then (below_then G3 g4) gB
      clear HSo hO4 hB hlo rr g4 gB
      go_wp2
      go_ret2
      exact ⟨_, _, rfl, G5, HP.out⟩
end Go.Proofs.YtflbofdpfgkmcaaGreatDoor
namespace Go.Proofs.YtflbofdpfgkmcaaGreatDoor
open Go.RowKit Go.Shelf Go.Lib Go.Maps
theorem builds (es : Nat → Addr) : Builds es Af.actO CAt (BuAt es) where
  same := fun S W W' v cv d h _ hb => by
    obtain ⟨bb, bm, n, L, e, hc, hS, h⟩ := h
    exact ⟨bb, bm, n, L, e, hc, hS, h.same fun j hj => hb j ((hS j).2 hj)⟩
  lt := fun S W v cv d h k hk => by
    obtain ⟨bb, bm, n, L, e, hc, hS, h⟩ := h
    exact h.lt k ((hS k).1 hk)
  noTree := fun W lv l ov outs cv hW _ _ => buNew_nil hW lv ov cv
  new := fun W B tb fs o lv l ov outs cv hW hT _ _ _ hrow hl hS hout hol _ hcv => buNew_calls hW hT lv l hrow (by omega) hS ov outs hout (by omega) cv hcv
  ready := fun S W p cv d h hl => by
    obtain ⟨bb, bm, n, L, e, hc, hS, h⟩ := h
    cases e
    exact buReady_calls h (by omega)
  state := fun S W p cv d i h _ h0 h1 => by
    obtain ⟨bb, bm, n, L, e, hc, hS, h⟩ := h
    cases e
    exact buState_calls h i h0 h1
  result := fun S W p cv d i h _ h0 h1 => by
    obtain ⟨bb, bm, n, L, e, hc, hS, h⟩ := h
    cases e
    exact buResult_calls h i h0 h1
  why := fun S W p cv d i h _ _ h0 h1 => by
    obtain ⟨bb, bm, n, L, e, hc, hS, h⟩ := h
    cases e
    exact buWhy_calls h i h0 h1
  over := fun S W p cv d h hl => by
    obtain ⟨bb, bm, n, L, e, hc, hS, h⟩ := h
    cases e
    exact buOver_calls h (by omega)
  count := fun S W p cv d h hl => by
    obtain ⟨bb, bm, n, L, e, hc, hS, h⟩ := h
    cases e
    exact buCount_calls h (by omega)
  run := fun B S SC W p cv d c i h hC hap hW hSB hSC hf hS hfit hcf h0 h1 => by
    obtain ⟨bb, bm, n, L, e, hc, hB, h⟩ := h
    cases e
    refine (buRun_calls h hC (fun j hj => hap j ((hB j).2 hj)) hW hSC hS hfit hcf i h0 h1).mono ?_
    rintro e w' ⟨rfl, hM, hO, SC', hC', hSC'⟩
    have hdom : ∀ j, BBlk bb bm (Bf.run Af.actO c d i).d L j ↔ BBlk bb bm d L j := fun j => by
      have : (Bf.run Af.actO c d i).d.dom = d.dom := by
        unfold Bf.run
        split
        · rfl
        · unfold Bf.runN
          split
          · rfl
          · split
            · rfl
            · split
              · rfl
              · rename_i h5
                exact dom_go c d (by simpa using h5)
      unfold BBlk
      rw [this]
    have hlt := h.lt
    refine ⟨rfl, ⟨hO.os, hO.tape, hO.output, hO.size, fun j hj hn => hO.block j hj fun e => hn (e.imp_left (hB j).2)⟩, S, SC', ⟨bb, bm, n, L, rfl, hc, fun j => (hB j).trans (hdom j).symm, hM⟩, hC', fun j hj hx => ?_, fun j hj => .inl hj, hSC'⟩
    rcases hSC' j hx with h2 | h2
    · exact hap j hj h2
    · have := hlt j ((hB j).1 hj)
      omega
  all := fun B S SC W p cv d c h hC hap hW hSB hSC hf hS hfit hcf => by
    obtain ⟨bb, bm, n, L, e, hc, hB, h⟩ := h
    cases e
    obtain ⟨h40, _⟩ := Ru.fault_ok hf
    refine (buAll_calls h hC (fun j hj => hap j ((hB j).2 hj)) hW (fun j hj => hSB j ((hB j).2 hj)) hSC hS (by omega) hfit hcf).mono ?_
    rintro e w' ⟨rfl, hM, hO, SC', hC', hSC'⟩
    have hdom : ∀ j, BBlk bb bm (Bf.all Af.actO c d).1 L j ↔ BBlk bb bm d L j := fun j => by
      have key : ∀ (f : Nat) (c : Bf.Ca) (d : Bf.Bd), (Bf.allF Af.actO f c d).1.dom = d.dom := fun f => by
        induction f with
        | zero => exact fun _ _ => rfl
        | succ f ih =>
          intro c d
          unfold Bf.allF
          cases hq : d.ready with
          | nil => rfl
          | cons i q =>
            have hm := Bf.mem_ready.1 (show i ∈ d.ready by rw [hq]; simp)
            exact (ih _ _).trans (dom_go c d hm.2)
      unfold BBlk
      rw [show (Bf.all Af.actO c d).1.dom = d.dom from key _ c d]
    have hlt := h.lt
    refine ⟨rfl, ⟨hO.os, hO.tape, hO.output, hO.size, fun j hj hn => hO.block j hj fun e => hn (e.imp_left (hB j).2)⟩, S, SC', ⟨bb, bm, n, L, rfl, hc, fun j => (hB j).trans (hdom j).symm, hM⟩, hC', fun j hj hx => ?_, fun j hj => .inl hj, hSC'⟩
    rcases hSC' j hx with h2 | h2
    · exact hap j hj h2
    · have := hlt j ((hB j).1 hj)
      omega
end Go.Proofs.YtflbofdpfgkmcaaGreatDoor
namespace Go.Proofs.YtflbofdpfgkmcaaGreatDoor
namespace Bf
structure Good (d : Bd) : Prop where
  needed : ∀ k, k < d.l.length → (d.st k).isNo = false
  done : ∀ k j, (d.st k).isDone = true → Ru.needs d.l k j = true → (d.st j).isDone = true
  failed : ∀ k j, (d.st k).isFailed = true → Ru.needs d.l k j = true → (d.st j).isDone = true
  bad : ∀ k j, Ru.needs d.l k j = true → (d.st j).isBad = true → (d.st k).isLeft = true
  left : ∀ k, (d.st k).isLeft = true → ∃ j, Ru.needs d.l k j = true ∧ (d.st j).isBad = true
theorem St.five (s : St) : s.isNo = true ∨ s.isWaits = true ∨ s.isDone = true ∨ s.isFailed = true ∨ s.isLeft = true := by cases s <;> simp [St.isNo, St.isWaits, St.isDone, St.isFailed, St.isLeft]
theorem Good.init {d : Bd} (h : ∀ k, d.st k = if k < d.l.length then .waits else .no) : Good d := by
  have hn : ∀ k, (d.st k).isDone = false ∧ (d.st k).isFailed = false ∧ (d.st k).isLeft = false ∧ (d.st k).isBad = false := fun k => by
    rw [h k]
    split <;> exact ⟨rfl, rfl, rfl, rfl⟩
  refine ⟨fun k hk => by rw [h k, if_pos hk]; rfl, fun k j hd => ?_, fun k j hd => ?_, fun k j _ hb => ?_, fun k hl => ?_⟩
  · rw [(hn k).1] at hd; cases hd
  · rw [(hn k).2.1] at hd; cases hd
  · rw [(hn j).2.2.2] at hb; cases hb
  · rw [(hn k).2.2.1] at hl; cases hl
theorem Good.ready_needs {d : Bd} {i j : Nat} (hr : d.isReady i = true) (hn : Ru.needs d.l i j = true) : (d.st j).isDone = true := ready_free hr (Ru.needs_lt hn).2 hn
theorem Good.set {d : Bd} (h : Good d) {i : Nat} (hr : d.isReady i = true) (s : List UInt8) (b : Bool) : Good (d.set i (.done s b)) := by
  have hw := ready_waits hr
  have hs : ∀ k, (d.set i (.done s b)).st k = if k = i then .done s b else d.st k := fun k => rfl
  have hbad : ∀ j, ((d.set i (.done s b)).st j).isBad = true → j ≠ i ∧ (d.st j).isBad = true := fun j hj => by
    rw [hs] at hj
    split at hj
    · cases hj
    · rename_i e; exact ⟨e, hj⟩
  refine ⟨fun k hk => ?_, fun k j hd hn => ?_, fun k j hd hn => ?_, fun k j hn hb => ?_, fun k hl => ?_⟩
  · rw [hs]
    split
    · rfl
    · exact h.needed k hk
  · rw [hs] at hd ⊢
    split
    · rfl
    · split at hd
      · rename_i e; subst e; exact Good.ready_needs hr hn
      · exact h.done k j hd hn
  · rw [hs] at hd ⊢
    split
    · rfl
    · split at hd
      · cases hd
      · exact h.failed k j hd hn
  · obtain ⟨e, hb'⟩ := hbad j hb
    have hl := h.bad k j hn hb'
    rw [hs]
    split
    · rename_i e2
      rw [e2, hw] at hl
      cases hl
    · exact hl
  · rw [hs] at hl
    split at hl
    · cases hl
    · obtain ⟨j, hn, hb⟩ := h.left k hl
      refine ⟨j, hn, ?_⟩
      rw [hs]
      split
      · rename_i e
        rw [e, hw] at hb
        cases hb
      · exact hb
theorem Good.fail {d : Bd} (h : Good d) {i : Nat} (hr : d.isReady i = true) (c : Nat) : Good (d.fail i c) := by
  have hw := ready_waits hr
  have hs0 : ∀ k, setS d.st i (.failed c) k = if k = i then .failed c else d.st k := fun k => rfl
  have hs : ∀ k, (d.fail i c).st k = spread d.l (setS d.st i (.failed c)) k := fun k => rfl
  have hl : (d.fail i c).l = d.l := rfl
  have keepN : ∀ k, (setS d.st i (.failed c) k).isWaits = false → (d.fail i c).st k = setS d.st i (.failed c) k := fun k hk => by rw [hs, spread_keeps hk]
  have done_iff : ∀ k, ((d.fail i c).st k).isDone = true ↔ (d.st k).isDone = true := fun k => by
    rw [hs]
    unfold spread
    split
    · rename_i hx
      rw [hs0] at hx
      split at hx
      · cases hx.1
      · constructor
        · intro h1; cases h1
        · intro h1; rw [St.waits_eq hx.1] at h1; cases h1
    · rw [hs0]
      split
      · rename_i e
        rw [e, hw]
        constructor
        · intro h1; cases h1
        · intro h1; cases h1
      · exact Iff.rfl
  have failed_is : ∀ k, ((d.fail i c).st k).isFailed = true → k = i ∨ (d.st k).isFailed = true := fun k hk => by
    rw [hs] at hk
    unfold spread at hk
    split at hk
    · cases hk
    · rw [hs0] at hk
      split at hk
      · rename_i e; exact .inl e
      · exact .inr hk
  have left_of : ∀ k, (setS d.st i (.failed c) k).isWaits = true → Chain d.l (setS d.st i (.failed c)) k → ((d.fail i c).st k).isLeft = true := fun k h1 h2 => by
    rw [hs]
    unfold spread
    rw [if_pos ⟨h1, h2⟩]
    rfl
  have bad_of : ∀ j, (setS d.st i (.failed c) j).isBad = true → ((d.fail i c).st j).isBad = true := fun j hj => by
    rw [keepN j (by cases hx : setS d.st i (.failed c) j <;> first | rfl | (rw [hx] at hj; cases hj))]
    exact hj
  refine ⟨fun k hk => ?_, fun k j hd hn => ?_, fun k j hd hn => ?_, fun k j hn hb => ?_, fun k hlf => ?_⟩
  · rw [hs]
    unfold spread
    split
    · rfl
    · rw [hs0]
      split
      · rfl
      · exact h.needed k hk
  · exact (done_iff j).2 (h.done k j ((done_iff k).1 hd) hn)
  · rcases failed_is k hd with e | e
    · subst e
      exact (done_iff j).2 (Good.ready_needs hr hn)
    · exact (done_iff j).2 (h.failed k j e hn)
  · have hk := (Ru.needs_lt (l := d.l) hn).1
    -- what j was
    have hj : (setS d.st i (.failed c) j).isBad = true ∨ ((setS d.st i (.failed c) j).isWaits = true ∧ Chain d.l (setS d.st i (.failed c)) j) := by
      rw [hs] at hb
      unfold spread at hb
      split at hb
      · rename_i hx; exact .inr hx
      · exact .inl hb
    have hnd : (d.st j).isDone = false := by
      rw [hs0] at hj
      split at hj
      · rename_i e; rw [e, hw]; rfl
      · rcases hj with h1 | h1
        · cases hx : d.st j <;> first | rfl | (rw [hx] at h1; cases h1)
        · rw [St.waits_eq h1.1]; rfl
    by_cases ki : k = i
    · subst ki
      have := Good.ready_needs hr hn
      rw [hnd] at this
      cases this
    · have hk0 : setS d.st i (.failed c) k = d.st k := by rw [hs0, if_neg ki]
      rcases St.five (d.st k) with h1 | h1 | h1 | h1 | h1
      · rw [h.needed k hk] at h1; cases h1
      · refine left_of k (by rw [hk0]; exact h1) ?_
        rcases hj with h2 | h2
        · exact .one hn h2
        · exact .more hn h2.1 h2.2
      · have := h.done k j h1 hn
        rw [hnd] at this
        cases this
      · have := h.failed k j h1 hn
        rw [hnd] at this
        cases this
      · rw [keepN k (by rw [hk0]; cases hx : d.st k <;> first | rfl | (rw [hx] at h1; cases h1)), hk0]
        exact h1
  · -- what is left has one that is bad
    have hx : ((setS d.st i (.failed c) k).isWaits = true ∧ Chain d.l (setS d.st i (.failed c)) k) ∨ (setS d.st i (.failed c) k).isLeft = true := by
      rw [hs] at hlf
      unfold spread at hlf
      split at hlf
      · rename_i hx; exact .inl hx
      · exact .inr hlf
    rcases hx with ⟨_, hc⟩ | h1
    · cases hc with
      | @one _ j hn hb => exact ⟨j, hn, bad_of j hb⟩
      | @more _ j hn hwj hcj =>
        refine ⟨j, hn, ?_⟩
        have := left_of j hwj hcj
        cases hy : (d.fail i c).st j <;> first | rfl | (rw [hy] at this; cases this)
    · rw [hs0] at h1
      split at h1
      · cases h1
      · obtain ⟨j, hn, hb⟩ := h.left k h1
        refine ⟨j, hn, bad_of j ?_⟩
        rw [hs0]
        split
        · rfl
        · exact hb
theorem Good.go {d : Bd} (h : Good d) (act : Act) (c : Ca) {i : Nat} (hr : d.isReady i = true) : Good (go act c d i).d := by
  unfold Bf.go
  split
  · exact h.fail hr _
  · split
    · exact h.set hr _ _
    · split
      · exact h.set hr _ _
      · exact h.fail hr _
theorem Good.ready {d : Bd} (h : Good d) {rank : Nat → Nat} (hrk : ∀ i k, Ru.needs d.l i k = true → rank k < rank i) {k : Nat} (hk : k < d.l.length) (hw : (d.st k).isWaits = true) : d.ready ≠ [] := by
  have key : ∀ n k, rank k ≤ n → k < d.l.length → (d.st k).isWaits = true → ∃ i, i < d.l.length ∧ d.isReady i = true := by
    intro n
    induction n with
    | zero =>
      intro k hr hk hw
      refine ⟨k, hk, ready_of (St.waits_eq hw) fun j _ hn => ?_⟩
      have := hrk k j hn
      omega
    | succ n ih =>
      intro k hr hk hw
      by_cases hx : ∃ j, Ru.needs d.l k j = true ∧ (d.st j).isWaits = true
      · obtain ⟨j, hn, hj⟩ := hx
        have := hrk k j hn
        exact ih j (by omega) (Ru.needs_lt hn).2 hj
      · refine ⟨k, hk, ready_of (St.waits_eq hw) fun j hj hn => ?_⟩
        rcases St.five (d.st j) with h1 | h1 | h1 | h1 | h1
        · rw [h.needed j hj] at h1; cases h1
        · exact absurd ⟨j, hn, h1⟩ hx
        · exact h1
        · have := h.bad k j hn (by rw [St.bad_eq, h1]; rfl)
          rw [St.waits_eq hw] at this
          cases this
        · have := h.bad k j hn (by rw [St.bad_eq, h1]; simp)
          rw [St.waits_eq hw] at this
          cases this
  obtain ⟨i, hi, hr⟩ := key (rank k) k (Nat.le_refl _) hk hw
  intro e
  have := mem_ready.2 ⟨hi, hr⟩
  rw [e] at this
  cases this
def St.ran (s : St) : Bool := s.isDone || s.isFailed
theorem go_ran (act : Act) (c : Ca) (d : Bd) {i : Nat} (hr : d.isReady i = true) (k : Nat) : ((go act c d i).d.st k).ran = if k = i then true else (d.st k).ran := by
  have hw := ready_waits hr
  have hset : ∀ s b, ((d.set i (.done s b)).st k).ran = if k = i then true else (d.st k).ran := fun s b => by
    show (setS d.st i (.done s b) k).ran = _
    unfold setS
    split <;> rfl
  have hfail : ∀ e, ((d.fail i e).st k).ran = if k = i then true else (d.st k).ran := fun e => by
    show (spread d.l (setS d.st i (.failed e)) k).ran = _
    unfold spread
    split
    · rename_i hx
      have hx1 := hx.1
      unfold setS at hx1
      split at hx1
      · cases hx1
      · rename_i e
        rw [if_neg e, St.waits_eq hx1]
        rfl
    · unfold setS
      split <;> rfl
  unfold Bf.go
  split
  · exact hfail _
  · split
    · exact hset _ _
    · split
      · exact hset _ _
      · exact hfail _
end Bf
end Go.Proofs.YtflbofdpfgkmcaaGreatDoor
