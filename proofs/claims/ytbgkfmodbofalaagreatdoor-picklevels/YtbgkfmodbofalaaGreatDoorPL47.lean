import Derived.Test.YtbgkfmodbofalaaGreatDoorPL38
namespace Go.Proofs.YtbgkfmodbofalaaGreatDoor
open Go.RowKit Go.Shelf Go.Lib Go.Maps
theorem NewTells.below {es : Nat → Addr} {n : Nat} {fs : Tf.Fs} {l : List Ru} {outs : List (List UInt8)} {cv : Value} {w w' : World} {ev : Value} (h : NewTells es (BuAt es) n fs l outs cv w (.pointer none) ev) (hb : Below w.heap.size w w') : NewTells es (BuAt es) n fs l outs cv w' (.pointer none) ev := by
  rcases h with ⟨h0, h1 | ⟨h1, k, hk, h2, h3, h4⟩ | h1⟩ | ⟨_, _, _, _, ⟨p, e⟩, _⟩
  · exact .inl ⟨h0, .inl ⟨h1.1, h1.2.below hb⟩⟩
  · exact .inl ⟨h0, .inr (.inl ⟨h1, k, hk, h2, h3, h4.below hb⟩)⟩
  · exact .inl ⟨h0, .inr (.inr h1)⟩
  · cases e
set_option maxRecDepth 100000 in
set_option maxHeartbeats 4000000 in
theorem newOrder_calls {es : Nat → Addr} {V : World} (hG : GraphW V es) (lv : Value) (l : List Ru) (hrow : RRow V lv l) (hl : l.length ≤ 1000) (hS : ∀ x ∈ l, x.Small) (nb : Nat) (v : Value) (ll : List Nat) (hc : V.cell? ⟨nb, 0, none⟩ = some v) (hr : NIRow V v ll) (hll : ll.length ≤ 1000) (hcl : ∀ i k, i ∈ ll → Ru.needs l i k = true → k ∈ ll) :
    Calls Tryz.prog 114 #[lv, .func (.func 125) #[] #[.pointer (some ⟨nb, 0, none⟩)]] V fun e w' => ∃ u ev, e = .returned (.tuple #[u, ev]) ∧ Below V.heap.size V w' ∧ SomeTells es l (fun k => decide (k ∈ ll)) w' u ev :=
  grOrderOf_calls hG lv l hrow hl hS 125 #[.pointer (some ⟨nb, 0, none⟩)] (enters_of Tryz.func125 (by kernel_rfl) rfl) (fun k => decide (k ∈ ll)) (hid1 fun i k hi hk => by
    simp only [decide_eq_true_eq] at hi ⊢
    exact hcl i k hi hk) (hid1 fun x W' _ gW => containsI_new (cell_below' hc gW) (hr.below gW) hll x)
set_option maxRecDepth 100000 in
set_option maxHeartbeats 16000000 in
theorem buNew_calls {es : Nat → Addr} {W : World} (hW : BuildW W es) {Bt tb : Nat} {fs : Tf.Fs} {o : Option Nat} (hT : TreeAt Bt W tb fs o) (lv : Value) (l : List Ru) (hrow : RRow W lv l) (hl : l.length ≤ 1000) (hS : ∀ x ∈ l, x.Small) (ov : Value) (outs : List (List UInt8)) (hout : XRow W ov outs) (hol : outs.length ≤ 1000) (cv : Value) (hcv : ∃ q, cv = .pointer q) :
    Calls Tryz.prog 62 #[Ptr tb, lv, ov, cv] W fun e w' => ∃ bv ev, e = .returned (.tuple #[bv, ev]) ∧ Below W.heap.size W w' ∧ NewTells es (BuAt es) W.heap.size fs l outs cv w' bv ev := by
  have HNd := hid1 (gNeeds_calls hW.g.s hW.none lv l hrow hl hS ov outs hout hol)
  have HOf := hid1 fun (V : World) (g : Below W.heap.size W V) => newOrder_calls (hW.g.below g) lv l (hrow.below g) hl hS
  have HSt := hid1 fun (V : World) (g : Below W.heap.size W V) (h40 : l.length ≤ 40) (hA : Ru.Apart l) (uv : Value) (ord : List Nat) (hord : NIRow V uv ord) (ht : Ru.Topo l ord) (hnd : ord.Nodup) (ho : ∀ i ∈ ord, i < l.length) => stepsOf_calls (es := es) (hT.below g) lv l (hrow.below g) h40 hS hA uv ord hord ht hnd ho
  have HS := hid1 hS
  obtain ⟨q, rfl⟩ := hcv
  obtain ⟨pl, cl, rfl, -⟩ := hrow
  obtain ⟨po, co, rfl, -⟩ := hout
  clear hW hT hS
  go_enter Tryz.func62, Tryz.ntmps62
  go_wp2_with fail
  refine HNd.out.mono ?_
  rintro e w1 ⟨u1, ev, rfl, g1, hT1⟩
  clear HNd
  rcases hT1 with ⟨hf, hE, pn, cn, rfl⟩ | ⟨hf, k, hk, h1, h2, hE, pn, cn, rfl⟩ | ⟨hf, h1, rfl, f, hN, hrw⟩
  · have HP : Hid (NewTells es (BuAt es) W.heap.size fs l outs (.pointer q) w1 (.pointer none) ev) := hid1 (.inl ⟨rfl, .inl ⟨hf, hE⟩⟩)
    obtain ⟨t, x, rfl⟩ := hE.some hf
    have gA : Below w1.heap.size w1 (w1.alloc (.cells #[.slice pn 0 cn] 68)) := (Below.refl _ w1).alloc (Nat.le_refl _) _
    clear hf hE HOf HSt
    go_wp2
    go_ret2
    exact ⟨_, _, rfl, below_then g1 gA, HP.out.below gA⟩
  · have HP : Hid (NewTells es (BuAt es) W.heap.size fs l outs (.pointer q) w1 (.pointer none) ev) := hid1 (.inl ⟨rfl, .inr (.inl ⟨hf, k, hk, h1, h2, hE⟩)⟩)
    obtain ⟨t, x, rfl⟩ := hE.some (by simp)
    have gA : Below w1.heap.size w1 (w1.alloc (.cells #[.slice pn 0 cn] 68)) := (Below.refl _ w1).alloc (Nat.le_refl _) _
    clear hf hE h1 h2 HOf HSt
    go_wp2
    go_ret2
    exact ⟨_, _, rfl, below_then g1 gA, HP.out.below gA⟩
  · obtain ⟨h40, hA⟩ := Ru.fault_ok hf
    have HR1 := hid1 hrw
    obtain ⟨pn, cn, rfl, -⟩ := hrw
    have gA : Below w1.heap.size w1 (w1.alloc (.cells #[.slice pn ((List.range l.length).filter f).length cn] 68)) := (Below.refl _ w1).alloc (Nat.le_refl _) _
    have G2 := below_then g1 gA
    have hfl : ((List.range l.length).filter f).length ≤ 40 := Nat.le_trans (by simpa using List.length_filter_le f (List.range l.length)) h40
    have hch : ∀ k, k < l.length → (decide (k ∈ (List.range l.length).filter f)) = Bf.need l outs k := fun k hk => by
      rw [Bf.need_eq hN hk]
      simp [hk]
    have HCh := hid1 (Ru.order_congr2 hch)
    have HO := hid1 (HOf.out _ G2 w1.heap.size _ _ (by simp) (HR1.out.below gA) (by omega) fun i k hi hk => by
      simp only [List.mem_filter, List.mem_range] at hi ⊢
      exact ⟨(Ru.needs_lt hk).2, hN.closed i k hi.2 hk⟩)
    unfold SomeTells at HO
    rw [HCh.out] at HO
    have HFt := hid1 hf
    have H1 := hid1 h1
    have HN := hid1 hN
    have HA := hid1 hA
    have hsh := HR1.out
    clear hf h1 hN hA HOf HCh hch hsh HR1
    go_wp2_with fail
    refine HO.out.mono ?_
    rintro e w3 ⟨u3, ev3, rfl, g3, hT3⟩
    have G3 := below_then G2 g3
    clear HO
    rcases hT3 with ⟨h0, -⟩ | ⟨-, hnone, rfl, pn3, cn3, rfl⟩ | ⟨-, ord, hsome, rfl, hr3⟩
    · exact absurd HFt.out h0
    · have HP : Hid (NewTells es (BuAt es) W.heap.size fs l outs (.pointer q) w3 (.pointer none) (erOf es 9)) := hid1 (.inl ⟨rfl, .inr (.inr ⟨HFt.out, H1.out, hnone, rfl⟩)⟩)
      clear hnone HSt
      obtain ⟨t9, x9, e9⟩ : ∃ t x, erOf es 9 = .iface t x := ⟨_, _, rfl⟩
      rw [e9] at HP ⊢
      clear e9
      go_wp2
      go_ret2
      exact ⟨_, _, rfl, G3, HP.out⟩
    · obtain ⟨ht, hall⟩ := Ru.order_some hsome
      obtain ⟨hnd, hlt⟩ := Ru.order_nodup hsome
      have hch := Ru.order_ch hsome
      have HSo := hid1 (HSt.out w3 G3 h40 HA.out u3 ord hr3 ht hnd hlt)
      have hol2 : ord.length ≤ 40 := Nat.le_trans (len_le hnd hlt) h40
      have HMem : Hid (∀ k, k ∈ ord ↔ k < l.length ∧ f k = true) := hid1 fun k => by
        constructor
        · intro hk
          have h1 := hlt k hk
          exact ⟨h1, by rw [← Bf.need_eq HN.out h1]; exact hch k hk⟩
        · rintro ⟨h1, h2⟩
          exact hall k h1 (by rw [Bf.need_eq HN.out h1]; exact h2)
      have HSome : Hid ((Ru.order l (Bf.need l outs)).isSome = true) := hid1 (by rw [hsome]; rfl)
      obtain ⟨p3, c3, rfl, -⟩ := hr3
      clear HSt ht hall hnd hlt hch hsome
      go_wp2_with fail
      refine HSo.out.mono ?_
      rintro e w4 ⟨bm, mb, L, rfl, hO4⟩
      have g4 : Below w3.heap.size w3 w4 := hO4.made.base
      have gB : Below w4.heap.size w4 (w4.alloc (.cells #[.map (some bm), .pointer q] 204)) := (Below.refl _ w4).alloc (Nat.le_refl _) _
      have rr := row_new w4 (.cells #[.map (some bm), .pointer q] 204)
      obtain ⟨hB, hlo⟩ := hO4.build HA.out HS.out HN.out HMem.out hol2 (cv := .pointer q) gB (Nat.le_refl _) (cell_of_row (j := 0) rr rfl) (cell_of_row (j := 1) rr rfl)
      have hz3 := G3.size
      have HP : Hid (NewTells es (BuAt es) W.heap.size fs l outs (.pointer q) (w4.alloc (.cells #[.map (some bm), .pointer q] 204)) (Ptr w4.heap.size) .nilIface) := hid1 (.inr ⟨HFt.out, H1.out, HSome.out, rfl, ⟨_, rfl⟩, _, ⟨_, _, _, L, rfl, ⟨q, rfl⟩, fun _ => Iff.rfl, hB⟩, fun j hj => Nat.le_trans hz3 (hlo j hj)⟩)
      have G5 := below_then (below_then G3 g4) gB
      clear HSo hO4 hB hlo rr g4 gB
      go_wp2
      go_ret2
      exact ⟨_, _, rfl, G5, HP.out⟩
end Go.Proofs.YtbgkfmodbofalaaGreatDoor
namespace Go.Proofs.YtbgkfmodbofalaaGreatDoor
open Go.RowKit Go.Shelf Go.Lib Go.Maps
theorem builds (es : Nat → Addr) : Builds es Af.actO CAt (BuAt es) where
  same := fun S W W' v cv d h _ hb => by
    obtain ⟨bb, bm, n, L, e, hc, hS, h⟩ := h
    exact ⟨bb, bm, n, L, e, hc, hS, h.same fun j hj => hb j ((hS j).2 hj)⟩
  lt := fun S W v cv d h k hk => by
    obtain ⟨bb, bm, n, L, e, hc, hS, h⟩ := h
    exact h.lt k ((hS k).1 hk)
  noTree := fun W lv l ov outs cv hW _ _ => buNew_nil hW lv ov cv
  new := fun W B tb fs o lv l ov outs cv hW hT _ _ _ hrow hl hS hout hol _ hcv => buNew_calls hW hT lv l hrow (by omega) hS ov outs hout (by omega) cv hcv
  ready := fun S W p cv d h hl => by
    obtain ⟨bb, bm, n, L, e, hc, hS, h⟩ := h
    cases e
    exact buReady_calls h (by omega)
  state := fun S W p cv d i h _ h0 h1 => by
    obtain ⟨bb, bm, n, L, e, hc, hS, h⟩ := h
    cases e
    exact buState_calls h i h0 h1
  result := fun S W p cv d i h _ h0 h1 => by
    obtain ⟨bb, bm, n, L, e, hc, hS, h⟩ := h
    cases e
    exact buResult_calls h i h0 h1
  why := fun S W p cv d i h _ _ h0 h1 => by
    obtain ⟨bb, bm, n, L, e, hc, hS, h⟩ := h
    cases e
    exact buWhy_calls h i h0 h1
  over := fun S W p cv d h hl => by
    obtain ⟨bb, bm, n, L, e, hc, hS, h⟩ := h
    cases e
    exact buOver_calls h (by omega)
  count := fun S W p cv d h hl => by
    obtain ⟨bb, bm, n, L, e, hc, hS, h⟩ := h
    cases e
    exact buCount_calls h (by omega)
  run := fun B S SC W p cv d c i h hC hap hW hSB hSC hf hS hfit hcf h0 h1 => by
    obtain ⟨bb, bm, n, L, e, hc, hB, h⟩ := h
    cases e
    refine (buRun_calls h hC (fun j hj => hap j ((hB j).2 hj)) hW hSC hS hfit hcf i h0 h1).mono ?_
    rintro e w' ⟨rfl, hM, hO, SC', hC', hSC'⟩
    have hdom : ∀ j, BBlk bb bm (Bf.run Af.actO c d i).d L j ↔ BBlk bb bm d L j := fun j => by
      have : (Bf.run Af.actO c d i).d.dom = d.dom := by
        unfold Bf.run
        split
        · rfl
        · unfold Bf.runN
          split
          · rfl
          · split
            · rfl
            · split
              · rfl
              · rename_i h5
                exact dom_go c d (by simpa using h5)
      unfold BBlk
      rw [this]
    have hlt := h.lt
    refine ⟨rfl, ⟨hO.os, hO.tape, hO.output, hO.size, fun j hj hn => hO.block j hj fun e => hn (e.imp_left (hB j).2)⟩, S, SC', ⟨bb, bm, n, L, rfl, hc, fun j => (hB j).trans (hdom j).symm, hM⟩, hC', fun j hj hx => ?_, fun j hj => .inl hj, hSC'⟩
    rcases hSC' j hx with h2 | h2
    · exact hap j hj h2
    · have := hlt j ((hB j).1 hj)
      omega
  all := fun B S SC W p cv d c h hC hap hW hSB hSC hf hS hfit hcf => by
    obtain ⟨bb, bm, n, L, e, hc, hB, h⟩ := h
    cases e
    obtain ⟨h40, _⟩ := Ru.fault_ok hf
    refine (buAll_calls h hC (fun j hj => hap j ((hB j).2 hj)) hW (fun j hj => hSB j ((hB j).2 hj)) hSC hS (by omega) hfit hcf).mono ?_
    rintro e w' ⟨rfl, hM, hO, SC', hC', hSC'⟩
    have hdom : ∀ j, BBlk bb bm (Bf.all Af.actO c d).1 L j ↔ BBlk bb bm d L j := fun j => by
      have key : ∀ (f : Nat) (c : Bf.Ca) (d : Bf.Bd), (Bf.allF Af.actO f c d).1.dom = d.dom := fun f => by
        induction f with
        | zero => exact fun _ _ => rfl
        | succ f ih =>
          intro c d
          unfold Bf.allF
          cases hq : d.ready with
          | nil => rfl
          | cons i q =>
            have hm := Bf.mem_ready.1 (show i ∈ d.ready by rw [hq]; simp)
            exact (ih _ _).trans (dom_go c d hm.2)
      unfold BBlk
      rw [show (Bf.all Af.actO c d).1.dom = d.dom from key _ c d]
    have hlt := h.lt
    refine ⟨rfl, ⟨hO.os, hO.tape, hO.output, hO.size, fun j hj hn => hO.block j hj fun e => hn (e.imp_left (hB j).2)⟩, S, SC', ⟨bb, bm, n, L, rfl, hc, fun j => (hB j).trans (hdom j).symm, hM⟩, hC', fun j hj hx => ?_, fun j hj => .inl hj, hSC'⟩
    rcases hSC' j hx with h2 | h2
    · exact hap j hj h2
    · have := hlt j ((hB j).1 hj)
      omega
end Go.Proofs.YtbgkfmodbofalaaGreatDoor
