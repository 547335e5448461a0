import Derived.Deep.RegionHeld3
import Derived.Test.YtbgkfmodbofalaaGreatDoorPS40
import Derived.Test.YtbgkfmodbofalaaGreatDoorPS41
import Derived.Test.YtbgkfmodbofalaaGreatDoorPS20
import Derived.Test.YtbgkfmodbofalaaGreatDoorPS36
namespace Go.Proofs.YtbgkfmodbofalaaGreatDoor
open Go.RowKit Go.Shelf Go.Lib
open Tf (Fs)
set_option maxRecDepth 100000 in
set_option maxHeartbeats 8000000 in
theorem longFiles3_calls {w : World} (v : Value) (l : Fs) (hrow : FIRow w v l) :
    Calls Tryz.prog 86 #[v] w fun e w' => ∃ b, e = .returned (.bool b) ∧ w' = w ∧ (b = true ∨ ShortF l) := by
  obtain ⟨p, cap, rfl, hin⟩ := hrow
  have HI := hid1 hin
  clear hin
  by_cases h30 : 30 < l.length
  · have z : (30 : Int) < (l.length : Int) := by omega
    go_enter Tryz.func86, Tryz.ntmps86
    go_wp2
    go_ret
    exact ⟨true, rfl, rfl, .inl rfl⟩
  · have z : (l.length : Int) ≤ (30 : Int) := by omega
    go_enter Tryz.func86, Tryz.ntmps86
    go_wp2
    go_loopw [3, 4] (fun nv' iv wr => ∃ (k n : Nat), k ≤ l.length ∧ iv = .int .i64 k ∧ nv' = .int .i64 n ∧ n ≤ 4000 ∧ (∀ j (hj : j < l.length), j < k → l[j].1.length ≤ 100 ∧ l[j].2.length ≤ 4000) ∧ w = wr) (fun _ iv _ => l.length - (intOf iv).toNat)
    case atStart => exact ⟨0, 0, Nat.zero_le _, rfl, rfl, Nat.zero_le _, fun j _ h => by omega, rfl⟩
    case round =>
      obtain ⟨k, n, hk, rfl, rfl, hn, hs, rfl⟩ := hrel
      have HS := hid1 hs
      clear hs
      have k0 : (0 : Int) ≤ (k : Int) := by omega
      have zn : (n : Int) ≤ 4000 := by omega
      have zn0 : (0 : Int) ≤ (n : Int) := by omega
      by_cases hlt : k < l.length
      · have k1 : (k : Int) < (l.length : Int) := by omega
        obtain ⟨g, o, rfl, hg, hc⟩ := HI.out (by intro e; rw [e] at hlt; simp at hlt)
        have d0 := (hc k hlt).1
        have d1 := (hc k hlt).2
        have HNx : Hid (l[k].1.length ≤ 100 → l[k].2.length ≤ 4000 → ∀ j (hj : j < l.length), j < k + 1 → l[j].1.length ≤ 100 ∧ l[j].2.length ≤ 4000) := hid1 fun h1 h2 j hj hjk => by
          by_cases e : j = k
          · subst e; exact ⟨h1, h2⟩
          · exact HS.out j hj (by omega)
        clear hc HI HS
        generalize l[k] = y at *
        obtain ⟨y1, y2⟩ := y
        simp only at d0 d1 HNx
        by_cases h1 : 4000 < y2.length
        · have z1 : (4000 : Int) < (y2.length : Int) := by omega
          go_wp2
          go_ret
          exact ⟨true, rfl, rfl, .inl rfl⟩
        · have z1 : (y2.length : Int) ≤ (4000 : Int) := by omega
          by_cases h2 : 100 < y1.length
          · have z2 : (100 : Int) < (y1.length : Int) := by omega
            go_wp2
            go_ret
            exact ⟨true, rfl, rfl, .inl rfl⟩
          · have z2 : (y1.length : Int) ≤ (100 : Int) := by omega
            by_cases h3 : 4000 < n + y2.length
            · have z3 : (4000 : Int) < (n : Int) + (y2.length : Int) := by omega
              go_wp2
              go_ret
              exact ⟨true, rfl, rfl, .inl rfl⟩
            · have z3 : (n : Int) + (y2.length : Int) ≤ (4000 : Int) := by omega
              have HQ := hid1 (HNx.out (by omega) (by omega))
              clear HNx
              go_wp2
              exact ⟨⟨k + 1, n + y2.length, by omega, by go_num, by go_num, by omega, HQ.out, trivial⟩, by simp [intOf]; omega⟩
      · have k1 : (l.length : Int) ≤ (k : Int) := by omega
        have HQ : Hid (ShortF l) := hid1 ⟨by omega, fun f hf => by
          obtain ⟨j, hj, rfl⟩ := List.getElem_of_mem hf
          exact (HS.out j hj (by omega)).1, fun f hf => by
          obtain ⟨j, hj, rfl⟩ := List.getElem_of_mem hf
          exact (HS.out j hj (by omega)).2⟩
        clear HS HI
        go_wp2
        go_ret
        exact ⟨false, rfl, rfl, .inr HQ.out⟩
set_option maxRecDepth 100000 in
set_option maxHeartbeats 16000000 in
theorem fileTree3_calls {w : World} {es : Nat → Value} (hE : TErr w es) (v : Value) (l : Fs) (hrow : FIRow w v l) (hs : ShortF l) :
    Calls Tryz.prog 87 #[v] w fun e w' => ∃ T M o u, e = .returned (.tuple #[Ptr T, Ptr M]) ∧ Both w.heap.size w' T M (Tf.taken l) o u ∧ Below w.heap.size w w' := by
  obtain ⟨p, cap, rfl, hin⟩ := hrow
  have HI := hid1 hin
  have HE := hid1 hE
  have HNw := hid1 (New_calls w)
  have HS := hid1 hs
  have hfew := hs.few
  have zl : (l.length : Int) ≤ 30 := by omega
  clear hin hE hs
  go_enter Tryz.func87, Tryz.ntmps87
  go_wp2_with fail
  refine HNw.out.mono ?_
  rintro e w1 ⟨rfl, hT, g1⟩
  have a1 : Below w1.heap.size w1 (w1.alloc (.cells #[.slice none 0 0] 38)) := (Below.refl _ w1).alloc (Nat.le_refl _) _
  have hz1 : w.heap.size < w1.heap.size := hT.lt
  have hT2 := hT.below a1
  have hB0 : Both w.heap.size (w1.alloc (.cells #[.slice none 0 0] 38)) w.heap.size w1.heap.size (Tf.taken []) none (.slice none 0 0) :=
    ⟨hT2, ⟨g1.size, by simp, by simp, World.ownsRow_nil _ _ _ _, by simp [Value.ownBlock], fun _ => rfl⟩, Tf.Well.nil _, by omega, by simp, by simp [Value.ownBlock], fun j e => by cases e⟩
  have G2 := below_then g1 a1
  have HB0 := hid1 (And.intro hB0 G2)
  clear HNw hT g1 a1 hT2 hB0 G2
  go_wp2
  go_loopw [6] (fun iv wr => ∃ (k : Nat) (o : Option Nat) (u : Value), k ≤ l.length ∧ iv = .int .i64 k ∧ Both w.heap.size wr w.heap.size w1.heap.size (Tf.taken (l.take k)) o u ∧ Below w.heap.size w wr) (fun iv _ => l.length - (intOf iv).toNat)
  case atStart => exact ⟨0, none, _, Nat.zero_le _, rfl, HB0.out.1, HB0.out.2⟩
  case round =>
    clear HB0
    obtain ⟨k, o, u, hk, rfl, hBo, hB⟩ := hrel
    have k0 : (0 : Int) ≤ (k : Int) := by omega
    by_cases hlt : k < l.length
    · have k1 : (k : Int) < (l.length : Int) := by omega
      obtain ⟨g, oo, rfl, hg, hc⟩ := HI.out (by intro e; rw [e] at hlt; simp at hlt)
      have d0 := (hB.cell (p := ⟨g, oo + k * 2, none⟩) hg).trans (hc k hlt).1
      have d1 := (hB.cell (p := ⟨g, oo + k * 2 + 1, none⟩) hg).trans (hc k hlt).2
      have HTk : Hid (Tf.taken (l.take (k + 1)) = Tf.putF pathB (Tf.taken (l.take k)) l[k].1 l[k].2) := hid1 (by
        rw [List.take_succ_eq_append_getElem hlt, Tf.taken_snoc])
      have hp := HS.out.path _ (List.getElem_mem hlt)
      have hlen := Tf.taken_len (l.take k)
      rw [List.length_take] at hlen
      have hps : ∀ f ∈ Tf.taken (l.take k), f.1.length ≤ 1000000 := fun f hf => by
        have := HS.out.path f (List.mem_of_mem_take (Tf.taken_mem _ f hf))
        omega
      have HP1 := hid1 (PutK_calls (w := wr.drew) (hBo.below (below_draws (Below.refl _ wr) 1)).t ((HE.out.below hB).below (below_draws (Below.refl _ wr) 1)) hps (by omega) l[k].1 l[k].2 (by omega))
      have HD := hid1 fun (V : World) (gV : Below w.heap.size w V) => And.intro ((gV.cell (p := ⟨g, oo + k * 2, none⟩) hg).trans (hc k hlt).1) ((gV.cell (p := ⟨g, oo + k * 2 + 1, none⟩) hg).trans (hc k hlt).2)
      clear hc
      generalize l[k] = y at *
      obtain ⟨y1, y2⟩ := y
      simp only at d0 d1 HTk HP1 HD hp
      have HBo := hid1 (hBo.below (below_draws (Below.refl _ wr) 1))
      have hB' : Below w.heap.size w wr.drew := hB.drew
      clear hBo
      go_wp2
      go_region_held3 (fun w' => w'.cell? ⟨g, oo + k * 2, none⟩ = some (.string (ba y1)) ∧ w'.cell? ⟨g, oo + k * 2 + 1, none⟩ = some (.string (ba y2))) (first | go_keep | fail)
        (first | (go_at_call 22; refine HP1.out.mono ?_; rintro e w5 ⟨rfl, ⟨o5, hon5, hT5⟩, hb5, hk5⟩; (have G5 := hB'.trans hb5); (have dd := HD.out w5 G5); (have e0 := dd.1); (have e1 := dd.2)) | fail)
      all_goals
        have hh := HBo.out.half hT5 hon5 hk5
        have hdr : Below w5.heap.size w5 w5.drew := below_draws (Below.refl _ w5) 1
        have hh' : Half w.heap.size wr.drew w5.drew w.heap.size w1.heap.size (Tf.taken (l.take k)) (Tf.putF pathB (Tf.taken (l.take k)) y1 y2) o o5 u := ⟨hh.t.below hdr, hh.m.below hdr, hh.on, hh.size⟩
        have HP2 := hid1 (rPutK_calls hh'.m HBo.out.well y1 y2 (by omega))
        have HH := hid1 hh'
        have G5' : Below w.heap.size w w5.drew := G5.drew
        clear hh hh' hT5 hon5 hk5 hb5 hdr
        go_wp2
        go_region_held3 (fun w' => w'.cell? ⟨g, oo + k * 2, none⟩ = some (.string (ba y1)) ∧ w'.cell? ⟨g, oo + k * 2 + 1, none⟩ = some (.string (ba y2))) (first | go_keep | fail)
          (first | (go_at_call 23; refine HP2.out.mono ?_; rintro e w6 ⟨rfl, ⟨u6, hon6, hT6⟩, hb6, hk6⟩; (have G6 := G5'.trans hb6); (have dd6 := HD.out w6 G6); (have x0 := dd6.1); (have x1 := dd6.2)) | fail)
        all_goals
          have hbo := HH.out.both HBo.out hT6 hon6 hk6 (HBo.out.well.putF y1 y2)
          have HB6 := hid1 hbo
          clear hbo hT6 hon6 hk6 hb6
          go_wp2
          exact ⟨⟨k + 1, o5, u6, by omega, by go_num, by rw [HTk.out]; exact HB6.out, G6⟩, by simp [intOf]; omega⟩
    · have k1 : (l.length : Int) ≤ (k : Int) := by omega
      obtain rfl : k = l.length := by omega
      have HQ := hid1 hBo
      rw [List.take_length] at HQ
      clear hBo
      go_wp2
      go_ret2
      exact ⟨_, _, o, u, rfl, HQ.out, hB⟩
end Go.Proofs.YtbgkfmodbofalaaGreatDoor
namespace Go.Proofs.YtbgkfmodbofalaaGreatDoor
open Go.RowKit Go.Shelf Go.Lib
theorem CaAt.sameG {es : Nat → Addr} {At : (Nat → Prop) → World → Value → Nat → Cf.Ens → Prop} (HC : Caches0 es At) {SC : Nat → Prop} {W W' : World} {cv : Value} {c : Bf.Ca} (h : CaAt At SC W cv c) (hz : W.heap.size ≤ W'.heap.size) (hb : ∀ k, SC k → W'.heap[k]? = W.heap[k]?) : CaAt At SC W' cv c := by
  cases c with
  | none => exact h
  | some x => exact ⟨h.1, HC.same _ _ _ _ _ _ h.2 hz hb⟩
theorem CaAt.ltG {es : Nat → Addr} {At : (Nat → Prop) → World → Value → Nat → Cf.Ens → Prop} (HC : Caches0 es At) {SC : Nat → Prop} {W : World} {cv : Value} {c : Bf.Ca} (h : CaAt At SC W cv c) : ∀ k, SC k → k < W.heap.size := by
  cases c with
  | none => exact fun k hk => absurd hk (h.2 k)
  | some x => exact HC.lt _ _ _ _ _ h.2
structure Tri (At : (Nat → Prop) → World → Value → Nat → Cf.Ens → Prop) (BAt : (Nat → Prop) → World → Value → Value → Bf.Bd → Prop) (wB : World) (pa pb pd : Addr) (cv : Value) (da db dd : Bf.Bd) (c : Bf.Ca) (Sa Sb Sd SC : Nat → Prop) (wr : World) : Prop where
  a : BAt Sa wr (.pointer (some pa)) cv da
  b : BAt Sb wr (.pointer (some pb)) (.pointer none) db
  d : BAt Sd wr (.pointer (some pd)) cv dd
  c : CaAt At SC wr cv c
  ab : ∀ j, Sa j → ¬ Sb j
  ad : ∀ j, Sa j → ¬ Sd j
  ac : ∀ j, Sa j → ¬ SC j
  bd : ∀ j, Sb j → ¬ Sd j
  bc : ∀ j, Sb j → ¬ SC j
  dc : ∀ j, Sd j → ¬ SC j
  la : ∀ j, Sa j → wB.heap.size ≤ j
  lb : ∀ j, Sb j → wB.heap.size ≤ j
  ld : ∀ j, Sd j → wB.heap.size ≤ j
  lc : ∀ j, SC j → wB.heap.size ≤ j
  base : Below wB.heap.size wB wr
theorem Tri.below {es : Nat → Addr} {act : Bf.Act} {At : (Nat → Prop) → World → Value → Nat → Cf.Ens → Prop} {BAt : (Nat → Prop) → World → Value → Value → Bf.Bd → Prop} (HB : Builds es act At BAt) (HC : Caches0 es At) {wB : World} {pa pb pd : Addr} {cv : Value} {da db dd : Bf.Bd} {c : Bf.Ca} {Sa Sb Sd SC : Nat → Prop} {wr w' : World} (h : Tri At BAt wB pa pb pd cv da db dd c Sa Sb Sd SC wr) (hb : Below wr.heap.size wr w') : Tri At BAt wB pa pb pd cv da db dd c Sa Sb Sd SC w' :=
  ⟨HB.same _ _ _ _ _ _ h.a hb.size fun k hk => hb.block k (HB.lt _ _ _ _ _ h.a k hk), HB.same _ _ _ _ _ _ h.b hb.size fun k hk => hb.block k (HB.lt _ _ _ _ _ h.b k hk), HB.same _ _ _ _ _ _ h.d hb.size fun k hk => hb.block k (HB.lt _ _ _ _ _ h.d k hk), h.c.sameG HC hb.size fun k hk => hb.block k (h.c.ltG HC k hk), h.ab, h.ad, h.ac, h.bd, h.bc, h.dc, h.la, h.lb, h.ld, h.lc, below_then h.base hb⟩
theorem Tri.swap {At : (Nat → Prop) → World → Value → Nat → Cf.Ens → Prop} {BAt : (Nat → Prop) → World → Value → Value → Bf.Bd → Prop} {wB : World} {pa pb pd : Addr} {cv : Value} {da db dd : Bf.Bd} {c : Bf.Ca} {Sa Sb Sd SC : Nat → Prop} {wr : World} (h : Tri At BAt wB pa pb pd cv da db dd c Sa Sb Sd SC wr) : Tri At BAt wB pd pb pa cv dd db da c Sd Sb Sa SC wr :=
  ⟨h.d, h.b, h.a, h.c, fun j h1 h2 => h.bd j h2 h1, fun j h1 h2 => h.ad j h2 h1, h.dc, fun j h1 h2 => h.ab j h2 h1, h.bc, h.ac, h.ld, h.lb, h.la, h.lc, h.base⟩
theorem Tri.ran {es : Nat → Addr} {act : Bf.Act} {At : (Nat → Prop) → World → Value → Nat → Cf.Ens → Prop} {BAt : (Nat → Prop) → World → Value → Value → Bf.Bd → Prop} (HB : Builds es act At BAt) {wB : World} {pa pb pd : Addr} {cv : Value} {da da' db dd : Bf.Bd} {c c' : Bf.Ca} {Sa Sb Sd SC Sa' SC' : Nat → Prop} {wr w' : World} (h : Tri At BAt wB pa pb pd cv da db dd c Sa Sb Sd SC wr)
    (hO : Only (fun j => Sa j ∨ SC j) wr w') (ha : BAt Sa' w' (.pointer (some pa)) cv da') (hc : CaAt At SC' w' cv c') (hac : ∀ j, Sa' j → ¬ SC' j) (hS : ∀ j, Sa' j → Sa j ∨ wr.heap.size ≤ j) (hT : ∀ j, SC' j → SC j ∨ wr.heap.size ≤ j) : Tri At BAt wB pa pb pd cv da' db dd c' Sa' Sb Sd SC' w' := by
  have hbl := HB.lt _ _ _ _ _ h.b
  have hdl := HB.lt _ _ _ _ _ h.d
  have hz := h.base.size
  refine ⟨ha, HB.same _ _ _ _ _ _ h.b hO.size fun k hk => hO.block k (hbl k hk) fun e => e.elim (fun e => h.ab k e hk) (h.bc k hk), HB.same _ _ _ _ _ _ h.d hO.size fun k hk => hO.block k (hdl k hk) fun e => e.elim (fun e => h.ad k e hk) (h.dc k hk), hc, fun j h1 h2 => ?_, fun j h1 h2 => ?_, hac, h.bd, fun j h1 h2 => ?_, fun j h1 h2 => ?_, fun j hj => ?_, h.lb, h.ld, fun j hj => ?_, h.base.trans (hO.below (fun j hj => hj.elim (h.la j) (h.lc j)) hz)⟩
  · rcases hS j h1 with h3 | h3
    · exact h.ab j h3 h2
    · have := hbl j h2
      omega
  · rcases hS j h1 with h3 | h3
    · exact h.ad j h3 h2
    · have := hdl j h2
      omega
  · rcases hT j h2 with h3 | h3
    · exact h.bc j h1 h3
    · have := hbl j h1
      omega
  · rcases hT j h2 with h3 | h3
    · exact h.dc j h1 h3
    · have := hdl j h1
      omega
  · rcases hS j hj with h3 | h3
    · exact h.la j h3
    · omega
  · rcases hT j hj with h3 | h3
    · exact h.lc j h3
    · omega
theorem NewTells.err {es : Nat → Addr} {BAt : (Nat → Prop) → World → Value → Value → Bf.Bd → Prop} {n : Nat} {fs : Tf.Fs} {l : List Ru} {outs : List (List UInt8)} {cv : Value} {w : World} {bv ev : Value} (h : NewTells es BAt n fs l outs cv w bv ev) :
    (bv = .pointer none ∧ (∃ t x, ev = .iface t x) ∧ ¬ ((Ru.fault l).1 = 0 ∧ (∀ j (hj : j < outs.length), ∃ x ∈ l, x.out = outs[j]) ∧ (Ru.order l (Bf.need l outs)).isSome = true)) ∨
    ((Ru.fault l).1 = 0 ∧ (∀ j (hj : j < outs.length), ∃ x ∈ l, x.out = outs[j]) ∧ (Ru.order l (Bf.need l outs)).isSome = true ∧ ev = .nilIface ∧ ∃ p S, bv = .pointer (some p) ∧ BAt S w bv cv (Bf.init fs l outs) ∧ ∀ k, S k → n ≤ k) := by
  rcases h with ⟨h0, h1 | ⟨h1, k, hk, h2, h3, h4⟩ | ⟨h1, h2, h3, h4⟩⟩ | ⟨h1, h2, h3, h4, ⟨p, h5⟩, S, h6, h7⟩
  · exact .inl ⟨h0, h1.2.some h1.1, fun e => h1.1 e.1⟩
  · refine .inl ⟨h0, h4.some (by simp), fun e => ?_⟩
    obtain ⟨x, hx, ex⟩ := e.2.1 k hk
    exact h2 x hx ex
  · refine .inl ⟨h0, ⟨_, _, h4⟩, fun e => ?_⟩
    rw [h3] at e
    cases e.2.2
  · exact .inr ⟨h1, h2, h3, h4, p, S, h5, h6, h7⟩
end Go.Proofs.YtbgkfmodbofalaaGreatDoor
