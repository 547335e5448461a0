import Derived.Test.YtmhipgompplkdaaGreatDoorWL35
import Derived.Test.YtmhipgompplkdaaGreatDoorWL33
import Derived.Test.YtmhipgompplkdaaGreatDoorWL21
import Derived.Deep.RegionHeld3
import Derived.Test.YtmhipgompplkdaaGreatDoorWL31
import Derived.Test.YtmhipgompplkdaaGreatDoorWL32
import Derived.Test.YtmhipgompplkdaaGreatDoorWL22
namespace Go.Proofs.YtmhipgompplkdaaGreatDoor
open Go.RowKit Go.Shelf Go.Lib Go.Maps
open Go.Sort (putRow)
theorem CBox.turned {W w1 : World} {cb eb : Nat} {u : Value} {m : Nat} {ks : List (List UInt8)} {l l' : Cf.Ens} (h : CBox W cb eb u m ks l) (ht : W.mapTurned w1 eb) (hm : CMap w1 eb l') : CBox w1 cb eb u m ks l' := by
  have hb : ∀ j, j < W.heap.size → j ≠ eb → w1.heap[j]? = W.heap[j]? := fun j hj hn => ht.grown.block j hj (by simpa using hn)
  have bc := hb cb (lt_of_cell h.c0) h.ne1
  exact ⟨(World.cell?_of_block (a := ⟨cb, 0, none⟩) bc).trans h.c0, (World.cell?_of_block (a := ⟨cb, 1, none⟩) bc).trans h.c1, (World.cell?_of_block (a := ⟨cb, 2, none⟩) bc).trans h.c2, (World.frozen?_of_block (a := ⟨cb, 2, none⟩) bc).trans h.f2, h.row.same (fun j hj => hb j (h.row.lt hj) fun e => h.ne3 (e ▸ hj)), hm, h.ne1, h.ne2, h.ne3⟩
theorem Only.turned {S : Nat → Prop} {W w1 : World} {eb : Nat} (ht : W.mapTurned w1 eb) (hS : S eb) : Only S W w1 := by
  refine ⟨ht.grown.os, ht.grown.tape, ht.grown.output, ht.grown.size, fun j hj hs => ht.grown.block j hj fun e => hs ?_⟩
  have : j = eb := by simpa using e
  rw [this]
  exact hS
theorem CBox.put {W : World} {cb eb : Nat} {u : Value} {m : Nat} {ks : List (List UInt8)} {l : Cf.Ens} (h : CBox W cb eb u m ks l) (ho : (Cf.keys l).Nodup) (hl : l.length ≤ 1000) (k b : List UInt8) (hk : k.length ≤ 100000) :
    ∃ w1, (Instr.mapUpdate 188 (.map (some eb)) (.string (ba k)) (.agg #[.string (ba b)])).run Tryz.prog W = .ok () w1 ∧ CBox w1 cb eb u m ks (Cf.rm l k ++ [(k, b)]) ∧ Only (CBlk cb eb u) W w1 := by
  obtain ⟨D, h1, h2, h3, h4⟩ := h.isMap
  obtain ⟨w1, hr, ho1, ht⟩ := h1.store (t := 188) (e := 322) claw Tryz.underlying188 (by unfold maxLen; omega) (ckey k (by omega)) (centElem_mk b)
  exact ⟨w1, hr, h.turned ht (CMap.laid ho (h1.tidy claw) ho1 h2 h3 h4), Only.turned ht (.inr (.inl rfl))⟩
theorem CBox.drop {W : World} {cb eb : Nat} {u : Value} {m : Nat} {ks : List (List UInt8)} {e : Cf.En} {l : Cf.Ens} (h : CBox W cb eb u m ks (e :: l)) (ho : (Cf.keys (e :: l)).Nodup) (hk : e.1.length ≤ 100000) (ty : TypeId) :
    ∃ w1, (Builtin.delete_ #[188, 9] ty #[.map (some eb), .string (ba e.1)]).run Tryz.prog W = .ok (.tuple #[]) w1 ∧ CBox w1 cb eb u m ks l ∧ Only (CBlk cb eb u) W w1 := by
  obtain ⟨D, h1, h2, h3, h4⟩ := h.isMap
  obtain ⟨w1, hr, ho1, ht⟩ := h1.drop (t := 188) (e := 322) claw Tryz.underlying188 (ckey e.1 (by omega)) ty
  exact ⟨w1, hr, h.turned ht (CMap.cut ho (h1.tidy claw) ho1 h2 h3 h4), Only.turned ht (.inr (.inl rfl))⟩
theorem delFirst_calls {W : World} {g cap : Nat} {x : List UInt8} {ks : List (List UInt8)} (hrow : KRow W (.slice (some ⟨g, 0, none⟩) (ks.length + 1) cap) (x :: ks)) :
    Calls Tryz.prog 254 #[.slice (some ⟨g, 0, none⟩) (ks.length + 1) cap, .int .i64 0, .int .i64 1] W fun e w' => e = .returned (.slice (some ⟨g, 0, none⟩) ks.length cap) ∧ KRow w' (.slice (some ⟨g, 0, none⟩) ks.length cap) ks ∧ W.grownBy w' (some g) := by
  obtain ⟨g', cap', e, -, hg, hcap, hm, -, hH⟩ := Lib.holds_of_ownsRow hrow (by simp)
  cases e
  have key := Tryz.slices_Delete_string g 0 cap 0 1 (x :: ks) W hH hcap (by unfold maxLen at hm; omega) (by omega) (by simp)
  refine key.mono ?_
  rintro e w' ⟨rfl, q, rfl⟩
  have h1 := Lib.ownsRow_putRow (q := q) (k := ks.length) (ys := (x :: ks).take 0 ++ (x :: ks).drop 1 ++ List.replicate (1 - 0) []) hrow (by simp) (by simp)
  have e1 : ((x :: ks).take 0 ++ (x :: ks).drop 1 ++ List.replicate (1 - 0) []).take ks.length = ks := by simp
  rw [e1] at h1
  refine ⟨rfl, h1, ⟨rfl, rfl, rfl, by rw [Go.Sort.size_putRow]; exact Nat.le_refl _, fun j _ hj => ?_⟩⟩
  have : g ≠ j := fun e => hj (by rw [e])
  simp [putRow, Go.Sort.mapBlock, Go.Sort.ahead, Array.getElem?_modify, this]
set_option maxRecDepth 100000 in
set_option maxHeartbeats 8000000 in
theorem cPut_calls {S : Nat → Prop} {W : World} {v : Value} {m : Nat} {l : Cf.Ens} (h : CAt S W v m l) (hO : Cf.Ok m l) (hm1 : 1 ≤ m) (hm : m ≤ 100) (k b : List UInt8) (hk : k.length ≤ 100000) :
    Calls Tryz.prog 174 #[v, .string (ba k), .string (ba b)] W fun e w' => e = .returned (.tuple #[]) ∧ Only S W w' ∧ ∃ S', CAt S' w' v m (Cf.put m l k b) ∧ ∀ j, S' j → S j ∨ W.heap.size ≤ j := by
  obtain ⟨cb, eb, u, rfl, hS, h, hks⟩ := h
  have c0 := h.c0
  have c1 := h.c1
  have z0 : ((m : Int) == 0) = false := by simp; omega
  have hl := hO.few
  obtain ⟨w1, hst, hB1, hon1⟩ := h.put hO.once (by omega) k b hk
  have HL := hid1 (makeLast_calls hB1 (by rw [Cf.keys_len]; omega) k)
  have HS := hid1 hS
  have HPut : Hid (Cf.put m l k b = if m < (Cf.rm l k ++ [(k, b)]).length then (Cf.rm l k ++ [(k, b)]).drop 1 else Cf.rm l k ++ [(k, b)]) := hid1 rfl
  have hks' : (Cf.keys l).filter (fun x => !(x == k)) ++ [k] = Cf.keys (Cf.rm l k ++ [(k, b)]) := by
    unfold Cf.keys
    rw [List.map_append]
    show _ = Cf.keys (Cf.rm l k) ++ _
    rw [Cf.keys_rm]
    rfl
  rw [hks'] at HL
  have HN := hid1 (Cf.put_once hO.once k b)
  have HK := hid1 fun (e : Cf.En) (he : e ∈ Cf.rm l k ++ [(k, b)]) => (show e.1.length ≤ 100000 by
    rcases List.mem_append.1 he with h1 | h1
    · exact hks _ (Cf.mem_rm.1 h1).1
    · rw [List.mem_singleton.1 h1]; exact hk)
  have hrl := Cf.rm_le l k
  have HLen : Hid ((Cf.rm l k ++ [(k, b)]).length ≤ 101) := hid1 (by simp; omega)
  have HO1 := hid1 hon1
  have zs1 := hon1.size
  clear h hB1 hS hks hks' hO hon1
  generalize Cf.rm l k ++ [(k, b)] = L at *
  go_enter Tryz.func174, Tryz.ntmps174
  go_wp2_with fail
  refine HL.out.mono ?_
  rintro e w2 ⟨rfl, hon2, u2, hB2, hu2⟩
  have HR2 := hid1 (And.intro hon2 (And.intro hB2 hu2))
  have HO2 := hid1 (HO1.out.trans hon2 fun j hj => .inl hj)
  have zs2 := HO2.out.size
  have q0 := hB2.c0
  have q1 := hB2.c1
  have q2 := hB2.c2
  have f2 := hB2.f2
  obtain ⟨g, cap, rfl⟩ : ∃ p c, u2 = .slice p L.length c := by
    have hr := hB2.row
    unfold KRow at hr
    rw [Cf.keys_len] at hr
    rcases hr.2 with ⟨rfl, h0⟩ | ⟨g, cap, cur, rfl, _⟩
    · exact ⟨none, 0, by rw [h0]⟩
    · exact ⟨_, _, rfl⟩
  clear HL hon2 hu2
  have zl := HLen.out
  by_cases hbig : m < L.length
  · rw [if_pos hbig] at HPut
    cases L with
    | nil => simp at hbig
    | cons e L =>
    rw [List.length_cons] at hbig zl q2 hB2 HR2
    have zb : (m : Int) < (L.length : Int) + 1 := by omega
    have hr2 := hB2.row
    obtain ⟨g, rfl⟩ : ∃ g', g = some ⟨g', 0, none⟩ := by
      rcases hr2.2 with ⟨h0, _⟩ | ⟨g', cap', cur, h0, _⟩
      · cases h0
      · simp only [Value.slice.injEq] at h0
        exact ⟨_, h0.1⟩
    have hH := (Lib.holds_of_ownsRow hr2 (by simp))
    obtain ⟨g', cap', e0, -, hg, hcap, hmx, -, hH⟩ := hH
    simp only [Value.slice.injEq, Option.some.injEq, Addr.mk.injEq, and_true] at e0
    obtain ⟨rfl, -, rfl⟩ := e0
    have d0 : w2.cell? ⟨g, 0, none⟩ = some (.string (ba e.1)) := (hH 0 (by simp [Cf.keys])).1
    have hB3 : CBox w2.drew cb eb (.slice (some ⟨g, 0, none⟩) (L.length + 1) cap) m (Cf.keys (e :: L)) (e :: L) := hB2.same fun _ _ => rfl
    have hB4 : CBox w2.drew.drew cb eb (.slice (some ⟨g, 0, none⟩) (L.length + 1) cap) m (Cf.keys (e :: L)) (e :: L) := hB2.same fun _ _ => rfl
    obtain ⟨w5, hdel, hB5, hon5⟩ := hB4.drop HN.out (HK.out e (by simp)) 0
    have HB5 := hid1 hB5
    have HO5 := hid1 hon5
    have r1 := hB3.c1
    have r2 := hB3.c2
    have d1 : w2.drew.cell? ⟨g, 0, none⟩ = some (.string (ba e.1)) := d0
    have HO3 : Hid (Only (CBlk cb eb u) W w2.drew) := hid1 ⟨HO2.out.os, HO2.out.tape, HO2.out.output, HO2.out.size, HO2.out.block⟩
    have s2 := hB5.c2
    have fz := hB5.f2
    have hr5 : KRow w5 (.slice (some ⟨g, 0, none⟩) ((Cf.keys L).length + 1) cap) (e.1 :: Cf.keys L) := by
      rw [Cf.keys_len]
      exact hB5.row
    have HDl := delFirst_calls hr5
    rw [Cf.keys_len] at HDl
    have HDe := hid1 HDl
    have hgc : some cb ≠ some g := hB5.ne2
    have hcl5 : cb < w5.heap.size := lt_of_cell hB5.c0
    clear hB2 hr2 hH hB3 hB4 hB5 hon5 HDl hr5
    go_wp2
    go_region
    clear q0 q1 q2 d0 f2 HO2
    generalize w2.drew = w3 at *
    go_wp2
    go_region
    go_wp2_with fail
    refine HDe.out.mono ?_
    rintro e6 w6 ⟨rfl, hk6, hg6⟩
    have t2 := (World.grownBy.cell_far hg6 ⟨cb, 2, none⟩ hcl5 hgc).trans s2
    have ft := (World.grownBy.frozen_far hg6 ⟨cb, 2, none⟩ hcl5 hgc).trans fz
    have HK6 := hid1 (And.intro hk6 hg6)
    clear HDe hk6 hg6
    go_wp2
    go_end0
    obtain ⟨hk6, hg6⟩ := HK6.out
    obtain ⟨-, -, hu2⟩ := HR2.out
    have hB6 := HB5.out.stored (ks' := Cf.keys L) (w2 := w6.setCell ⟨cb, 2, none⟩ (.slice (some ⟨g, 0, none⟩) L.length cap)) (fun j hj hn => hg6.block j hj hn) hk6 (.inl rfl) rfl
    have hO5 := HO5.out
    have hO3 := HO3.out
    have z5 := hO5.size
    have z3 := hO3.size
    have z6 := hg6.size
    have zd : w3.drew.heap.size = w3.heap.size := rfl
    have hS2 : ∀ j, CBlk cb eb (.slice (some ⟨g, 0, none⟩) (L.length + 1) cap) j → S j ∨ W.heap.size ≤ j := fun j hj => by
      rcases CBlk.step hu2 j hj with h1 | h1
      · exact .inl ((HS.out j).2 h1)
      · exact .inr (by omega)
    refine ⟨rfl, ⟨?_, ?_, ?_, by simp; omega, fun j hj hs => ?_⟩, CBlk cb eb (.slice (some ⟨g, 0, none⟩) L.length cap), ⟨cb, eb, .slice (some ⟨g, 0, none⟩) L.length cap, rfl, fun j => Iff.rfl, ?_, ?_⟩, ?_⟩
    · exact hg6.os.trans (hO5.os.trans hO3.os)
    · exact hg6.tape.trans (hO5.tape.trans hO3.tape)
    · exact hg6.output.trans (hO5.output.trans hO3.output)
    · have h1 : ¬ CBlk cb eb (.slice (some ⟨g, 0, none⟩) (L.length + 1) cap) j := fun x => by
        rcases hS2 j x with h2 | h2
        · exact hs h2
        · omega
      have h2 : j ≠ cb := fun x => h1 (.inl x)
      have h3 : some j ≠ some g := fun x => h1 (.inr (.inr x))
      refine (Below.heap_setCell w6 ⟨cb, 2, none⟩ _ j h2).trans ((hg6.block j (by omega) h3).trans ((hO5.block j (by omega) h1).trans ?_))
      exact hO3.block j hj fun x => hs ((HS.out j).2 x)
    · rw [HPut.out]
      exact hB6
    · rw [HPut.out]
      exact fun x hx => HK.out x (List.mem_cons_of_mem _ hx)
    · exact fun j hj => hS2 j hj
  · rw [if_neg hbig] at HPut
    have zb : (L.length : Int) ≤ (m : Int) := by omega
    clear hB2
    go_wp2
    go_region
    go_wp2
    go_end0
    obtain ⟨hon2, hB2, hu2⟩ := HR2.out
    refine ⟨rfl, ⟨HO2.out.os, HO2.out.tape, HO2.out.output, HO2.out.size, fun j hj hs => HO2.out.block j hj fun x => hs ((HS.out j).2 x)⟩, CBlk cb eb (.slice g L.length cap), ⟨cb, eb, .slice g L.length cap, rfl, fun j => Iff.rfl, ?_, ?_⟩, ?_⟩
    · rw [HPut.out]
      exact hB2.same fun _ _ => rfl
    · rw [HPut.out]
      exact HK.out
    · intro j hj
      rcases CBlk.step hu2 j hj with h1 | h1
      · exact .inl ((HS.out j).2 h1)
      · exact .inr (by omega)
theorem caches0 (es : Nat → Addr) : Caches0 es CAt where
  same := fun S W W' v m l h _ hb => by
    obtain ⟨cb, eb, u, e, hS, h, hk⟩ := h
    exact ⟨cb, eb, u, e, hS, h.same fun j hj => hb j ((hS j).2 hj), hk⟩
  lt := fun S W v m l h k hk => by
    obtain ⟨cb, eb, u, e, hS, h, -⟩ := h
    exact h.lt k ((hS k).1 hk)
  make := cNew_yes
  no := fun W m _ _ hm hE => cNew_no W m hm hE
  put := fun S W p m l k b h h1 h2 hO hk _ => cPut_calls h hO h1 h2 k b hk
  get := fun S W p m l k h _ h2 hO hk => cGet_calls h hO h2 k hk
end Go.Proofs.YtmhipgompplkdaaGreatDoor
namespace Go.Proofs.YtmhipgompplkdaaGreatDoor
open Go.RowKit Go.Shelf Go.Lib Go.Maps
theorem CaAt.ptr {SC : Nat → Prop} {W : World} {cv : Value} {c : Bf.Ca} (h : CaAt CAt SC W cv c) : ∃ o, cv = .pointer o := by
  cases c with
  | none => exact ⟨none, h.1⟩
  | some x =>
    obtain ⟨⟨p, rfl⟩, _⟩ := h
    exact ⟨_, rfl⟩
theorem CaAt.same {SC : Nat → Prop} {W W' : World} {cv : Value} {c : Bf.Ca} (h : CaAt CAt SC W cv c) (hz : W.heap.size ≤ W'.heap.size) (hb : ∀ k, SC k → W'.heap[k]? = W.heap[k]?) : CaAt CAt SC W' cv c := by
  cases c with
  | none => exact h
  | some x => exact ⟨h.1, (caches0 (fun _ => default)).same _ _ _ _ _ _ h.2 hz hb⟩
theorem CaAt.lt {SC : Nat → Prop} {W : World} {cv : Value} {c : Bf.Ca} (h : CaAt CAt SC W cv c) : ∀ k, SC k → k < W.heap.size := by
  cases c with
  | none => exact fun k hk => absurd hk (h.2 k)
  | some x => exact (caches0 (fun _ => default)).lt _ _ _ _ _ h.2
theorem CaAt.below {SC : Nat → Prop} {W W' : World} {cv : Value} {c : Bf.Ca} (h : CaAt CAt SC W cv c) (hb : Below W.heap.size W W') : CaAt CAt SC W' cv c := h.same hb.size fun k hk => hb.block k (h.lt k hk)
def RunPost (es : Nat → Addr) (L : Lay) (d d' : Bf.Bd) (c' : Bf.Ca) (SC : Nat → Prop) (W : World) (cv : Value) (w' : World) : Prop :=
  Steps w' es d.dom L d.rule (insOf d) d'.st ∧ Only (fun j => PBlk d.dom L j ∨ SC j) W w' ∧ ∃ SC', CaAt CAt SC' w' cv c' ∧ ∀ j, SC' j → SC j ∨ W.heap.size ≤ j
end Go.Proofs.YtmhipgompplkdaaGreatDoor
namespace Go.Proofs.YtmhipgompplkdaaGreatDoor
open Go.RowKit Go.Shelf Go.Lib Go.Maps
theorem Steps.only {W W' : World} {es : Nat → Addr} {dom : Nat → Prop} {L : Lay} {ru : Nat → Ru} {ins : Nat → List Inp} {st : Nat → Bf.St} {S : Nat → Prop} (h : Steps W es dom L ru ins st) (ho : Only S W W') (hS : ∀ j, SBlk dom L j → ¬ S j) : Steps W' es dom L ru ins st := h.same fun j hj => ho.block j (h.lt j hj) (hS j hj)
theorem actFit : Bf.ActFit Af.actO := fun k w xs => by
  unfold Af.actO
  split
  · split
    · split
      · exact ⟨by simp, fun h => by cases h⟩
      · rename_i h
        exact ⟨by simp, fun _ => by simpa using h⟩
    · exact ⟨by simp, fun h => by cases h⟩
  · rename_i h
    refine ⟨?_, fun e => absurd e h⟩
    show Af.actE k w xs.length ≤ 12
    unfold Af.actE
    split
    · omega
    · split
      · omega
      · split <;> omega
theorem Steps.dones {W : World} {es : Nat → Addr} {dom : Nat → Prop} {L : Lay} {ru : Nat → Ru} {ins : Nat → List Inp} {st : Nat → Bf.St} (h : Steps W es dom L ru ins st) {u : Nat} (hu : dom u) (hw : st u = .waits) (s : List UInt8) (b : Bool) : Steps ((W.setCell ⟨L.sp u, 4, none⟩ (.int .i64 (if b then 2 else 1))).setCell ⟨L.sp u, 5, none⟩ (.string (ba s))) es dom L ru ins (Bf.setS st u (.done s b)) := by
  refine h.turn hu (.done s b) ?_ fun j hj _ => ?_
  · have r1 := heap_setCell_same W (L.sp u) 4 _ _ (.int .i64 (if b then 2 else 1)) (h.step u hu)
    rw [heap_setCell_same _ _ _ _ _ _ r1, hw]
    cases b <;> rfl
  · rw [Below.heap_setCell _ _ _ j hj, Below.heap_setCell _ _ _ j hj]
theorem RunPost.done {es : Nat → Addr} {L : Lay} {d : Bf.Bd} {c' : Bf.Ca} {SC SC' : Nat → Prop} {W w3 : World} {cv : Value} {i : Nat} (hS : Steps w3 es d.dom L d.rule (insOf d) d.st) (hi : d.dom i) (hw : d.st i = .waits) (s : List UInt8) (b : Bool) (hO : Only SC W w3) (hC : CaAt CAt SC' w3 cv c') (hSC : ∀ j, SC' j → SC j ∨ W.heap.size ≤ j) (hap : ∀ j, SBlk d.dom L j → ¬ SC' j) :
    RunPost es L d (d.set i (.done s b)) c' SC W cv ((w3.setCell ⟨L.sp i, 4, none⟩ (.int .i64 (if b then 2 else 1))).setCell ⟨L.sp i, 5, none⟩ (.string (ba s))) := by
  have hp : PBlk d.dom L (L.sp i) := ⟨i, hi, rfl⟩
  have o1 : Only (fun j => PBlk d.dom L j ∨ SC j) w3 ((w3.setCell ⟨L.sp i, 4, none⟩ (.int .i64 (if b then 2 else 1))).setCell ⟨L.sp i, 5, none⟩ (.string (ba s))) := (Only.setCell _ _ (.inl hp)).trans (Only.setCell _ _ (.inl hp)) fun j hj => .inl hj
  have o0 : Only (fun j => PBlk d.dom L j ∨ SC j) W w3 := ⟨hO.os, hO.tape, hO.output, hO.size, fun j hj hn => hO.block j hj fun h => hn (.inr h)⟩
  refine ⟨hS.dones hi hw s b, o0.trans o1 fun j hj => .inl hj, SC', hC.same (by simp) fun k hk => ?_, hSC⟩
  have hne : k ≠ L.sp i := fun e => hap k (by rw [e]; exact hp.s) hk
  rw [Below.heap_setCell _ _ _ k hne, Below.heap_setCell _ _ _ k hne]
theorem RunPost.fails {es : Nat → Addr} {L : Lay} {d : Bf.Bd} {c : Bf.Ca} {SC SC' : Nat → Prop} {W w1 w2 : World} {cv : Value} {i : Nat} {st' : Nat → Bf.St} {e : Nat} (hI : Bf.Inv d) (hU : Bf.UsOk d L.us) (hr : d.isReady i = true) (hS : Steps w2 es d.dom L d.rule (insOf d) st') (hL : Bf.Leave L.us i (L.us i) (Bf.setS d.st i (.failed e)) st') (hO : Only SC W w1) (hC : CaAt CAt SC' w1 cv c) (hSC : ∀ j, SC' j → SC j ∨ W.heap.size ≤ j) (hap : ∀ j, SBlk d.dom L j → ¬ SC' j) (hO2 : Only (PBlk d.dom L) w1 w2) :
    RunPost es L d (d.fail i e) c SC W cv w2 := by
  have o0 : Only (fun j => PBlk d.dom L j ∨ SC j) W w1 := ⟨hO.os, hO.tape, hO.output, hO.size, fun j hj hn => hO.block j hj fun h => hn (.inr h)⟩
  refine ⟨hS.congr fun k hk => (hL.spread hI hU hr k (Bf.Bd.dom_no hk)).symm, o0.trans hO2 fun j hj => .inl (.inl hj), SC', hC.same hO2.size fun k hk => hO2.block k (hC.lt k hk) fun h => hap k h.s hk, hSC⟩
end Go.Proofs.YtmhipgompplkdaaGreatDoor
namespace Go.Proofs.YtmhipgompplkdaaGreatDoor
open Go.RowKit Go.Shelf Go.Lib Go.Maps
theorem NewTells.get {es : Nat → Addr} {BAt : (Nat → Prop) → World → Value → Value → Bf.Bd → Prop} {n : Nat} {cv : Value} {w : World} {bv ev : Value} (h : NewTells es BAt n Lb.fs Lb.l Lb.outs cv w bv ev) : ev = .nilIface ∧ ∃ p S, bv = .pointer (some p) ∧ BAt S w bv cv Lb.d ∧ ∀ k, S k → n ≤ k := by
  rcases h with ⟨_, ⟨h1, _⟩ | ⟨_, k, hk, h2, _⟩ | ⟨_, _, h3, _⟩⟩ | ⟨_, _, _, h4, ⟨p, h5⟩, S, h6, h7⟩
  · exact absurd Lb.fault0 h1
  · obtain rfl : k = 0 := by simp at hk; omega
    exact absurd rfl (h2 Lb.r (by simp))
  · have := Lb.order0
    rw [h3] at this
    cases this
  · rw [Lb.init0] at h6
    exact ⟨h4, p, S, h5, h6, h7⟩
theorem lb_small : ∀ x ∈ Lb.l, x.Small := fun x hx => by
  obtain rfl := List.mem_singleton.1 hx
  exact ⟨by decide, by decide, by decide, by decide, fun y hy => by obtain rfl := List.mem_singleton.1 hy; decide⟩
end Go.Proofs.YtmhipgompplkdaaGreatDoor
namespace Go.Proofs.YtmhipgompplkdaaGreatDoor
open Go.RowKit Go.Shelf Go.Lib Go.Maps
def vElem : Value → Option (DataW Value × List MemPlace) := fun v => some (.held v, [])
def VMap (W : World) (b : Nat) (fd : List UInt8 → Option Value) : Prop :=
  ∃ (D : DataW Value) (K : List (List UInt8)), W.ownsMap Tryz.prog 9 vElem b K.length D ∧ Maps.size D = K.length ∧ K.Nodup ∧ (∀ x, has D (.string x) = (fd x).isSome) ∧ (∀ x, x ∈ K ↔ (fd x).isSome = true) ∧ ∀ x v z, fd x = some v → D.atKey (.string x) z = .held v
theorem vowns_tight {w : World} {b n : Nat} {D : DataW Value} (h : w.ownsMap Tryz.prog 9 vElem b n D) : w.ownsMap Tryz.prog 9 vElem b (Maps.size D) D := by
  obtain ⟨es, clock, h1, F, _, hD⟩ := h
  refine ⟨es, clock, h1, F, ?_, hD⟩
  rw [hD]
  simp [Maps.size, length_sorted]
theorem VMap.lt {W : World} {b : Nat} {fd : List UInt8 → Option Value} (h : VMap W b fd) : b < W.heap.size := by
  obtain ⟨D, K, h1, _⟩ := h
  exact h1.lt
theorem VMap.same {W W' : World} {b : Nat} {fd : List UInt8 → Option Value} (h : VMap W b fd) (hb : W'.heap[b]? = W.heap[b]?) : VMap W' b fd := by
  obtain ⟨D, K, ⟨es, clock, h1, F⟩, h2⟩ := h
  exact ⟨D, K, ⟨es, clock, hb.trans h1, F⟩, h2⟩
theorem VMap.below {W W' : World} {b : Nat} {fd : List UInt8 → Option Value} (h : VMap W b fd) (hb : Below W.heap.size W W') : VMap W' b fd := h.same (hb.block b h.lt)
theorem VMap.made (W : World) : VMap (W.alloc (.map #[] 0)) W.heap.size (fun _ => none) :=
  ⟨.map [], [], World.ownsMap_made W _ _ _, rfl, List.nodup_nil, fun _ => rfl, fun x => by simp, fun x v z h => by cases h⟩
theorem VMap.congr {W : World} {b : Nat} {fd fd' : List UInt8 → Option Value} (h : VMap W b fd) (he : ∀ x, fd' x = fd x) : VMap W b fd' := by
  have : fd' = fd := funext he
  rw [this]; exact h
theorem VMap.look {W : World} {b : Nat} {fd : List UInt8 → Option Value} (h : VMap W b fd) {t e : TypeId} (ht : Tryz.prog.underlying t = some (.map 9 e)) {z : Value} (hz : (zeroValue e).run Tryz.prog W = .ok z W) (x : List UInt8) (hx : x.length ≤ 1000000) :
    (Instr.lookup t (.map (some b)) (.string (ba x)) true).run Tryz.prog W = .ok (.tuple #[(fd x).getD z, .bool (fd x).isSome]) W := by
  obtain ⟨D, K, h1, h2, h3, h4, h5, h6⟩ := h
  obtain ⟨v, ps, hrun, hv⟩ := h1.look_ok (t := t) (e := e) claw ht (z := z) hz (zd := .held z) (zp := []) rfl (ckey x hx)
  have hv' : (DataW.held v : DataW Value) = D.atKey (.string x) (.held z) := by
    have : vElem v = some (.held v, []) := rfl
    rw [this] at hv
    simpa using congrArg (fun o => o.map Prod.fst) hv
  rw [hrun, h4]
  have : v = (fd x).getD z := by
    cases hf : fd x with
    | some u =>
      rw [h6 x u _ hf] at hv'
      injection hv'
    | none =>
      have hh : has D (.string x) = false := by rw [h4, hf]; rfl
      rw [atKey_of_not_has hh] at hv'
      injection hv'
  rw [this]
theorem VMap.laid {W : World} {b : Nat} {fd : List UInt8 → Option Value} (h : VMap W b fd) {t e : TypeId} (ht : Tryz.prog.underlying t = some (.map 9 e)) (L : List (List UInt8)) (hL : ∀ x, (fd x).isSome = true → x ∈ L) (hn : L.length ≤ 1000000) (x : List UInt8) (hx : x.length ≤ 1000000) (v : Value) :
    ∃ w1, (Instr.mapUpdate t (.map (some b)) (.string (ba x)) v).run Tryz.prog W = .ok () w1 ∧ VMap w1 b (fun y => if y = x then some v else fd y) ∧ W.mapTurned w1 b := by
  obtain ⟨D, K, h1, h2, h3, h4, h5, h6⟩ := h
  have hK : K.length ≤ L.length := Cf.nodup_len h3 fun y hy => hL y ((h5 y).1 hy)
  obtain ⟨w1, hr, ho1, ht1⟩ := h1.store (t := t) (e := e) claw ht (by unfold maxLen; omega) (ckey x hx) (show vElem v = some (.held v, []) from rfl)
  have hT := h1.tidy claw
  have hk : WideAt.IsKeyLit (.string x) := by simp [WideAt.IsKeyLit]
  have hat : ∀ y u z, (if y = x then some v else fd y) = some u → (D.put (.string x) (.held v)).atKey (.string y) z = .held u := fun y u z hy => by
    by_cases e : y = x
    · subst e
      rw [if_pos rfl] at hy
      cases hy
      rw [atKey_put_same hT.isMap hk]
    · rw [if_neg e] at hy
      rw [atKey_put_other (by simpa using e), h6 y u z hy]
  have hhas : ∀ y, has (D.put (.string x) (.held v)) (.string y) = (if y = x then some v else fd y).isSome := fun y => by
    by_cases e : y = x
    · subst e
      rw [if_pos rfl, has_put_same hT.isMap hk]
      rfl
    · rw [if_neg e, has_put_other (by simpa using e), h4]
  have hsz := size_put (k := .string x) (d := .held v) hT
  rw [h4, h2] at hsz
  refine ⟨w1, hr, ?_, ht1⟩
  cases hf : (fd x).isSome with
  | true =>
    rw [hf] at hsz
    have hsz' : Maps.size (D.put (.string x) (.held v)) = K.length := by simpa using hsz
    refine ⟨_, K, hsz' ▸ vowns_tight ho1, hsz', h3, hhas, fun y => ?_, hat⟩
    show _ ↔ (if y = x then some v else fd y).isSome = true
    by_cases e : y = x
    · subst e; rw [if_pos rfl, h5, hf]; simp
    · rw [if_neg e, h5]
  | false =>
    rw [hf] at hsz
    have hsz' : Maps.size (D.put (.string x) (.held v)) = (x :: K).length := by simpa using hsz
    refine ⟨_, x :: K, hsz' ▸ vowns_tight ho1, hsz', List.nodup_cons.2 ⟨fun hx => ?_, h3⟩, hhas, fun y => ?_, hat⟩
    · rw [h5, hf] at hx; cases hx
    · show _ ↔ (if y = x then some v else fd y).isSome = true
      by_cases e : y = x
      · subst e; simp
      · rw [if_neg e, ← h5]; simp [e]
end Go.Proofs.YtmhipgompplkdaaGreatDoor
