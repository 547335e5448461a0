/- Package cache's makeLast: the walk, whole. -/
import Derived.Test.YthokjegephlpmaaDoorCLast
namespace Go.Proofs.YthokjegephlpmaaDoor
open Go.RowKit Go.Shelf Go.Lib

/-- A box whose row has been grown. -/
theorem CBox.stored {W w2 w4 : World} {cb eb g cap n : Nat} {u : Value} {m : Nat} {ks ks' : List (List UInt8)} {l : Cf.Ens} (h : CBox W cb eb u m ks l)
    (hb : ∀ j, j < W.heap.size → some j ≠ u.ownBlock → w4.heap[j]? = W.heap[j]?)
    (hrow : KRow w4 (.slice (some ⟨g, 0, none⟩) n cap) ks') (hg : u.ownBlock = some g ∨ W.heap.size ≤ g) (e2 : w2 = w4.setCell ⟨cb, 2, none⟩ (.slice (some ⟨g, 0, none⟩) n cap)) :
    CBox w2 cb eb (.slice (some ⟨g, 0, none⟩) n cap) m ks' l := by
  subst e2
  have hcl : cb < W.heap.size := lt_of_cell h.c0
  have hel : eb < W.heap.size := h.isMap.lt
  have bc := hb cb hcl h.ne2
  have be := hb eb hel h.ne3
  have gc : g ≠ cb := fun e => by
    rcases hg with h1 | h1
    · exact h.ne2 (by rw [h1, e])
    · omega
  have ge : g ≠ eb := fun e => by
    rcases hg with h1 | h1
    · exact h.ne3 (by rw [h1, e])
    · omega
  have hS : ∀ c, c ≠ cb → (w4.setCell ⟨cb, 2, none⟩ (.slice (some ⟨g, 0, none⟩) n cap)).heap[c]? = w4.heap[c]? := fun c hc => Below.heap_setCell w4 ⟨cb, 2, none⟩ _ c hc
  have d2 : w4.cell? ⟨cb, 2, none⟩ = some u := (World.cell?_of_block (a := ⟨cb, 2, none⟩) bc).trans h.c2
  refine ⟨?_, ?_, World.cell?_setCell_same' _ _ _ (by rw [d2]; rfl), ?_, hrow.same fun j hj => hS j ?_, (h.isMap.same be).same (hS eb h.ne1.symm), h.ne1, ?_, ?_⟩
  · rw [World.cell?_setCell_other]
    · exact (World.cell?_of_block (a := ⟨cb, 0, none⟩) bc).trans h.c0
    · simp
  · rw [World.cell?_setCell_other]
    · exact (World.cell?_of_block (a := ⟨cb, 1, none⟩) bc).trans h.c1
    · simp
  · rw [World.frozen?_setCell]
    exact (World.frozen?_of_block (a := ⟨cb, 2, none⟩) bc).trans h.f2
  · intro e
    have : j = g := by simpa [Value.ownBlock] using hj
    exact gc (this.symm.trans e)
  · intro e
    exact gc (by simpa [Value.ownBlock] using e.symm)
  · intro e
    exact ge (by simpa [Value.ownBlock] using e.symm)

set_option maxRecDepth 100000 in
set_option maxHeartbeats 4000000 in
/-- makeLast: a key stands last. -/
theorem makeLast_calls {W : World} {cb eb : Nat} {u : Value} {m : Nat} {ks : List (List UInt8)} {l : Cf.Ens} (h : CBox W cb eb u m ks l) (hl : ks.length ≤ 1000) (k : List UInt8) :
    Calls Tryd.prog 28 #[.pointer (some ⟨cb, 0, none⟩), .string (ba k)] W fun e w' => e = .returned (.tuple #[]) ∧ Only (CBlk cb eb u) W w' ∧ ∃ u', CBox w' cb eb u' m ((ks.filter fun x => !(x == k)) ++ [k]) l ∧ ∀ j, some j = u'.ownBlock → some j = u.ownBlock ∨ W.heap.size ≤ j := by
  have g0 : Below W.heap.size W (W.alloc (.cells #[.string (ba k)] 9)) := (Below.refl _ W).alloc (Nat.le_refl _) _
  have h0 := h.below g0
  have hb0 : (W.alloc (.cells #[.string (ba k)] 9)).cell? ⟨W.heap.size, 0, none⟩ = some (.string (ba k)) := by simp
  have hz0 : (W.alloc (.cells #[.string (ba k)] 9)).heap.size = W.heap.size + 1 := by simp
  have hnw : some W.heap.size ≠ u.ownBlock := fun e => by have := h.row.lt e; omega
  have HD := hid1 (delKey_calls h0.row hl k W.heap.size hb0 hnw)
  have c2 := h0.c2
  have hfl : (ks.filter fun x => !(x == k)).length ≤ ks.length := List.length_filter_le _ _
  obtain ⟨i0, hi, hz1, hz2, hz3⟩ := info_parts Tryd.infoStr
  have HH := hid1 h
  have HH0 := hid1 h0
  have hcl : cb < W.heap.size := lt_of_cell h.c0
  have hu2 := h.ne2
  have hml : (ks.filter fun x => !(x == k)).length + 1 ≤ maxLen := by unfold maxLen; omega
  clear h h0
  generalize (ks.filter fun x => !(x == k)) = fs at *
  generalize hW0 : W.alloc (.cells #[.string (ba k)] 9) = W0 at *
  go_enter Tryd.func28, Tryd.ntmps28
  go_wp2_with fail
  refine HD.out.mono ?_
  rintro e w2 ⟨u2, rfl, hk2, ho2, hg2⟩
  have hz2' := hg2.size
  have b2 := World.grownBy.cell_far hg2 ⟨W.heap.size, 0, none⟩ (by show W.heap.size < _; omega) hnw
  rw [hb0] at b2
  have q2 := World.grownBy.cell_far hg2 ⟨cb, 2, none⟩ (by show cb < _; omega) hu2
  rw [c2] at q2
  have f2 := World.grownBy.frozen_far hg2 ⟨cb, 2, none⟩ (by show cb < _; omega) hu2
  rw [HH0.out.f2] at f2
  have HO2 := hid1 ho2
  have HG2 := hid1 hg2
  have HK2 := hid1 hk2
  have hcl2 : cb < w2.heap.size := by omega
  clear HD hg2 ho2
  have a2 : Below w2.heap.size w2 (w2.alloc (.cells #[.string (ba k)] 9)) := (Below.refl _ w2).alloc (Nat.le_refl _) _
  have q2a := hid1 (cell_below' q2 a2)
  have f2a := hid1 ((a2.frozen (p := ⟨cb, 2, none⟩) hcl2).trans f2)
  have HA2 := hid1 a2
  clear a2
  have hk3 : w2.ownsRow 0 9 1 u2 fs.length (fs.map sv) := hk2
  clear hk2
  go_wp2_with (first
    | (at_builtin; refine wpList_append_lies _ rfl _ _ 22 rfl 0 9 i0 (.string ⟨#[]⟩) 1 16 Tryd.underlying22 hi hz1 hz2 hz3 rfl (by decide) u2 fs.length (fs.map sv) rfl (hk3.alloc _) ⟨w2.heap.size, 0, none⟩ 1 1 [.string (ba k)] rfl rfl (cell_one_new _ _ _) (by simp [Value.oneCell']) (by decide) hml (by omega) (by simp) _ rfl ?_; intro g cap w4 hown4 hgrow4 hlies4 hlt4; (have q4 := (World.grownBy.cell_far hgrow4 ⟨cb, 2, none⟩ (by simp; omega) (by rw [HO2.out]; exact hu2)).trans (q2a.out)); (have f4 := (World.grownBy.frozen_far hgrow4 ⟨cb, 2, none⟩ (by simp; omega) (by rw [HO2.out]; exact hu2)).trans (f2a.out)); (have HR := hid1 (And.intro hown4 (And.intro hgrow4 (And.intro hlies4 hlt4)))); clear hown4 hgrow4 hlies4 hlt4)
    | fail)
  go_wp2
  go_end0
  obtain ⟨hown, hgrow, hlies, hlt⟩ := HR.out
  have hA2 := HA2.out
  have hG2 := HG2.out
  rw [HO2.out] at hgrow hlies
  have za := hA2.size
  have zg := hgrow.size
  have hb : ∀ j, j < W.heap.size → some j ≠ u.ownBlock → w4.heap[j]? = W.heap[j]? := fun j hj hn =>
    (hgrow.block j (by omega) hn).trans ((hA2.block j (by omega)).trans ((hG2.block j (by omega) hn).trans (g0.block j hj)))
  have hg : u.ownBlock = some g ∨ W.heap.size ≤ g := by
    rcases hlies with h1 | h1
    · exact .inl h1
    · exact .inr (by omega)
  have hB := HH.out.stored hb (ks' := fs ++ [k]) (by unfold KRow; rw [List.length_append, List.length_singleton, List.map_append]; exact hown) hg rfl
  refine ⟨rfl, ⟨hgrow.os.trans (hA2.os.trans (hG2.os.trans g0.os)), hgrow.tape.trans (hA2.tape.trans (hG2.tape.trans g0.tape)), hgrow.output.trans (hA2.output.trans (hG2.output.trans g0.output)), by simp; omega, fun j hj hs => ?_⟩, _, hB, fun j hj => ?_⟩
  · have h1 : j ≠ cb := fun e => hs (.inl e)
    have h2 : some j ≠ u.ownBlock := fun e => hs (.inr (.inr e))
    exact (Below.heap_setCell w4 ⟨cb, 2, none⟩ _ j h1).trans (hb j hj h2)
  · obtain rfl : j = g := by simpa [Value.ownBlock] using hj
    rcases hg with h1 | h1
    · exact .inl h1.symm
    · exact .inr h1
end Go.Proofs.YthokjegephlpmaaDoor
