import Derived.Test.YtbgkfmodbofalaaGreatDoorPL08
import Derived.Test.YtbgkfmodbofalaaGreatDoorPL18
import Derived.Test.YtbgkfmodbofalaaGreatDoorPL35
import Derived.Test.YtbgkfmodbofalaaGreatDoorPL10
import Derived.Test.YtbgkfmodbofalaaGreatDoorPL09
import Derived.Test.YtbgkfmodbofalaaGreatDoorPL07
import Derived.Test.YtbgkfmodbofalaaGreatDoorPL20
import Derived.Deep.RegionHeld3
import Derived.Test.YtbgkfmodbofalaaGreatDoorPL21
import Derived.Test.YtbgkfmodbofalaaGreatDoorPL19
import Derived.Test.YtbgkfmodbofalaaGreatDoorPL30
import Derived.Test.YtbgkfmodbofalaaGreatDoorPL22
import Derived.Test.YtbgkfmodbofalaaGreatDoorPL24
namespace Go.Proofs.YtbgkfmodbofalaaGreatDoor
open Go.RowKit Go.Shelf Go.Lib
def PlRow (W : World) (g n : Nat) (f : Nat → Value) : Prop := g < W.heap.size ∧ ∀ j, j < n → W.cell? ⟨g, j, none⟩ = some (f j) ∧ W.frozen? ⟨g, j, none⟩ = false
def upd (f : Nat → Value) (i : Nat) (v : Value) : Nat → Value := fun j => if j = i then v else f j
theorem upd_same (f : Nat → Value) (i : Nat) (v : Value) : upd f i v i = v := if_pos rfl
theorem upd_other {f : Nat → Value} {i j : Nat} {v : Value} (h : j ≠ i) : upd f i v j = f j := if_neg h
theorem PlRow.same {W W' : World} {g n : Nat} {f : Nat → Value} (h : PlRow W g n f) (hz : W.heap.size ≤ W'.heap.size) (hb : W'.heap[g]? = W.heap[g]?) : PlRow W' g n f :=
  ⟨Nat.lt_of_lt_of_le h.1 hz, fun j hj => ⟨(World.cell?_of_block (a := ⟨g, j, none⟩) hb).trans (h.2 j hj).1, (World.frozen?_of_block (a := ⟨g, j, none⟩) hb).trans (h.2 j hj).2⟩⟩
theorem PlRow.set {W : World} {g n : Nat} {f : Nat → Value} (h : PlRow W g n f) {i : Nat} (hi : i < n) (v : Value) : PlRow (W.setCell ⟨g, i, none⟩ v) g n (upd f i v) := by
  refine ⟨by simpa using h.1, fun j hj => ⟨?_, ?_⟩⟩
  · by_cases e : j = i
    · subst e
      rw [upd_same]
      exact World.cell?_setCell_same' _ _ _ (by rw [(h.2 j hj).1]; rfl)
    · rw [upd_other e, World.cell?_setCell_other]
      · exact (h.2 j hj).1
      · simp
  · rw [World.frozen?_setCell]
    exact (h.2 j hj).2
theorem size_setCell (W : World) (a : Addr) (v : Value) : (W.setCell a v).heap.size = W.heap.size := by simp
theorem below_setCell {B : Nat} {w W : World} (h : Below B w W) {g i : Nat} (hg : B ≤ g) (v : Value) : Below B w (W.setCell ⟨g, i, none⟩ v) :=
  ⟨h.os, h.tape, h.output, by rw [size_setCell]; exact h.size, fun j hj => (Below.heap_setCell W ⟨g, i, none⟩ v j (by show j ≠ g; omega)).trans (h.block j hj)⟩
structure MBr (w0 W : World) (mb tb : Nat) (tv lv cv : Value) (gs go gh gw : Nat) (l : List Ru) (fs : Tf.Fs) (vS vO vH vW : Nat → Value) : Prop where
  base : Below w0.heap.size w0 W
  rules : RRow w0 lv l
  low : w0.heap.size ≤ mb ∧ w0.heap.size ≤ gs ∧ w0.heap.size ≤ go ∧ w0.heap.size ≤ gh ∧ w0.heap.size ≤ gw
  c0 : W.cell? ⟨mb, 0, none⟩ = some (Ptr tb)
  c1 : W.cell? ⟨mb, 1, none⟩ = some lv
  c2 : W.cell? ⟨mb, 2, none⟩ = some (.slice (some ⟨gs, 0, none⟩) l.length l.length)
  c3 : W.cell? ⟨mb, 3, none⟩ = some (.slice (some ⟨go, 0, none⟩) l.length l.length)
  c4 : W.cell? ⟨mb, 4, none⟩ = some (.slice (some ⟨gh, 0, none⟩) l.length l.length)
  c5 : W.cell? ⟨mb, 5, none⟩ = some (.slice (some ⟨gw, 0, none⟩) l.length l.length)
  c6 : W.cell? ⟨mb, 6, none⟩ = some cv
  rs : PlRow W gs l.length vS
  ro : PlRow W go l.length vO
  rh : PlRow W gh l.length vH
  rw : PlRow W gw l.length vW
  tree : RTreeAt w0.heap.size W tb fs tv
  n1 : gs ≠ go ∧ gs ≠ gh ∧ gs ≠ gw ∧ go ≠ gh ∧ go ≠ gw ∧ gh ≠ gw
  nm : mb ≠ gs ∧ mb ≠ go ∧ mb ≠ gh ∧ mb ≠ gw
  nt : ∀ j, (j = tb ∨ some j = tv.ownBlock) → j ≠ gs ∧ j ≠ go ∧ j ≠ gh ∧ j ≠ gw
section
variable {w0 W W' : World} {mb tb : Nat} {tv lv cv : Value} {gs go gh gw : Nat} {l : List Ru} {fs : Tf.Fs} {vS vO vH vW : Nat → Value}
def MBlk (mb tb : Nat) (tv : Value) (gs go gh gw : Nat) (j : Nat) : Prop := j = mb ∨ j = tb ∨ some j = tv.ownBlock ∨ j = gs ∨ j = go ∨ j = gh ∨ j = gw
theorem MBr.lt (h : MBr w0 W mb tb tv lv cv gs go gh gw l fs vS vO vH vW) : ∀ j, MBlk mb tb tv gs go gh gw j → j < W.heap.size := by
  rintro j (rfl | rfl | hj | rfl | rfl | rfl | rfl)
  · exact lt_of_cell h.c0
  · exact h.tree.lt
  · exact (h.tree.row.lt j hj.symm).2
  · exact h.rs.1
  · exact h.ro.1
  · exact h.rh.1
  · exact h.rw.1
theorem MBr.ge (h : MBr w0 W mb tb tv lv cv gs go gh gw l fs vS vO vH vW) : ∀ j, MBlk mb tb tv gs go gh gw j → w0.heap.size ≤ j := by
  obtain ⟨h1, h2, h3, h4, h5⟩ := h.low
  rintro j (rfl | rfl | hj | rfl | rfl | rfl | rfl)
  · exact h1
  · exact h.tree.low
  · exact (h.tree.row.lt j hj.symm).1
  · exact h2
  · exact h3
  · exact h4
  · exact h5
theorem RTreeAt.same {B : Nat} (h : RTreeAt B W tb fs tv) (hb : ∀ j, (j = tb ∨ some j = tv.ownBlock) → W'.heap[j]? = W.heap[j]?) : RTreeAt B W' tb fs tv := by
  have bt := hb tb (.inl rfl)
  refine ⟨h.low, (World.cell?_of_block (a := ⟨tb, 0, none⟩) bt).trans h.cell, (World.frozen?_of_block (a := ⟨tb, 0, none⟩) bt).trans h.free, ⟨h.row.1, ?_⟩, h.apart, h.nil⟩
  rcases h.row.2 with h1 | ⟨g, cap, cur, e, h0, hg, h2⟩
  · exact .inl h1
  · exact .inr ⟨g, cap, cur, e, h0, (hb g (.inr (by rw [e]; rfl))).trans hg, h2⟩
theorem MBr.same (h : MBr w0 W mb tb tv lv cv gs go gh gw l fs vS vO vH vW) (hB : Below w0.heap.size w0 W') (hz : W.heap.size ≤ W'.heap.size) (hb : ∀ j, MBlk mb tb tv gs go gh gw j → W'.heap[j]? = W.heap[j]?) : MBr w0 W' mb tb tv lv cv gs go gh gw l fs vS vO vH vW := by
  have bm := hb mb (.inl rfl)
  have cc : ∀ {i : Nat} {u : Value}, W.cell? ⟨mb, i, none⟩ = some u → W'.cell? ⟨mb, i, none⟩ = some u := fun {i u} hc => (World.cell?_of_block (a := ⟨mb, i, none⟩) bm).trans hc
  exact ⟨hB, h.rules, h.low, cc h.c0, cc h.c1, cc h.c2, cc h.c3, cc h.c4, cc h.c5, cc h.c6, h.rs.same hz (hb gs (.inr (.inr (.inr (.inl rfl))))), h.ro.same hz (hb go (.inr (.inr (.inr (.inr (.inl rfl)))))), h.rh.same hz (hb gh (.inr (.inr (.inr (.inr (.inr (.inl rfl))))))), h.rw.same hz (hb gw (.inr (.inr (.inr (.inr (.inr (.inr rfl))))))), h.tree.same (fun j hj => hb j (hj.elim (fun e => .inr (.inl e)) fun e => .inr (.inr (.inl e)))), h.n1, h.nm, h.nt⟩
theorem MBr.below (h : MBr w0 W mb tb tv lv cv gs go gh gw l fs vS vO vH vW) (hb : Below W.heap.size W W') : MBr w0 W' mb tb tv lv cv gs go gh gw l fs vS vO vH vW :=
  h.same (h.base.trans (hb.mono h.base.size)) hb.size fun j hj => hb.block j (h.lt j hj)
theorem MBr.row (h : MBr w0 W mb tb tv lv cv gs go gh gw l fs vS vO vH vW) : RRow W lv l := h.rules.below h.base
theorem MBr.store (h : MBr w0 W mb tb tv lv cv gs go gh gw l fs vS vO vH vW) {g i : Nat} (hg : g = gs ∨ g = go ∨ g = gh ∨ g = gw) (v : Value) {vS' vO' vH' vW' : Nat → Value}
    (rs : PlRow (W.setCell ⟨g, i, none⟩ v) gs l.length vS') (ro : PlRow (W.setCell ⟨g, i, none⟩ v) go l.length vO') (rh : PlRow (W.setCell ⟨g, i, none⟩ v) gh l.length vH') (rw : PlRow (W.setCell ⟨g, i, none⟩ v) gw l.length vW') :
    MBr w0 (W.setCell ⟨g, i, none⟩ v) mb tb tv lv cv gs go gh gw l fs vS' vO' vH' vW' := by
  have hS : ∀ c, c ≠ g → (W.setCell ⟨g, i, none⟩ v).heap[c]? = W.heap[c]? := fun c hc => Below.heap_setCell W ⟨g, i, none⟩ v c hc
  obtain ⟨l1, l2, l3, l4, l5⟩ := h.low
  have hlow : w0.heap.size ≤ g := by rcases hg with e | e | e | e <;> omega
  obtain ⟨m1, m2, m3, m4⟩ := h.nm
  have bm := hS mb (by rcases hg with e | e | e | e <;> omega)
  have cc : ∀ {j : Nat} {u : Value}, W.cell? ⟨mb, j, none⟩ = some u → (W.setCell ⟨g, i, none⟩ v).cell? ⟨mb, j, none⟩ = some u := fun {j u} hc => (World.cell?_of_block (a := ⟨mb, j, none⟩) bm).trans hc
  refine ⟨below_setCell h.base hlow v, h.rules, h.low, cc h.c0, cc h.c1, cc h.c2, cc h.c3, cc h.c4, cc h.c5, cc h.c6, rs, ro, rh, rw, h.tree.same (fun j hj => hS j ?_), h.n1, h.nm, h.nt⟩
  obtain ⟨t1, t2, t3, t4⟩ := h.nt j hj
  rcases hg with e | e | e | e <;> omega
theorem PlRow.other {g g' i n : Nat} {f : Nat → Value} (h : PlRow W g n f) (hg : g ≠ g') (v : Value) : PlRow (W.setCell ⟨g', i, none⟩ v) g n f :=
  h.same (by rw [size_setCell]; exact Nat.le_refl _) (Below.heap_setCell W ⟨g', i, none⟩ v g hg)
theorem MBr.setS (h : MBr w0 W mb tb tv lv cv gs go gh gw l fs vS vO vH vW) {i : Nat} (hi : i < l.length) (v : Value) : MBr w0 (W.setCell ⟨gs, i, none⟩ v) mb tb tv lv cv gs go gh gw l fs (upd vS i v) vO vH vW := by
  obtain ⟨a1, a2, a3, a4, a5, a6⟩ := h.n1
  exact h.store (.inl rfl) v (h.rs.set hi v) (h.ro.other (by omega) v) (h.rh.other (by omega) v) (h.rw.other (by omega) v)
end
end Go.Proofs.YtbgkfmodbofalaaGreatDoor
namespace Go.Proofs.YtbgkfmodbofalaaGreatDoor
open Go.RowKit Go.Shelf Go.Lib
abbrev FailO (gs gw : Nat) (W w : World) : Prop := Only (fun j => j = gs ∨ j = gw) W w
theorem FailO.drew {gs gw : Nat} {W w : World} (h : FailO gs gw W w) (q : Nat) : FailO gs gw W (w.drewN q) := ⟨h.os, h.tape, h.output, h.size, h.block⟩
theorem FailO.set {gs gw : Nat} {W w : World} (h : FailO gs gw W w) (i : Nat) (v : Value) : FailO gs gw W (w.setCell ⟨gs, i, none⟩ v) :=
  ⟨h.os, h.tape, h.output, by rw [size_setCell]; exact h.size, fun j hj hn => (Below.heap_setCell w ⟨gs, i, none⟩ v j (fun e => hn (.inl e))).trans (h.block j hj hn)⟩
theorem MBr.drew {w0 W : World} {mb tb : Nat} {tv lv cv : Value} {gs go gh gw : Nat} {l : List Ru} {fs : Tf.Fs} {vS vO vH vW : Nat → Value} (h : MBr w0 W mb tb tv lv cv gs go gh gw l fs vS vO vH vW) (q : Nat) : MBr w0 (W.drewN q) mb tb tv lv cv gs go gh gw l fs vS vO vH vW :=
  h.same (below_draws h.base q) (Nat.le_refl _) fun _ _ => rfl
end Go.Proofs.YtbgkfmodbofalaaGreatDoor
namespace Go.Proofs.YtbgkfmodbofalaaGreatDoor
open Go.RowKit Go.Shelf Go.Lib
set_option maxRecDepth 100000 in
set_option maxHeartbeats 4000000 in
theorem LongTexts_any {w : World} (v : Value) (ls : List (List UInt8)) (many most : Nat) (hmany : many ≤ 1000000) (hmost : most ≤ 1000000) (hrow : IRow w v ls) :
    Calls Tryz.prog 34 #[v, .int .i64 many, .int .i64 most] w fun e w' => ∃ r : Int, e = .returned (.int .i64 r) ∧ w' = w ∧ (r = 1 ∨ (r = 0 ∧ ls.length ≤ many ∧ ∀ x ∈ ls, x.length ≤ most)) := by
  obtain ⟨p, cap, rfl, hin⟩ := hrow
  have zM : (most : Int) ≤ 1000000 := by omega
  have zN : (many : Int) ≤ 1000000 := by omega
  have HI := hid1 hin
  clear hin
  by_cases h12 : ls.length ≤ many
  · have z12 : (ls.length : Int) ≤ (many : Int) := by omega
    go_enter Tryz.func34, Tryz.ntmps34
    go_wp2
    go_loopw [7, 8] (fun n i wr => ∃ k m : Nat, k ≤ ls.length ∧ m ≤ most ∧ n = .int .i64 m ∧ i = .int .i64 k ∧ (∀ j (hj : j < ls.length), j < k → ls[j].length ≤ most) ∧ w = wr) (fun _ i _ => ls.length - (intOf i).toNat)
    case atStart => exact ⟨0, 0, Nat.zero_le _, Nat.zero_le _, rfl, rfl, fun j hj h => by omega, rfl⟩
    case round =>
      obtain ⟨k, m, hk, hm, rfl, rfl, hall, rfl⟩ := hrel
      have HA := hid1 hall
      clear hall
      have c0 : (0 : Int) ≤ (k : Int) := by omega
      have zm : (m : Int) ≤ (most : Int) := by omega
      have q8 : IntKind.i64.wrap (k : Int) = (k : Int) := by rw [IntKind.wrap_i64]; omega
      by_cases hlt : k < ls.length
      · have c1 : (k : Int) < (ls.length : Int) := by omega
        obtain ⟨g, o, rfl, hg, hcur⟩ := HI.out (by intro e; rw [e] at hlt; simp at hlt)
        have hcell := hcur k hlt
        have HS : Hid (ls[k].length ≤ most → ∀ j (hj : j < ls.length), j < k + 1 → ls[j].length ≤ most) := by
          refine hid1 fun h j hj hjk => ?_
          by_cases e : j = k
          · subst e; exact h
          · exact HA.out j hj (by omega)
        clear hcur HI HA
        generalize ls[k] = y at *
        by_cases hy : y.length ≤ most
        · have zy : (y.length : Int) ≤ (most : Int) := by omega
          have HN := hid1 (HS.out hy)
          clear HS
          have q7 : IntKind.i64.wrap ((m : Int) + (y.length : Int)) = ((m + y.length : Nat) : Int) := by rw [IntKind.wrap_i64]; omega
          by_cases hs : m + y.length ≤ most
          · have zs : ((m + y.length : Nat) : Int) ≤ (most : Int) := by omega
            generalize hmy : m + y.length = m1 at *
            clear hmy
            go_wp2
            exact ⟨⟨k + 1, m1, by omega, hs, rfl, by go_num, HN.out, trivial⟩, by simp [intOf]; omega⟩
          · have zs : (most : Int) < ((m + y.length : Nat) : Int) := by omega
            generalize hmy : m + y.length = m1 at *
            clear hmy
            go_wp2
            go_ret
            exact ⟨1, rfl, rfl, .inl rfl⟩
        · have zy : (most : Int) < (y.length : Int) := by omega
          clear HS
          go_wp2
          go_ret
          exact ⟨1, rfl, rfl, .inl rfl⟩
      · obtain rfl : k = ls.length := by omega
        have c1 : ¬ (ls.length : Int) < (ls.length : Int) := by omega
        have HF : Hid (∀ x ∈ ls, x.length ≤ most) := by
          refine hid1 fun x hx => ?_
          obtain ⟨j, hj, rfl⟩ := List.getElem_of_mem hx
          exact HA.out j hj hj
        clear HI HA
        go_wp2
        go_ret
        exact ⟨0, rfl, rfl, .inr ⟨rfl, HF.out⟩⟩
  · have z12 : (many : Int) < (ls.length : Int) := by omega
    go_enter Tryz.func34, Tryz.ntmps34
    go_wp2
    go_ret
    exact ⟨1, rfl, rfl, .inl rfl⟩
set_option maxRecDepth 100000 in
set_option maxHeartbeats 4000000 in
theorem OwnTexts_nil (w : World) :
    Calls Tryz.prog 36 #[.slice none 0 0] w fun e w' => ∃ v', e = .returned v' ∧ XRow w' v' [] ∧ TRow w' v' [] ∧ Below w.heap.size w w' := by
  obtain ⟨i0, hi, hz0, hz1, hz2⟩ := info_parts Tryz.infoStr
  have n1 : World.ownsRow w w.heap.size 9 1 (.slice none 0 0) 0 [] := World.ownsRow_nil _ _ _ _
  go_enter Tryz.func36, Tryz.ntmps36
  go_wp2_with (first
    | (at_builtin; refine wpList_append_own_none rfl _ _ 45 rfl w.heap.size 9 i0 1 Tryz.underlying45 hi _ _ _ rfl n1 rfl ?_)
    | go_in)
  go_ret
  exact ⟨_, rfl, XRow.of_owns (l := []) n1, TRow.of_owns (l := []) n1, Below.refl _ _⟩
set_option maxRecDepth 100000 in
set_option maxHeartbeats 4000000 in
theorem OwnTexts_some (w : World) (a : Addr) (cap : Nat) (ls : List (List UInt8)) (hn : ls.length ≤ 12) (hsrc : ∀ j u, (ls.map sv)[j]? = some u → w.cell? (a.add j) = some u) :
    Calls Tryz.prog 36 #[.slice (some a) ls.length cap] w fun e w' => ∃ v', e = .returned v' ∧ XRow w' v' ls ∧ TRow w' v' ls ∧ Below w.heap.size w w' := by
  obtain ⟨i0, hi, hz0, hz1, hz2⟩ := info_parts Tryz.infoStr
  have n1 : World.ownsRow w w.heap.size 9 1 (.slice none 0 0) 0 [] := World.ownsRow_nil _ _ _ _
  go_enter Tryz.func36, Tryz.ntmps36
  go_wp2_with (first
    | (at_builtin; refine wpList_append_own _ rfl _ _ 45 rfl w.heap.size 9 i0 (.string ⟨#[]⟩) 1 16 Tryz.underlying45 hi hz0 hz1 hz2 rfl (by decide) _ _ _ rfl n1 a ls.length cap (ls.map sv) rfl (by simp) hsrc one_sv (by unfold maxLen; omega) (by omega) (Nat.le_refl _) ?_; intro v1 w1 hown1 hgrow1 _; have b1 := lay_b1 n1 hgrow1; clear hsrc n1 hgrow1)
    | go_in)
  go_ret
  exact ⟨_, rfl, XRow.of_owns hown1, TRow.of_owns hown1, b1⟩
theorem OwnTexts_x {w : World} (v : Value) (ls : List (List UInt8)) (hrow : XRow w v ls) (h12 : ls.length ≤ 12) :
    Calls Tryz.prog 36 #[v] w fun e w' => ∃ v', e = .returned v' ∧ XRow w' v' ls ∧ TRow w' v' ls ∧ Below w.heap.size w w' := by
  have hx := hrow.irow
  have hv := hrow.shape
  obtain ⟨p, cap, rfl, hin⟩ := hx
  rcases hv with e | ⟨a, n, c, e⟩
  · obtain ⟨rfl, e2, rfl⟩ : p = none ∧ ls.length = 0 ∧ cap = 0 := by simpa using e
    obtain rfl := List.length_eq_zero_iff.1 e2
    exact OwnTexts_nil w
  · obtain ⟨rfl, rfl, rfl⟩ : p = some a ∧ ls.length = n ∧ cap = c := by simpa using e
    refine OwnTexts_some w a cap ls h12 fun j u hj => ?_
    have hjl : j < ls.length := by simpa using (List.getElem?_eq_some_iff.1 hj).1
    obtain ⟨g, o, e1, hg, hcur⟩ := hin (by intro e; rw [e] at hjl; simp at hjl)
    obtain rfl := Option.some.inj e1
    rw [List.getElem?_map, List.getElem?_eq_getElem hjl] at hj
    simp only [Option.map_some, Option.some.injEq] at hj
    rw [← hj, add_at2]
    exact hcur j hjl
end Go.Proofs.YtbgkfmodbofalaaGreatDoor
namespace Go.Proofs.YtbgkfmodbofalaaGreatDoor
open Go.RowKit Go.Shelf Go.Lib
theorem piece_len (x : List UInt8) (h : x.length ≤ 5000) : (Kp.piece x).length ≤ x.length + 22 := by
  unfold Kp.piece
  have := digits_len x.length (by omega)
  simp
  omega
end Go.Proofs.YtbgkfmodbofalaaGreatDoor
namespace Go.Proofs.YtbgkfmodbofalaaGreatDoor
open Go.RowKit Go.Shelf Go.Lib
def MCa (T : Nat → Prop) (W : World) (cv : Value) : Bf.Ca → Prop
  | none => cv = .pointer none ∧ ∀ j, ¬ T j
  | some (m, l) => (∃ p, cv = .pointer (some p)) ∧ MAt T W cv m l
theorem MCa.same {T : Nat → Prop} {W W' : World} {cv : Value} {c : Bf.Ca} (h : MCa T W cv c) (hz : W.heap.size ≤ W'.heap.size) (hb : ∀ k, T k → W'.heap[k]? = W.heap[k]?) : MCa T W' cv c := by
  match c, h with
  | none, h => exact h
  | some (m, l), h => exact ⟨h.1, h.2.same hz hb⟩
theorem MCa.lt {T : Nat → Prop} {W : World} {cv : Value} {c : Bf.Ca} (h : MCa T W cv c) : ∀ k, T k → k < W.heap.size := by
  match c, h with
  | none, h => exact fun k hk => absurd hk (h.2 k)
  | some (m, l), h => exact h.2.lt
theorem MCa.below {T : Nat → Prop} {W W' : World} {cv : Value} {c : Bf.Ca} (h : MCa T W cv c) (hb : Below W.heap.size W W') : MCa T W' cv c := h.same hb.size fun k hk => hb.block k (h.lt k hk)
theorem MCa.fail {W V w' : World} {mb tb : Nat} {tv cv : Value} {gs go gh gw : Nat} {T : Nat → Prop} {c : Bf.Ca} (h : MCa T W cv c) (hT : ∀ j, MBlk mb tb tv gs go gh gw j → ¬ T j) (g : Below W.heap.size W V) (o : FailO gs gw V w') : MCa T w' cv c :=
  (h.below g).same o.size fun k hk => o.block k ((h.below g).lt k hk) fun x => hT k (x.elim (fun e => .inr (.inr (.inr (.inl e)))) fun e => .inr (.inr (.inr (.inr (.inr (.inr e)))))) hk
theorem MCa.stored {W V : World} {mb tb : Nat} {tv cv : Value} {gs go gh gw : Nat} {T : Nat → Prop} {c : Bf.Ca} (h : MCa T W cv c) (hT : ∀ j, MBlk mb tb tv gs go gh gw j → ¬ T j) (g : Below W.heap.size W V) {a b i : Nat} {u v : Value} (ha : a = gs ∨ a = go ∨ a = gh ∨ a = gw) (hb : b = gs ∨ b = go ∨ b = gh ∨ b = gw) : MCa T ((V.setCell ⟨a, i, none⟩ u).setCell ⟨b, i, none⟩ v) cv c := by
  have key : ∀ x j, (x = gs ∨ x = go ∨ x = gh ∨ x = gw) → T j → j ≠ x := fun x j hx ht e => hT j (by subst e; exact .inr (.inr (.inr hx))) ht
  exact (h.below g).same (by rw [size_setCell, size_setCell]; exact Nat.le_refl _) fun k hk => (Below.heap_setCell _ ⟨b, i, none⟩ v k (key b k hb hk)).trans (Below.heap_setCell V ⟨a, i, none⟩ u k (key a k ha hk))
namespace Bf
def acc (d : Bd) (o : List (List UInt8)) (x : List UInt8) (j : Nat) : List (List UInt8) := match mkr d.l x with | some m => if m < j then o ++ [(d.st m).out] else o | none => o
end Bf
end Go.Proofs.YtbgkfmodbofalaaGreatDoor
namespace Go.Proofs.YtbgkfmodbofalaaGreatDoor
open Go.RowKit Go.Shelf Go.Lib Go.Maps
def vElem : Value → Option (DataW Value × List MemPlace) := fun v => some (.held v, [])
def VMap (W : World) (b : Nat) (fd : List UInt8 → Option Value) : Prop :=
  ∃ (D : DataW Value) (K : List (List UInt8)), W.ownsMap Tryz.prog 9 vElem b K.length D ∧ Maps.size D = K.length ∧ K.Nodup ∧ (∀ x, has D (.string x) = (fd x).isSome) ∧ (∀ x, x ∈ K ↔ (fd x).isSome = true) ∧ ∀ x v z, fd x = some v → D.atKey (.string x) z = .held v
theorem vowns_tight {w : World} {b n : Nat} {D : DataW Value} (h : w.ownsMap Tryz.prog 9 vElem b n D) : w.ownsMap Tryz.prog 9 vElem b (Maps.size D) D := by
  obtain ⟨es, clock, h1, F, _, hD⟩ := h
  refine ⟨es, clock, h1, F, ?_, hD⟩
  rw [hD]
  simp [Maps.size, length_sorted]
theorem VMap.lt {W : World} {b : Nat} {fd : List UInt8 → Option Value} (h : VMap W b fd) : b < W.heap.size := by
  obtain ⟨D, K, h1, _⟩ := h
  exact h1.lt
theorem VMap.same {W W' : World} {b : Nat} {fd : List UInt8 → Option Value} (h : VMap W b fd) (hb : W'.heap[b]? = W.heap[b]?) : VMap W' b fd := by
  obtain ⟨D, K, ⟨es, clock, h1, F⟩, h2⟩ := h
  exact ⟨D, K, ⟨es, clock, hb.trans h1, F⟩, h2⟩
theorem VMap.below {W W' : World} {b : Nat} {fd : List UInt8 → Option Value} (h : VMap W b fd) (hb : Below W.heap.size W W') : VMap W' b fd := h.same (hb.block b h.lt)
theorem VMap.made (W : World) : VMap (W.alloc (.map #[] 0)) W.heap.size (fun _ => none) :=
  ⟨.map [], [], World.ownsMap_made W _ _ _, rfl, List.nodup_nil, fun _ => rfl, fun x => by simp, fun x v z h => by cases h⟩
theorem VMap.congr {W : World} {b : Nat} {fd fd' : List UInt8 → Option Value} (h : VMap W b fd) (he : ∀ x, fd' x = fd x) : VMap W b fd' := by
  have : fd' = fd := funext he
  rw [this]; exact h
theorem VMap.look {W : World} {b : Nat} {fd : List UInt8 → Option Value} (h : VMap W b fd) {t e : TypeId} (ht : Tryz.prog.underlying t = some (.map 9 e)) {z : Value} (hz : (zeroValue e).run Tryz.prog W = .ok z W) (x : List UInt8) (hx : x.length ≤ 1000000) :
    (Instr.lookup t (.map (some b)) (.string (ba x)) true).run Tryz.prog W = .ok (.tuple #[(fd x).getD z, .bool (fd x).isSome]) W := by
  obtain ⟨D, K, h1, h2, h3, h4, h5, h6⟩ := h
  obtain ⟨v, ps, hrun, hv⟩ := h1.look_ok (t := t) (e := e) claw ht (z := z) hz (zd := .held z) (zp := []) rfl (ckey x hx)
  have hv' : (DataW.held v : DataW Value) = D.atKey (.string x) (.held z) := by
    have : vElem v = some (.held v, []) := rfl
    rw [this] at hv
    simpa using congrArg (fun o => o.map Prod.fst) hv
  rw [hrun, h4]
  have : v = (fd x).getD z := by
    cases hf : fd x with
    | some u =>
      rw [h6 x u _ hf] at hv'
      injection hv'
    | none =>
      have hh : has D (.string x) = false := by rw [h4, hf]; rfl
      rw [atKey_of_not_has hh] at hv'
      injection hv'
  rw [this]
theorem VMap.laid {W : World} {b : Nat} {fd : List UInt8 → Option Value} (h : VMap W b fd) {t e : TypeId} (ht : Tryz.prog.underlying t = some (.map 9 e)) (L : List (List UInt8)) (hL : ∀ x, (fd x).isSome = true → x ∈ L) (hn : L.length ≤ 1000000) (x : List UInt8) (hx : x.length ≤ 1000000) (v : Value) :
    ∃ w1, (Instr.mapUpdate t (.map (some b)) (.string (ba x)) v).run Tryz.prog W = .ok () w1 ∧ VMap w1 b (fun y => if y = x then some v else fd y) ∧ W.mapTurned w1 b := by
  obtain ⟨D, K, h1, h2, h3, h4, h5, h6⟩ := h
  have hK : K.length ≤ L.length := Cf.nodup_len h3 fun y hy => hL y ((h5 y).1 hy)
  obtain ⟨w1, hr, ho1, ht1⟩ := h1.store (t := t) (e := e) claw ht (by unfold maxLen; omega) (ckey x hx) (show vElem v = some (.held v, []) from rfl)
  have hT := h1.tidy claw
  have hk : WideAt.IsKeyLit (.string x) := by simp [WideAt.IsKeyLit]
  have hat : ∀ y u z, (if y = x then some v else fd y) = some u → (D.put (.string x) (.held v)).atKey (.string y) z = .held u := fun y u z hy => by
    by_cases e : y = x
    · subst e
      rw [if_pos rfl] at hy
      cases hy
      rw [atKey_put_same hT.isMap hk]
    · rw [if_neg e] at hy
      rw [atKey_put_other (by simpa using e), h6 y u z hy]
  have hhas : ∀ y, has (D.put (.string x) (.held v)) (.string y) = (if y = x then some v else fd y).isSome := fun y => by
    by_cases e : y = x
    · subst e
      rw [if_pos rfl, has_put_same hT.isMap hk]
      rfl
    · rw [if_neg e, has_put_other (by simpa using e), h4]
  have hsz := size_put (k := .string x) (d := .held v) hT
  rw [h4, h2] at hsz
  refine ⟨w1, hr, ?_, ht1⟩
  cases hf : (fd x).isSome with
  | true =>
    rw [hf] at hsz
    have hsz' : Maps.size (D.put (.string x) (.held v)) = K.length := by simpa using hsz
    refine ⟨_, K, hsz' ▸ vowns_tight ho1, hsz', h3, hhas, fun y => ?_, hat⟩
    show _ ↔ (if y = x then some v else fd y).isSome = true
    by_cases e : y = x
    · subst e; rw [if_pos rfl, h5, hf]; simp
    · rw [if_neg e, h5]
  | false =>
    rw [hf] at hsz
    have hsz' : Maps.size (D.put (.string x) (.held v)) = (x :: K).length := by simpa using hsz
    refine ⟨_, x :: K, hsz' ▸ vowns_tight ho1, hsz', List.nodup_cons.2 ⟨fun hx => ?_, h3⟩, hhas, fun y => ?_, hat⟩
    · rw [h5, hf] at hx; cases hx
    · show _ ↔ (if y = x then some v else fd y).isSome = true
      by_cases e : y = x
      · subst e; simp
      · rw [if_neg e, ← h5]; simp [e]
end Go.Proofs.YtbgkfmodbofalaaGreatDoor
namespace Go.Proofs.YtbgkfmodbofalaaGreatDoor
open Go.RowKit Go.Shelf Go.Lib Go.Maps
abbrev ansV (es : Nat → Addr) (x : List UInt8 × Nat) : Value := .agg #[.string (ba x.1), erOf es x.2]
def ruF (l : List Ru) (uv : Nat → Value) (x : List UInt8) : Option Value := (Bf.mkr l x).map fun i => ruV (l.getD i ⟨[], [], [], []⟩) (uv i)
structure AskE (w : World) (es : Nat → Addr) : Prop where
  a : AE w (erOf es)
  none : w.cell? ⟨2, 0, Option.none⟩ = some (erOf es 6)
theorem AskE.below {w w' : World} {es : Nat → Addr} (h : AskE w es) (hb : Below w.heap.size w w') : AskE w' es := ⟨h.a.stays hb, cell_below' h.none hb⟩
structure AskL where
  (rc tc dc kc rm dm : Nat)
abbrev AskL.caps (L : AskL) : Array Value := #[Ptr L.rc, Ptr L.tc, Ptr L.dc, Ptr L.kc]
abbrev AskL.fn (L : AskL) : Value := .func (.func 194) #[] L.caps
structure Asks (es : Nat → Addr) (tb : Nat) (fs : Tf.Fs) (l : List Ru) (uv : Nat → Value) (W0 : World) (L : AskL) (W : World) : Prop where
  base : Below W0.heap.size W0 W
  cr : W.cell? ⟨L.rc, 0, none⟩ = some (.map (some L.rm))
  ct : W.cell? ⟨L.tc, 0, none⟩ = some (Ptr tb)
  cd : W.cell? ⟨L.dc, 0, none⟩ = some (.map (some L.dm))
  ck : W.cell? ⟨L.kc, 0, none⟩ = some L.fn
  rules : VMap W L.rm (ruF l uv)
  told : ∃ fd, VMap W L.dm fd ∧ ∀ x v, fd x = some v → (Bf.mkr l x).isSome = true ∧ v = ansV es (Bf.want Af.actO fs l x)
  nr : L.rc ≠ L.dm
  nt : L.tc ≠ L.dm
  nd : L.dc ≠ L.dm
  nk : L.kc ≠ L.dm
  nm : L.rm ≠ L.dm
  new : W0.heap.size ≤ L.dm
theorem Asks.below {es : Nat → Addr} {tb : Nat} {fs : Tf.Fs} {l : List Ru} {uv : Nat → Value} {W0 W W' : World} {L : AskL} (h : Asks es tb fs l uv W0 L W) (hb : Below W.heap.size W W') : Asks es tb fs l uv W0 L W' := by
  obtain ⟨fd, h1, h2⟩ := h.told
  exact ⟨below_then h.base hb, cell_below' h.cr hb, cell_below' h.ct hb, cell_below' h.cd hb, cell_below' h.ck hb, h.rules.below hb, ⟨fd, h1.below hb, h2⟩, h.nr, h.nt, h.nd, h.nk, h.nm, h.new⟩
theorem Asks.turn {es : Nat → Addr} {tb : Nat} {fs : Tf.Fs} {l : List Ru} {uv : Nat → Value} {W0 W W' : World} {L : AskL} (h : Asks es tb fs l uv W0 L W) (hb : Only (fun j => j = L.dm) W W') {fd : List UInt8 → Option Value} (h1 : VMap W' L.dm fd) (h2 : ∀ x v, fd x = some v → (Bf.mkr l x).isSome = true ∧ v = ansV es (Bf.want Af.actO fs l x)) : Asks es tb fs l uv W0 L W' :=
  ⟨h.base.trans (hb.below (fun j hj => by rw [hj]; exact h.new) h.base.size), hb.cell h.cr h.nr, hb.cell h.ct h.nt, hb.cell h.cd h.nd, hb.cell h.ck h.nk, h.rules.same (hb.block _ h.rules.lt h.nm), ⟨fd, h1, h2⟩, h.nr, h.nt, h.nd, h.nk, h.nm, h.new⟩
theorem Asks.lt {es : Nat → Addr} {tb : Nat} {fs : Tf.Fs} {l : List Ru} {uv : Nat → Value} {W0 W : World} {L : AskL} (h : Asks es tb fs l uv W0 L W) : L.dm < W.heap.size := by
  obtain ⟨fd, h1, _⟩ := h.told
  exact h1.lt
theorem Only.then {S : Nat → Prop} {a b c : World} (h : Only S a b) (hb : Below a.heap.size b c) : Only S a c :=
  ⟨hb.os.trans h.os, hb.tape.trans h.tape, hb.output.trans h.output, Nat.le_trans h.size hb.size, fun j hj hs => (hb.block j hj).trans (h.block j hj hs)⟩
theorem Asks.after {es : Nat → Addr} {tb : Nat} {fs : Tf.Fs} {l : List Ru} {uv : Nat → Value} {W0 W1 W W' : World} {L : AskL} (h1 : Asks es tb fs l uv W0 L W1) (h : Asks es tb fs l uv W0 L W) (hb : Below W1.heap.size W W') : Asks es tb fs l uv W0 L W' := by
  obtain ⟨fd, h2, h3⟩ := h.told
  have hc : ∀ {a : Addr} {u u' : Value}, W1.cell? a = some u' → W.cell? a = some u → W'.cell? a = some u := fun h1 h2 => (hb.cell (lt_of_cell h1)).trans h2
  exact ⟨h.base.trans (hb.mono h1.base.size), hc h1.cr h.cr, hc h1.ct h.ct, hc h1.cd h.cd, hc h1.ck h.ck, h.rules.same (hb.block _ h1.rules.lt), ⟨fd, h2.same (hb.block _ h1.lt), h3⟩, h.nr, h.nt, h.nd, h.nk, h.nm, h.new⟩
theorem Asks.keep {es : Nat → Addr} {tb : Nat} {fs : Tf.Fs} {l : List Ru} {uv : Nat → Value} {W0 W : World} {L : AskL} (h : Asks es tb fs l uv W0 L W) (hl : l.length ≤ 40) (x : List UInt8) (hx : x.length ≤ 1000) (hm : (Bf.mkr l x).isSome = true) :
    ∃ w1, (Instr.mapUpdate 265 (.map (some L.dm)) (.string (ba x)) (ansV es (Bf.want Af.actO fs l x))).run Tryz.prog W = .ok () w1 ∧ Asks es tb fs l uv W0 L w1 ∧ Only (fun j => j = L.dm) W w1 := by
  obtain ⟨fd, h1, h2⟩ := h.told
  have hout : ∀ y, (Bf.mkr l y).isSome = true → y ∈ l.map Ru.out := fun y hy => by
    obtain ⟨i, hi⟩ := Option.isSome_iff_exists.1 hy
    obtain ⟨hk, e⟩ := Bf.mkr_of hi
    exact List.mem_map.2 ⟨_, List.getElem_mem hk, e⟩
  obtain ⟨w1, hr, hv, ht⟩ := h1.laid Tryz.underlying265 (l.map Ru.out) (fun y hy => by
    obtain ⟨v, hv⟩ := Option.isSome_iff_exists.1 hy
    exact hout y (h2 y v hv).1) (by simp; omega) x (by omega) (ansV es (Bf.want Af.actO fs l x))
  have ho : Only (fun j => j = L.dm) W w1 := by
    refine ⟨ht.grown.os, ht.grown.tape, ht.grown.output, ht.grown.size, fun j hj hs => ht.grown.block j hj fun e => hs ?_⟩
    simpa using e
  refine ⟨w1, hr, h.turn ho hv fun y v hy => ?_, ho⟩
  by_cases e : y = x
  · subst e
    rw [if_pos rfl] at hy
    cases hy
    exact ⟨hm, rfl⟩
  · rw [if_neg e] at hy
    exact h2 y v hy
end Go.Proofs.YtbgkfmodbofalaaGreatDoor
namespace Go.Proofs.YtbgkfmodbofalaaGreatDoor
open Go.RowKit Go.Shelf Go.Lib Go.Maps
def ruK (l : List Ru) (uv : Nat → Value) (k : Nat) (x : List UInt8) : Option Value :=
  match Bf.mkr l x with
  | some i => if i < k then some (ruV (l.getD i ⟨[], [], [], []⟩) (uv i)) else none
  | none => none
theorem ruK_all (l : List Ru) (uv : Nat → Value) (x : List UInt8) : ruK l uv l.length x = ruF l uv x := by
  unfold ruK ruF
  cases hm : Bf.mkr l x with
  | none => rfl
  | some i =>
    obtain ⟨hi, _⟩ := Bf.mkr_of hm
    simp only [Option.map_some]
    rw [if_pos hi]
theorem last_cell (W : World) (v : Value) (t : TypeId) {n : Nat} (hn : W.heap.size = n) : (W.alloc (.cells #[v] t)).cell? ⟨n, 0, none⟩ = some v := by
  subst hn
  exact cell_of_row (j := 0) (row_newW W _) rfl
structure AskM (tb : Nat) (l : List Ru) (uv : Nat → Value) (W0 : World) (k : Nat) (W : World) : Prop where
  base : Below W0.heap.size W0 W
  ct : W.cell? ⟨W0.heap.size, 0, none⟩ = some (Ptr tb)
  cr : W.cell? ⟨W0.heap.size + 1 + 1, 0, none⟩ = some (.map (some (W0.heap.size + 1)))
  rules : VMap W (W0.heap.size + 1) (ruK l uv k)
theorem AskM.below {tb : Nat} {l : List Ru} {uv : Nat → Value} {W0 W W' : World} {k : Nat} (h : AskM tb l uv W0 k W) (hb : Below W.heap.size W W') : AskM tb l uv W0 k W' :=
  ⟨below_then h.base hb, cell_below' h.ct hb, cell_below' h.cr hb, h.rules.below hb⟩
theorem AskM.done {es : Nat → Addr} {fs : Tf.Fs} {tb : Nat} {l : List Ru} {uv : Nat → Value} {W0 W W' : World} (h : AskM tb l uv W0 l.length W) (hb : Below W.heap.size W W') (hm : VMap W' W.heap.size (fun _ => none)) (hd : W'.cell? ⟨W.heap.size + 1, 0, none⟩ = some (.map (some W.heap.size)))
    (hk : W'.cell? ⟨W.heap.size + 1 + 1, 0, none⟩ = some (AskL.fn ⟨W0.heap.size + 1 + 1, W0.heap.size, W.heap.size + 1, W.heap.size + 1 + 1, W0.heap.size + 1, W.heap.size⟩)) :
    Asks es tb fs l uv W0 ⟨W0.heap.size + 1 + 1, W0.heap.size, W.heap.size + 1, W.heap.size + 1 + 1, W0.heap.size + 1, W.heap.size⟩ W' := by
  have h' := h.below hb
  have l1 := lt_of_cell h.ct
  have l2 := lt_of_cell h.cr
  simp only at l1 l2
  exact ⟨h'.base, h'.cr, h'.ct, hd, hk, h'.rules.congr fun x => (ruK_all l uv x).symm, ⟨_, hm, fun x v hx => by cases hx⟩, by simp only; omega, by simp only; omega, by simp only; omega, by simp only; omega, by simp only; omega, by simp only; omega⟩
theorem AskM.fin {es : Nat → Addr} {fs : Tf.Fs} {tb : Nat} {l : List Ru} {uv : Nat → Value} {W0 W : World} (h : AskM tb l uv W0 l.length W) :
    Asks es tb fs l uv W0 ⟨W0.heap.size + 1 + 1, W0.heap.size, W.heap.size + 1, W.heap.size + 1 + 1, W0.heap.size + 1, W.heap.size⟩ (((W.alloc (.map #[] 0)).alloc (.cells #[.map (some W.heap.size)] 265)).alloc (.cells #[AskL.fn ⟨W0.heap.size + 1 + 1, W0.heap.size, W.heap.size + 1, W.heap.size + 1 + 1, W0.heap.size + 1, W.heap.size⟩] 216)) := by
  have g1 : Below W.heap.size W (W.alloc (.map #[] 0)) := (Below.refl _ W).alloc (Nat.le_refl _) _
  have g2 : Below (W.alloc (.map #[] 0)).heap.size (W.alloc (.map #[] 0)) ((W.alloc (.map #[] 0)).alloc (.cells #[.map (some W.heap.size)] 265)) := (Below.refl _ _).alloc (Nat.le_refl _) _
  have g3 : Below ((W.alloc (.map #[] 0)).alloc (.cells #[.map (some W.heap.size)] 265)).heap.size ((W.alloc (.map #[] 0)).alloc (.cells #[.map (some W.heap.size)] 265)) (((W.alloc (.map #[] 0)).alloc (.cells #[.map (some W.heap.size)] 265)).alloc (.cells #[AskL.fn ⟨W0.heap.size + 1 + 1, W0.heap.size, W.heap.size + 1, W.heap.size + 1 + 1, W0.heap.size + 1, W.heap.size⟩] 216)) := (Below.refl _ _).alloc (Nat.le_refl _) _
  exact h.done (below_then (below_then g1 g2) g3) (((VMap.made W).below g2).below g3) (cell_below' (last_cell _ _ _ (by simp)) g3) (last_cell _ _ _ (by simp))
end Go.Proofs.YtbgkfmodbofalaaGreatDoor
