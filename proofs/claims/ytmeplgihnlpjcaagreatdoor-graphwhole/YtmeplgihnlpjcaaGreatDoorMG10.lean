/- What package graph's OrderOf keeps in memory. -/
import Derived.Test.YtmeplgihnlpjcaaGreatDoorMG8
import Derived.Test.YtmeplgihnlpjcaaGreatDoorGInts
import Derived.Test.YtmeplgihnlpjcaaGreatDoorShelf5
import Derived.Sort.OwnSorted
import Derived.Laws.CopyOwn
namespace Go.Proofs.YtmeplgihnlpjcaaGreatDoor
open Go.RowKit Go.Shelf Go.Lib
open Go.Sort (Holds putRow grow)

abbrev encI : Int → Value := Value.int .i64
/-- Numbers, as the library sees them. -/
abbrev ints (l : List Nat) : List Int := l.map fun (x : Nat) => (x : Int)
theorem ints_get {l : List Nat} {j : Nat} (h : j < l.length) : (ints l).toArray[j]! = (l[j] : Int) := by simp [h]

theorem put_grown {w : World} {g n : Nat} (d : Array Int) : w.grownBy (putRow encI (Sort.ahead w n) g 0 d) (some g) := by
  refine ⟨rfl, rfl, rfl, by simp, fun k hk hne => ?_⟩
  have : g ≠ k := fun e => hne (by rw [e])
  simp [putRow, Go.Sort.mapBlock, Sort.ahead, Array.getElem?_modify, this]
theorem grow_grown {w : World} {g n : Nat} {os : Array Obj} (d : Array Int) : w.grownBy (grow (putRow encI (Sort.ahead w n) g 0 d) os) (some g) := by
  refine ⟨rfl, rfl, rfl, by simp, fun k hk hne => ?_⟩
  rw [Go.Sort.heap_grow_old _ _ (by simpa using hk)]
  have : g ≠ k := fun e => hne (by rw [e])
  simp [putRow, Go.Sort.mapBlock, Sort.ahead, Array.getElem?_modify, this]

theorem Holds.ni {w : World} {g cap : Nat} {l : List Nat} (h : Holds encI w g 0 (ints l).toArray) (hg : g < w.heap.size) : NIRow w (.slice (some ⟨g, 0, none⟩) l.length cap) l := by
  refine ⟨_, cap, rfl, fun _ => ⟨g, 0, rfl, hg, fun j hj => ?_⟩⟩
  have := (h j (by simpa using hj)).1
  rw [this, ints_get hj]
theorem Holds.of_owns {w : World} {B g cap : Nat} {l : List Nat} (h : w.ownsRow B 3 1 (.slice (some ⟨g, 0, none⟩) l.length cap) l.length (l.map nv)) : Holds encI w g 0 (ints l).toArray ∧ l.length ≤ cap := by
  rcases h.2 with ⟨h', _⟩ | ⟨g', cap', cur, h', hBg, hb, h1, _, _, h4⟩
  · cases h'
  · cases h'
    refine ⟨fun j hj => ?_, h1⟩
    have hj' : j < l.length := by simpa using hj
    have := congrArg (fun x => x[j]?) h4
    simp only [Nat.mul_one, List.getElem?_take, hj', if_true, List.getElem?_map, List.getElem?_eq_getElem hj', Option.map_some, Array.getElem?_toList] at this
    refine ⟨?_, by simp [World.frozen?, hb]⟩
    rw [Nat.zero_add, cell_of_row hb this, ints_get hj']

theorem own_slice {W : World} {B : Nat} {e : TypeId} {s n : Nat} {v : Value} {xs : List Value} (h : W.ownsRow B e s v n xs) : ∃ p c, v = .slice p n c := by
  rcases h.2 with ⟨rfl, rfl⟩ | ⟨g, cap, cur, rfl, _⟩
  · exact ⟨_, _, rfl⟩
  · exact ⟨_, _, rfl⟩
/-- slices.Delete of one number. -/
theorem deleteI_calls {w : World} (g cap : Nat) (l : List Nat) (k : Nat) (hk : k < l.length) (hH : Holds encI w g 0 (ints l).toArray) (hcap : l.length ≤ cap) (hm : cap ≤ 9223372036854775807) :
    Calls Tryz.prog 47 #[.slice (some ⟨g, 0, none⟩) l.length cap, .int .i64 k, .int .i64 ((k : Int) + 1)] w fun e w' => e = .returned (.slice (some ⟨g, 0, none⟩) (l.take k ++ l.drop (k + 1)).length cap) ∧ Holds encI w' g 0 (ints (l.take k ++ l.drop (k + 1))).toArray ∧ w.grownBy w' (some g) := by
  have h := Tryz.slices_Delete_int g 0 cap k (k + 1) (ints l) w hH (by simpa using hcap) (by omega) (by omega) (by simp; omega)
  have e1 : (ints l).length = l.length := by simp
  rw [e1] at h
  refine h.mono ?_
  rintro e w' ⟨rfl, q, rfl⟩
  have hl : (l.take k ++ l.drop (k + 1)).length = l.length - 1 := by simp; omega
  refine ⟨by rw [hl]; congr 2; omega, ?_, put_grown _⟩
  have hp := Go.Sort.holds_putRow encI (Sort.ahead w q) g 0 (ints l).toArray ((ints l).take k ++ (ints l).drop (k + 1) ++ List.replicate (k + 1 - k) 0).toArray hH (by simp; omega)
  intro j hj
  have hj' : j < (l.take k ++ l.drop (k + 1)).length := by simpa using hj
  obtain ⟨p1, p2⟩ := hp j (by simp; omega)
  refine ⟨?_, p2⟩
  rw [p1]
  congr 1
  have ea : (ints l).take k ++ (ints l).drop (k + 1) = ints (l.take k ++ l.drop (k + 1)) := by simp [ints, List.map_take, List.map_drop]
  rw [ea]
  have hj2 : j < (ints (l.take k ++ l.drop (k + 1))).length := by simpa using hj'
  simp only [List.getElem!_toArray, List.getElem!_eq_getElem?_getD]
  rw [List.getElem?_append_left hj2]

/-- What OrderOf keeps: s's box, left's box, left's row (in front of B2), order's row (from B2 on). -/
structure OrdS (w1 W : World) (B2 sb lb p : Nat) (vl : Value) (ll : List Nat) (ov : Value) (o : List Nat) : Prop where
  below : Below w1.heap.size w1 W
  size : B2 ≤ W.heap.size
  low2 : w1.heap.size ≤ B2
  lows : w1.heap.size ≤ sb
  lowl : w1.heap.size ≤ lb
  lts : sb < B2
  ltl : lb < B2
  nel : sb ≠ lb
  cs : W.cell? ⟨sb, 0, none⟩ = some (.pointer (some ⟨p, 0, none⟩))
  cl : W.cell? ⟨lb, 0, none⟩ = some vl
  fl : W.frozen? ⟨lb, 0, none⟩ = false
  left : (ll = [] ∧ ∃ a c, vl = .slice a 0 c) ∨ ∃ g cap, vl = .slice (some ⟨g, 0, none⟩) ll.length cap ∧ ll.length ≤ cap ∧ cap ≤ 9223372036854775807 ∧ Holds encI W g 0 (ints ll).toArray ∧ w1.heap.size ≤ g ∧ g < B2 ∧ g ≠ sb ∧ g ≠ lb
  row : W.ownsRow B2 3 1 ov o.length (o.map nv)
theorem holds_block {w w' : World} {g : Nat} {d : Array Int} (h : Holds encI w g 0 d) (e : w'.heap[g]? = w.heap[g]?) : Holds encI w' g 0 d := fun j hj => ⟨(World.cell?_of_block (a := ⟨g, 0 + j, none⟩) e).trans (h j hj).1, (World.frozen?_of_block (a := ⟨g, 0 + j, none⟩) e).trans (h j hj).2⟩
/-- All blocks in front of B2 as they were. -/
theorem OrdS.move {w1 W W' : World} {B2 sb lb p : Nat} {vl : Value} {ll : List Nat} {ov ov' : Value} {o o' : List Nat} (h : OrdS w1 W B2 sb lb p vl ll ov o) (hb : ∀ c, c < B2 → W'.heap[c]? = W.heap[c]?) (hB : Below w1.heap.size w1 W') (hz : B2 ≤ W'.heap.size) (hr : W'.ownsRow B2 3 1 ov' o'.length (o'.map nv)) : OrdS w1 W' B2 sb lb p vl ll ov' o' := by
  refine ⟨hB, hz, h.low2, h.lows, h.lowl, h.lts, h.ltl, h.nel, (World.cell?_of_block (a := ⟨sb, 0, none⟩) (hb sb h.lts)).trans h.cs, (World.cell?_of_block (a := ⟨lb, 0, none⟩) (hb lb h.ltl)).trans h.cl, (World.frozen?_of_block (a := ⟨lb, 0, none⟩) (hb lb h.ltl)).trans h.fl, ?_, hr⟩
  rcases h.left with h1 | ⟨g, cap, e, h1, h2, h3, h4, h5, h6⟩
  · exact .inl h1
  · exact .inr ⟨g, cap, e, h1, h2, holds_block h3 (hb g h5), h4, h5, h6⟩
theorem own_below {W W' : World} {B : Nat} {e : TypeId} {s n : Nat} {v : Value} {xs : List Value} (h : W.ownsRow B e s v n xs) (hb : Below W.heap.size W W') : W'.ownsRow B e s v n xs := by
  refine ⟨h.1, ?_⟩
  rcases h.2 with h1 | ⟨g, cap, cur, h1, h2, h3, h4⟩
  · exact .inl h1
  · exact .inr ⟨g, cap, cur, h1, h2, (hb.block g (Array.getElem?_eq_some_iff.1 h3).1).trans h3, h4⟩
theorem OrdS.grown {w1 W W' : World} {B2 sb lb p : Nat} {vl : Value} {ll : List Nat} {ov : Value} {o : List Nat} (h : OrdS w1 W B2 sb lb p vl ll ov o) (hb : Below W.heap.size W W') : OrdS w1 W' B2 sb lb p vl ll ov o :=
  h.move (fun c hc => hb.block c (Nat.lt_of_lt_of_le hc h.size)) (below_then h.below hb) (Nat.le_trans h.size hb.size) (own_below h.row hb)
/-- Behind an append to order. -/
theorem OrdS.append {w1 W W1 W' : World} {B2 sb lb p : Nat} {vl : Value} {ll : List Nat} {ov ov' : Value} {o o' : List Nat} (h : OrdS w1 W B2 sb lb p vl ll ov o) (hb : Below W.heap.size W W1) (hg : W1.grownBy W' ov.ownBlock) (hr : W'.ownsRow B2 3 1 ov' o'.length (o'.map nv)) : OrdS w1 W' B2 sb lb p vl ll ov' o' := by
  have hm := own_lt h.row
  have h1 := h.grown hb
  have hz := h.size
  have hz1 := hb.size
  refine h1.move (fun c hc => hg.block c (by omega) (fun e => by have := (hm c e.symm).1; omega)) ?_ (by have := hg.size; omega) hr
  exact h1.below.grown hg (by have := h.low2; omega) fun j e => by have := (hm j e).1; have := h.low2; omega
/-- Behind slices.Delete, ahead of the store. -/
theorem OrdS.gone {w1 W W' : World} {B2 sb lb p g cap : Nat} {ll ll' : List Nat} {ov : Value} {o : List Nat} (h : OrdS w1 W B2 sb lb p (.slice (some ⟨g, 0, none⟩) ll.length cap) ll ov o) (hne : ll ≠ []) (hg : W.grownBy W' (some g)) (hH : Holds encI W' g 0 (ints ll').toArray) (hl : ll'.length ≤ ll.length) :
    W'.cell? ⟨lb, 0, none⟩ = some (.slice (some ⟨g, 0, none⟩) ll.length cap) ∧ W'.frozen? ⟨lb, 0, none⟩ = false ∧ OrdS w1 (W'.setCell ⟨lb, 0, none⟩ (.slice (some ⟨g, 0, none⟩) ll'.length cap)) B2 sb lb p (.slice (some ⟨g, 0, none⟩) ll'.length cap) ll' ov o := by
  rcases h.left with ⟨h1, _⟩ | ⟨g', cap', e, h1, h2, h3, h4, h5, h6, h7⟩
  · exact absurd h1 hne
  · obtain ⟨rfl, rfl⟩ : g = g' ∧ cap = cap' := by
      simp only [Value.slice.injEq, Option.some.injEq, Addr.mk.injEq] at e
      exact ⟨e.1.1, e.2.2⟩
    have hz := h.size
    have hlb := hg.block lb (by have := h.ltl; omega) (fun e => h7 (Option.some.inj e).symm)
    have hsb := hg.block sb (by have := h.lts; omega) (fun e => h6 (Option.some.inj e).symm)
    have c1 : W'.cell? ⟨lb, 0, none⟩ = some (.slice (some ⟨g, 0, none⟩) ll.length cap) := (World.cell?_of_block (a := ⟨lb, 0, none⟩) hlb).trans h.cl
    have f1 : W'.frozen? ⟨lb, 0, none⟩ = false := (World.frozen?_of_block (a := ⟨lb, 0, none⟩) hlb).trans h.fl
    refine ⟨c1, f1, ?_⟩
    have hS : ∀ c, c ≠ lb → (W'.setCell ⟨lb, 0, none⟩ (.slice (some ⟨g, 0, none⟩) ll'.length cap)).heap[c]? = W'.heap[c]? := fun c hc => Below.heap_setCell W' ⟨lb, 0, none⟩ _ c hc
    have hfar : ov.ownBlock ≠ some g := fun e => by have := (own_lt h.row g e).1; omega
    have hfar2 : ov.ownBlock ≠ some lb := fun e => by have := (own_lt h.row lb e).1; have := h.ltl; omega
    refine ⟨?_, by have := hg.size; simp; omega, h.low2, h.lows, h.lowl, h.lts, h.ltl, h.nel, ?_, ?_, ?_, ?_, ?_⟩
    · refine Below.setCell (p := ⟨lb, 0, none⟩) ?_ h.lowl _
      exact h.below.grown hg (by have := h.low2; omega) fun j e => by cases e; exact h4
    · exact (World.cell?_of_block (a := ⟨sb, 0, none⟩) ((hS sb h.nel).trans hsb)).trans h.cs
    · exact World.cell?_setCell_same' _ _ _ (by rw [c1]; rfl)
    · rw [World.frozen?_setCell]; exact f1
    · exact .inr ⟨g, cap, rfl, by omega, h2, holds_block hH (hS g h7), h4, h5, h6, h7⟩
    · exact ownsRow_setCell_other (h.row.kept hg (.inr hfar)) (by simpa using hfar2) _
/-- While left is filled. -/
structure OrdL (w1 W : World) (B sb lb p : Nat) (vl : Value) (ll : List Nat) : Prop where
  below : Below w1.heap.size w1 W
  size : B ≤ W.heap.size
  low2 : w1.heap.size ≤ B
  lows : w1.heap.size ≤ sb
  lowl : w1.heap.size ≤ lb
  lts : sb < B
  ltl : lb < B
  nel : sb ≠ lb
  cs : W.cell? ⟨sb, 0, none⟩ = some (.pointer (some ⟨p, 0, none⟩))
  cl : W.cell? ⟨lb, 0, none⟩ = some vl
  fl : W.frozen? ⟨lb, 0, none⟩ = false
  row : W.ownsRow B 3 1 vl ll.length (ll.map nv)
theorem OrdL.make (w1 : World) (p : Nat) : OrdL w1 ((w1.alloc (.cells #[.pointer (some ⟨p, 0, none⟩)] 60)).alloc (.cells #[.slice none 0 0] 25)) (w1.heap.size + 2) w1.heap.size (w1.heap.size + 1) p (.slice none 0 0) [] := by
  refine ⟨((Below.refl _ w1).alloc (Nat.le_refl _) _).alloc (by simp) _, by simp, by omega, Nat.le_refl _, by omega, by omega, by omega, by omega, ?_, ?_, ?_, World.ownsRow_nil _ _ _ _⟩
  · have h1 : (w1.alloc (.cells #[.pointer (some ⟨p, 0, none⟩)] 60)).cell? ⟨w1.heap.size, 0, none⟩ = some (.pointer (some ⟨p, 0, none⟩)) := by simp
    exact cell_below' h1 ((Below.refl _ _).alloc (Nat.le_refl _) _)
  · simp
  · simp
theorem OrdL.grown {w1 W W' : World} {B sb lb p : Nat} {vl : Value} {ll : List Nat} (h : OrdL w1 W B sb lb p vl ll) (hb : Below W.heap.size W W') : OrdL w1 W' B sb lb p vl ll := by
  have hz := h.size
  exact ⟨below_then h.below hb, Nat.le_trans hz hb.size, h.low2, h.lows, h.lowl, h.lts, h.ltl, h.nel, cell_below' h.cs hb, cell_below' h.cl hb, (hb.frozen (p := ⟨lb, 0, none⟩) (lt_of_cell h.cl)).trans h.fl, own_below h.row hb⟩
theorem OrdL.append {w1 W W1 W' : World} {B sb lb p : Nat} {vl vl' : Value} {ll ll' : List Nat} (h : OrdL w1 W B sb lb p vl ll) (hb : Below W.heap.size W W1) (hg : W1.grownBy W' vl.ownBlock) (hr : W'.ownsRow B 3 1 vl' ll'.length (ll'.map nv)) :
    W'.cell? ⟨lb, 0, none⟩ = some vl ∧ W'.frozen? ⟨lb, 0, none⟩ = false ∧ OrdL w1 (W'.setCell ⟨lb, 0, none⟩ vl') B sb lb p vl' ll' := by
  have hm := own_lt h.row
  have h1 := h.grown hb
  have hz := h1.size
  have key : ∀ c, c < B → W'.heap[c]? = W1.heap[c]? := fun c hc => hg.block c (by omega) (fun e => by have := (hm c e.symm).1; omega)
  have c1 : W'.cell? ⟨lb, 0, none⟩ = some vl := (World.cell?_of_block (a := ⟨lb, 0, none⟩) (key lb h.ltl)).trans h1.cl
  have f1 : W'.frozen? ⟨lb, 0, none⟩ = false := (World.frozen?_of_block (a := ⟨lb, 0, none⟩) (key lb h.ltl)).trans h1.fl
  refine ⟨c1, f1, ?_⟩
  have hS : ∀ c, c ≠ lb → (W'.setCell ⟨lb, 0, none⟩ vl').heap[c]? = W'.heap[c]? := fun c hc => Below.heap_setCell W' ⟨lb, 0, none⟩ _ c hc
  have hfar : vl'.ownBlock ≠ some lb := fun e => by have := (own_lt hr lb e).1; have := h.ltl; omega
  refine ⟨?_, by have := hg.size; simp; omega, h.low2, h.lows, h.lowl, h.lts, h.ltl, h.nel, ?_, ?_, ?_, ?_⟩
  · refine Below.setCell (p := ⟨lb, 0, none⟩) ?_ h.lowl _
    exact h1.below.grown hg (by have := h.low2; omega) fun j e => by have := (hm j e).1; have := h.low2; omega
  · exact (World.cell?_of_block (a := ⟨sb, 0, none⟩) ((hS sb h.nel).trans (key sb h.lts))).trans h1.cs
  · exact World.cell?_setCell_same' _ _ _ (by rw [c1]; rfl)
  · rw [World.frozen?_setCell]; exact f1
  · exact ownsRow_setCell_other hr (by simpa using hfar) _
theorem OrdL.turn {w1 W : World} {B sb lb p : Nat} {vl : Value} {ll : List Nat} (h : OrdL w1 W B sb lb p vl ll) : OrdS w1 W W.heap.size sb lb p vl ll (.slice none 0 0) [] := by
  have hz := h.size
  refine ⟨h.below, Nat.le_refl _, Nat.le_trans h.low2 hz, h.lows, h.lowl, by have := h.lts; omega, by have := h.ltl; omega, h.nel, h.cs, h.cl, h.fl, ?_, World.ownsRow_nil _ _ _ _⟩
  rcases h.row.2 with ⟨rfl, hn⟩ | ⟨g, cap, cur, rfl, hBg, hb, h1, hcm, _⟩
  · exact .inl ⟨List.length_eq_zero_iff.1 hn, _, _, rfl⟩
  · have hlt := (Array.getElem?_eq_some_iff.1 hb).1
    have hH := Holds.of_owns h.row
    exact .inr ⟨g, cap, rfl, hH.2, by unfold maxLen at hcm; omega, hH.1, by have := h.low2; omega, hlt, by have := h.lts; omega, by have := h.ltl; omega⟩
end Go.Proofs.YtmeplgihnlpjcaaGreatDoor
/- slices.Repeat of one number: the walk. -/
namespace Go.Proofs.YtmeplgihnlpjcaaGreatDoor
open Go.RowKit Go.Shelf Go.Lib

/-- A row of whole numbers that the call made. -/
def rowI (n : Nat) (f : Nat → Int) : List Value := (List.range n).map fun j => .int .i64 (f j)
theorem rowI_len (n : Nat) (f : Nat → Int) : (rowI n f).length = n := by simp [rowI]
theorem rowI_get {n : Nat} (f : Nat → Int) {j : Nat} (h : j < n) : (rowI n f)[j]? = some (.int .i64 (f j)) := by simp [rowI, h]
theorem rowI_congr {n : Nat} {f g : Nat → Int} (h : ∀ j, j < n → f j = g j) : rowI n f = rowI n g := by
  unfold rowI
  exact List.map_congr_left fun j hj => by rw [h j (List.mem_range.1 hj)]
theorem rowI_set (n : Nat) (f : Nat → Int) (k : Nat) (b : Int) : (rowI n f).set k (.int .i64 b) = rowI n (fun j => if j = k then b else f j) := by
  apply List.ext_getElem?
  intro j
  unfold rowI
  rw [List.getElem?_set]
  by_cases hj : j < n
  · by_cases e : k = j
    · subst e; simp [hj]
    · have e' : ¬ j = k := fun h => e h.symm
      simp [hj, e, e']
  · by_cases e : k = j
    · subst e; simp [hj]
    · simp [hj, e]
def OwnI (W : World) (B g n : Nat) (f : Nat → Int) : Prop := W.ownsRow B 3 1 (.slice (some ⟨g, 0, none⟩) n n) n (rowI n f)
theorem OwnI.cell {W : World} {B g n : Nat} {f : Nat → Int} (h : OwnI W B g n f) {j : Nat} (hj : j < n) : W.cell? ⟨g, j, none⟩ = some (.int .i64 (f j)) := by
  have := World.ownsRow.cellAt h j (by omega)
  rw [this, rowI_get f hj]
theorem OwnI.set {W : World} {B g n : Nat} {f f' : Nat → Int} (h : OwnI W B g n f) (k : Nat) (b : Int) (hf : ∀ j, j < n → (if j = k then b else f j) = f' j) : OwnI (W.setCell ⟨g, k, none⟩ (.int .i64 b)) B g n f' := by
  have := (World.ownsRow.stored h k (.int .i64 b)).1
  rw [rowI_set, rowI_congr hf] at this
  exact this

/-- A row of which the first m are laid with -1. -/
theorem splice_more {n m c : Nat} (hc : c = min m (n - m)) (hm : m ≤ n) : splice (rowI n fun j => if j < m then -1 else 0) m ((rowI n fun j => if j < m then -1 else 0).take c) = rowI n fun j => if j < m + c then -1 else 0 := by
  apply List.ext_getElem?
  intro j
  have hl : (rowI n fun j => if j < m then (-1 : Int) else 0).length = n := rowI_len _ _
  have htl : ((rowI n fun j => if j < m then (-1 : Int) else 0).take c).length = c := by rw [List.length_take, hl]; omega
  have htm : ((rowI n fun j => if j < m then (-1 : Int) else 0).take m).length = m := by rw [List.length_take, hl]; omega
  unfold splice
  rw [htl]
  by_cases hj : j < n
  · rw [rowI_get _ hj]
    by_cases h1 : j < m
    · rw [List.getElem?_append_left (by rw [htm]; omega), List.getElem?_take_of_lt h1, rowI_get _ hj]
      simp only [h1, if_true, show j < m + c by omega]
    · rw [List.getElem?_append_right (by rw [htm]; omega), htm]
      by_cases h2 : j < m + c
      · rw [List.getElem?_append_left (by rw [htl]; omega), List.getElem?_take_of_lt (by omega), rowI_get _ (by omega)]
        simp only [show j - m < m by omega, if_true, h2]
      · rw [List.getElem?_append_right (by rw [htl]; omega), htl, List.getElem?_drop, show m + c + (j - m - c) = j by omega, rowI_get _ hj]
        simp only [h1, h2, if_false]
  · have hr : (rowI n fun j => if j < m + c then (-1 : Int) else 0)[j]? = none := List.getElem?_eq_none (by rw [rowI_len]; omega)
    rw [hr, List.getElem?_eq_none]
    rw [List.length_append, List.length_append, htm, htl, List.length_drop, hl]
    omega
theorem splice_first {n : Nat} (hn : 1 ≤ n) : splice (rowI n fun _ => 0) 0 [.int .i64 (-1)] = rowI n fun j => if j < 1 then -1 else 0 := by
  obtain ⟨k, rfl⟩ : ∃ k, n = k + 1 := ⟨n - 1, by omega⟩
  unfold splice rowI
  rw [List.range_succ_eq_map]
  simp
theorem OwnI.of_heap {W : World} {B g n : Nat} {f : Nat → Int} (h : W.heap[g]? = some (.cells (rowI n f).toArray 3 (0, 0))) (hg : B ≤ g) (hn : n ≤ maxLen) : OwnI W B g n f :=
  ⟨by simp [rowI], .inr ⟨g, n, _, rfl, hg, h, Nat.le_refl _, hn, by simp [rowI], by rw [Nat.mul_one, List.take_of_length_le (by simp [rowI])]⟩⟩

theorem made_heap {W : World} {B g n : Nat} (h : W.ownsRow B 3 1 (.slice (some ⟨g, 0, none⟩) n n) n (madeCells (Value.int .i64 0).cells (n * 1)).toList) : W.heap[g]? = some (.cells (rowI n fun _ => 0).toArray 3 (0, 0)) := by
  have e : (madeCells (Value.int .i64 0).cells (n * 1)).toList = rowI n (fun _ => 0) := by
    rw [Nat.mul_one]
    refine (toList_madeCells_one _ _).trans ?_
    unfold rowI
    rw [List.map_const']
    simp
  rw [e] at h
  rcases h.2 with ⟨h', _⟩ | ⟨g', cap', cur, h', hb, hg, _, _, hs, ht⟩
  · cases h'
  · cases h'
    rw [hg]
    rw [List.take_of_length_le (by simp; omega)] at ht
    rw [← ht]

/-- copy into a row of the call's own, as one equation. -/
theorem copy_run {w w0 : World} (g off dLen dCap : Nat) (ad : Addr) (sLen sCap : Nat) (cur : List Value) (hg : w.heap[g]? = some (.cells cur.toArray 3 (0, 0))) (cs : List Value) (hn : cs.length = Nat.min sLen dLen)
    (hsrc : ∀ j v, cs[j]? = some v → w.cell? (ad.add j) = some v) (hfit : off + cs.length ≤ cur.length) (h1 : ∀ v ∈ cs, v.oneCell' = true) (B : Nat) (hb : Below B w0 w) (hBg : B ≤ g) :
    ∃ w', (Builtin.copy_ #[25, 25] 3 #[.slice (some ⟨g, off, none⟩) dLen dCap, .slice (some ad) sLen sCap]).run Tryz.prog w = .ok (.int .i64 (cs.length : Int)) w' ∧ w'.heap[g]? = some (.cells (splice cur off cs).toArray 3 (0, 0)) ∧ Below B w0 w' := by
  obtain ⟨iI, hI, hI0, hI1, hI2⟩ := info_parts Tryz.infoInt
  have hsz : (Tryz.prog.info? 3).map (·.size) = some 1 := by rw [hI]; simp [hI1]
  refine ⟨_, run_copy_row (P := Tryz.prog) w 25 25 3 3 g off dLen dCap ad sLen sCap cur.toArray 3 cs Tryz.underlying25 hsz hg hn hsrc (by simpa using hfit) h1, ?_, below_setRow hb hBg _⟩
  simpa [splice] using setRow_heap w g _ _ 3 _ hg

set_option maxRecDepth 100000 in
set_option maxHeartbeats 4000000 in
/-- slices.Repeat of one number, n times. -/
theorem repeatI_calls {w : World} (g0 n : Nat) (hc : w.cell? ⟨g0, 0, none⟩ = some (.int .i64 (-1))) (h1 : 1 ≤ n) (hn : n ≤ 1000) :
    Calls Tryz.prog 61 #[.slice (some ⟨g0, 0, none⟩) 1 1, .int .i64 n] w fun e w' => e = .returned (.slice (some ⟨w.heap.size, 0, none⟩) n n) ∧ OwnI w' w.heap.size w.heap.size n (fun _ => -1) ∧ Below w.heap.size w w' := by
  have HM : Hid (Calls Tryz.prog 108 #[.int .u64 1, .int .u64 n] w fun e w' => e = .returned (.tuple #[.int .u64 0, .int .u64 n]) ∧ w' = w) := hid1 (by
    have := Tryz.bits_Mul 1 n (by omega) (by omega) w
    rw [Nat.one_mul, Nat.div_eq_of_lt (by omega), Nat.mod_eq_of_lt (by omega)] at this
    exact this)
  obtain ⟨iI, hI, hI0, hI1, hI2⟩ := info_parts Tryz.infoInt
  have hml : n ≤ maxLen := by unfold maxLen; omega
  have hbT : iI.bytes * n ≤ 281474976710656 := by rw [hI2]; omega
  have zn : (n : Int) ≤ 1000 := by omega
  have z1 : (1 : Int) ≤ (n : Int) := by omega
  have z0 : (0 : Int) ≤ (n : Int) := by omega
  go_enter Tryz.func61, Tryz.ntmps61
  go_wp2_with fail
  refine HM.out.mono ?_
  rintro e w1 ⟨rfl, rfl⟩
  clear HM
  have HSp := hid1 (splice_first h1)
  go_wp2_with (first
    | (at_make; refine wpList_make_full _ rfl _ _ 25 rfl w1.heap.size 3 iI (.int .i64 0) 1 Tryz.underlying25 hI hI0 hI1 .i64 .i64 _ _ n rfl rfl (by omega) (by omega) hbT hml (Nat.le_refl _) ?_; intro w2 hown hgrow; (have hh2 := made_heap hown); (have hb2 : Below w1.heap.size w1 w2 := below_grown (Below.refl _ w1) (Nat.le_refl _) hgrow); (have hc2 := cell_below' hc hb2); clear hown hgrow; (obtain ⟨w3, hcp, hg3, hb3⟩ := copy_run w1.heap.size 0 n n ⟨g0, 0, none⟩ 1 1 (rowI n fun _ => 0) hh2 [.int .i64 (-1)] (by simp [Nat.min_def]; omega) (fun j v hv => by cases j with | zero => cases hv; exact hc2 | succ j => simp at hv) (by simp [rowI_len]; omega) (by simp [Value.oneCell']) w1.heap.size hb2 (Nat.le_refl _)); (rw [HSp.out] at hg3); (have HG3 := hid1 hg3); clear hg3 hh2; (simp only [List.length_singleton] at hcp))
    | go_in)
  go_loopw [8] (fun mv wr => ∃ m : Nat, 1 ≤ m ∧ m ≤ n ∧ mv = .int .i64 m ∧ wr.heap[w1.heap.size]? = some (.cells (rowI n fun j => if j < m then -1 else 0).toArray 3 (0, 0)) ∧ Below w1.heap.size w1 wr) (fun mv _ => n - (intOf mv).toNat)
  case atStart => exact ⟨1, Nat.le_refl _, h1, rfl, HG3.out, hb3⟩
  case round =>
    clear HSp HG3 hb3 hb2 hc2 hcp
    obtain ⟨m, hm1, hmn, rfl, hgm, hbm⟩ := hrel
    have HG := hid1 hgm
    clear hgm
    have m0 : (0 : Int) ≤ (m : Int) := by omega
    by_cases hlt : m < n
    · have m1 : (m : Int) < (n : Int) := by omega
      have m2 : (m : Int) ≤ (n : Int) := by omega
      have m3 : ¬ n = m := by omega
      obtain ⟨c, hc⟩ : ∃ c, c = min m (n - m) := ⟨_, rfl⟩
      have HS := hid1 (splice_more hc hmn)
      have hcm : c ≤ m := by omega
      have hc1 : 1 ≤ c := by omega
      have hcn : m + c ≤ n := by omega
      have q1 : IntKind.i64.wrap ((m : Int) + (c : Int)) = (m : Int) + (c : Int) := by rw [IntKind.wrap_i64]; omega
      have HX : Hid (∀ j v, ((rowI n fun j => if j < m then (-1 : Int) else 0).take c)[j]? = some v → wr.drew.cell? ((⟨w1.heap.size, 0, none⟩ : Addr).add j) = some v) := hid1 fun j v hv => by
        have hj : j < c := by
          have := (List.getElem?_eq_some_iff.1 hv).1
          rw [List.length_take] at this
          omega
        rw [List.getElem?_take_of_lt hj] at hv
        rw [Addr.add_lit, Nat.zero_add]
        exact cell_of_row (w := wr.drew) HG.out (by simpa using hv)
      have HL : Hid (((rowI n fun j => if j < m then (-1 : Int) else 0).take c).length = c) := hid1 (by rw [List.length_take, rowI_len]; omega)
      have HO : Hid (∀ v ∈ (rowI n fun j => if j < m then (-1 : Int) else 0).take c, v.oneCell' = true) := hid1 fun v hv => by
        obtain ⟨j, _, rfl⟩ := List.mem_map.1 (List.mem_of_mem_take hv)
        rfl
      generalize hX : (rowI n fun j => if j < m then (-1 : Int) else 0).take c = X at *
      clear hX
      obtain ⟨w4, hcp, hg4, hb4⟩ := copy_run (w := wr.drew) w1.heap.size m (n - m) (n - m) ⟨w1.heap.size, 0, none⟩ m n (rowI n fun j => if j < m then -1 else 0) HG.out X (by rw [HL.out, hc]) HX.out (by rw [HL.out, rowI_len]; omega) HO.out w1.heap.size hbm.drew (Nat.le_refl _)
      rw [HS.out] at hg4
      rw [HL.out] at hcp
      have HG4 := hid1 hg4
      clear hg4 HX HL HO HS HG
      go_wp2
      go_region
      go_wp2
      exact ⟨⟨m + c, by omega, by omega, by go_num, HG4.out, hb4⟩, by simp [intOf]; omega⟩
    · have m1 : (n : Int) ≤ (m : Int) := by omega
      obtain rfl : m = n := by omega
      have HQ : Hid (OwnI wr w1.heap.size w1.heap.size m (fun _ => -1)) := hid1 (by
        have e : rowI m (fun j => if j < m then (-1 : Int) else 0) = rowI m (fun _ => -1) := rowI_congr fun j hj => by rw [if_pos hj]
        have := HG.out
        rw [e] at this
        exact OwnI.of_heap this (Nat.le_refl _) hml)
      clear HG
      go_wp2
      go_ret
      exact ⟨rfl, HQ.out, hbm⟩
end Go.Proofs.YtmeplgihnlpjcaaGreatDoor
