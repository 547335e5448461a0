import Derived.Test.YtmhipgompplkdaaGreatDoorWL25
import Derived.Test.YtmhipgompplkdaaGreatDoorWL23
import Derived.Test.YtmhipgompplkdaaGreatDoorWL26
import Derived.Sort.OwnSorted
namespace Go.Proofs.YtmhipgompplkdaaGreatDoor
open Go.RowKit Go.Shelf Go.Lib
open Go.Sort (Holds putRow grow)
abbrev encI : Int → Value := Value.int .i64
abbrev ints (l : List Nat) : List Int := l.map fun (x : Nat) => (x : Int)
theorem ints_get {l : List Nat} {j : Nat} (h : j < l.length) : (ints l).toArray[j]! = (l[j] : Int) := by simp [h]
theorem put_grown {w : World} {g n : Nat} (d : Array Int) : w.grownBy (putRow encI (Sort.ahead w n) g 0 d) (some g) := by
  refine ⟨rfl, rfl, rfl, by simp, fun k hk hne => ?_⟩
  have : g ≠ k := fun e => hne (by rw [e])
  simp [putRow, Go.Sort.mapBlock, Sort.ahead, Array.getElem?_modify, this]
theorem grow_grown {w : World} {g n : Nat} {os : Array Obj} (d : Array Int) : w.grownBy (grow (putRow encI (Sort.ahead w n) g 0 d) os) (some g) := by
  refine ⟨rfl, rfl, rfl, by simp, fun k hk hne => ?_⟩
  rw [Go.Sort.heap_grow_old _ _ (by simpa using hk)]
  have : g ≠ k := fun e => hne (by rw [e])
  simp [putRow, Go.Sort.mapBlock, Sort.ahead, Array.getElem?_modify, this]
theorem Holds.ni {w : World} {g cap : Nat} {l : List Nat} (h : Holds encI w g 0 (ints l).toArray) (hg : g < w.heap.size) : NIRow w (.slice (some ⟨g, 0, none⟩) l.length cap) l := by
  refine ⟨_, cap, rfl, fun _ => ⟨g, 0, rfl, hg, fun j hj => ?_⟩⟩
  have := (h j (by simpa using hj)).1
  rw [this, ints_get hj]
theorem Holds.of_owns {w : World} {B g cap : Nat} {l : List Nat} (h : w.ownsRow B 3 1 (.slice (some ⟨g, 0, none⟩) l.length cap) l.length (l.map nv)) : Holds encI w g 0 (ints l).toArray ∧ l.length ≤ cap := by
  rcases h.2 with ⟨h', _⟩ | ⟨g', cap', cur, h', hBg, hb, h1, _, _, h4⟩
  · cases h'
  · cases h'
    refine ⟨fun j hj => ?_, h1⟩
    have hj' : j < l.length := by simpa using hj
    have := congrArg (fun x => x[j]?) h4
    simp only [Nat.mul_one, List.getElem?_take, hj', if_true, List.getElem?_map, List.getElem?_eq_getElem hj', Option.map_some, Array.getElem?_toList] at this
    refine ⟨?_, by simp [World.frozen?, hb]⟩
    rw [Nat.zero_add, cell_of_row hb this, ints_get hj']
theorem own_slice {W : World} {B : Nat} {e : TypeId} {s n : Nat} {v : Value} {xs : List Value} (h : W.ownsRow B e s v n xs) : ∃ p c, v = .slice p n c := by
  rcases h.2 with ⟨rfl, rfl⟩ | ⟨g, cap, cur, rfl, _⟩
  · exact ⟨_, _, rfl⟩
  · exact ⟨_, _, rfl⟩
theorem deleteI_calls {w : World} (g cap : Nat) (l : List Nat) (k : Nat) (hk : k < l.length) (hH : Holds encI w g 0 (ints l).toArray) (hcap : l.length ≤ cap) (hm : cap ≤ 9223372036854775807) :
    Calls Tryz.prog 160 #[.slice (some ⟨g, 0, none⟩) l.length cap, .int .i64 k, .int .i64 ((k : Int) + 1)] w fun e w' => e = .returned (.slice (some ⟨g, 0, none⟩) (l.take k ++ l.drop (k + 1)).length cap) ∧ Holds encI w' g 0 (ints (l.take k ++ l.drop (k + 1))).toArray ∧ w.grownBy w' (some g) := by
  have h := Tryz.slices_Delete_int g 0 cap k (k + 1) (ints l) w hH (by simpa using hcap) (by omega) (by omega) (by simp; omega)
  have e1 : (ints l).length = l.length := by simp
  rw [e1] at h
  refine h.mono ?_
  rintro e w' ⟨rfl, q, rfl⟩
  have hl : (l.take k ++ l.drop (k + 1)).length = l.length - 1 := by simp; omega
  refine ⟨by rw [hl]; congr 2; omega, ?_, put_grown _⟩
  have hp := Go.Sort.holds_putRow encI (Sort.ahead w q) g 0 (ints l).toArray ((ints l).take k ++ (ints l).drop (k + 1) ++ List.replicate (k + 1 - k) 0).toArray hH (by simp; omega)
  intro j hj
  have hj' : j < (l.take k ++ l.drop (k + 1)).length := by simpa using hj
  obtain ⟨p1, p2⟩ := hp j (by simp; omega)
  refine ⟨?_, p2⟩
  rw [p1]
  congr 1
  have ea : (ints l).take k ++ (ints l).drop (k + 1) = ints (l.take k ++ l.drop (k + 1)) := by simp [ints, List.map_take, List.map_drop]
  rw [ea]
  have hj2 : j < (ints (l.take k ++ l.drop (k + 1))).length := by simpa using hj'
  simp only [List.getElem!_toArray, List.getElem!_eq_getElem?_getD]
  rw [List.getElem?_append_left hj2]
structure OrdS (w1 W : World) (B2 sb lb p : Nat) (vl : Value) (ll : List Nat) (ov : Value) (o : List Nat) : Prop where
  below : Below w1.heap.size w1 W
  size : B2 ≤ W.heap.size
  low2 : w1.heap.size ≤ B2
  lows : w1.heap.size ≤ sb
  lowl : w1.heap.size ≤ lb
  lts : sb < B2
  ltl : lb < B2
  nel : sb ≠ lb
  cs : W.cell? ⟨sb, 0, none⟩ = some (.pointer (some ⟨p, 0, none⟩))
  cl : W.cell? ⟨lb, 0, none⟩ = some vl
  fl : W.frozen? ⟨lb, 0, none⟩ = false
  left : (ll = [] ∧ ∃ a c, vl = .slice a 0 c) ∨ ∃ g cap, vl = .slice (some ⟨g, 0, none⟩) ll.length cap ∧ ll.length ≤ cap ∧ cap ≤ 9223372036854775807 ∧ Holds encI W g 0 (ints ll).toArray ∧ w1.heap.size ≤ g ∧ g < B2 ∧ g ≠ sb ∧ g ≠ lb
  row : W.ownsRow B2 3 1 ov o.length (o.map nv)
theorem holds_block {w w' : World} {g : Nat} {d : Array Int} (h : Holds encI w g 0 d) (e : w'.heap[g]? = w.heap[g]?) : Holds encI w' g 0 d := fun j hj => ⟨(World.cell?_of_block (a := ⟨g, 0 + j, none⟩) e).trans (h j hj).1, (World.frozen?_of_block (a := ⟨g, 0 + j, none⟩) e).trans (h j hj).2⟩
theorem OrdS.move {w1 W W' : World} {B2 sb lb p : Nat} {vl : Value} {ll : List Nat} {ov ov' : Value} {o o' : List Nat} (h : OrdS w1 W B2 sb lb p vl ll ov o) (hb : ∀ c, c < B2 → W'.heap[c]? = W.heap[c]?) (hB : Below w1.heap.size w1 W') (hz : B2 ≤ W'.heap.size) (hr : W'.ownsRow B2 3 1 ov' o'.length (o'.map nv)) : OrdS w1 W' B2 sb lb p vl ll ov' o' := by
  refine ⟨hB, hz, h.low2, h.lows, h.lowl, h.lts, h.ltl, h.nel, (World.cell?_of_block (a := ⟨sb, 0, none⟩) (hb sb h.lts)).trans h.cs, (World.cell?_of_block (a := ⟨lb, 0, none⟩) (hb lb h.ltl)).trans h.cl, (World.frozen?_of_block (a := ⟨lb, 0, none⟩) (hb lb h.ltl)).trans h.fl, ?_, hr⟩
  rcases h.left with h1 | ⟨g, cap, e, h1, h2, h3, h4, h5, h6⟩
  · exact .inl h1
  · exact .inr ⟨g, cap, e, h1, h2, holds_block h3 (hb g h5), h4, h5, h6⟩
theorem own_below {W W' : World} {B : Nat} {e : TypeId} {s n : Nat} {v : Value} {xs : List Value} (h : W.ownsRow B e s v n xs) (hb : Below W.heap.size W W') : W'.ownsRow B e s v n xs := by
  refine ⟨h.1, ?_⟩
  rcases h.2 with h1 | ⟨g, cap, cur, h1, h2, h3, h4⟩
  · exact .inl h1
  · exact .inr ⟨g, cap, cur, h1, h2, (hb.block g (Array.getElem?_eq_some_iff.1 h3).1).trans h3, h4⟩
theorem OrdS.grown {w1 W W' : World} {B2 sb lb p : Nat} {vl : Value} {ll : List Nat} {ov : Value} {o : List Nat} (h : OrdS w1 W B2 sb lb p vl ll ov o) (hb : Below W.heap.size W W') : OrdS w1 W' B2 sb lb p vl ll ov o :=
  h.move (fun c hc => hb.block c (Nat.lt_of_lt_of_le hc h.size)) (below_then h.below hb) (Nat.le_trans h.size hb.size) (own_below h.row hb)
theorem OrdS.append {w1 W W1 W' : World} {B2 sb lb p : Nat} {vl : Value} {ll : List Nat} {ov ov' : Value} {o o' : List Nat} (h : OrdS w1 W B2 sb lb p vl ll ov o) (hb : Below W.heap.size W W1) (hg : W1.grownBy W' ov.ownBlock) (hr : W'.ownsRow B2 3 1 ov' o'.length (o'.map nv)) : OrdS w1 W' B2 sb lb p vl ll ov' o' := by
  have hm := own_lt h.row
  have h1 := h.grown hb
  have hz := h.size
  have hz1 := hb.size
  refine h1.move (fun c hc => hg.block c (by omega) (fun e => by have := (hm c e.symm).1; omega)) ?_ (by have := hg.size; omega) hr
  exact h1.below.grown hg (by have := h.low2; omega) fun j e => by have := (hm j e).1; have := h.low2; omega
theorem OrdS.gone {w1 W W' : World} {B2 sb lb p g cap : Nat} {ll ll' : List Nat} {ov : Value} {o : List Nat} (h : OrdS w1 W B2 sb lb p (.slice (some ⟨g, 0, none⟩) ll.length cap) ll ov o) (hne : ll ≠ []) (hg : W.grownBy W' (some g)) (hH : Holds encI W' g 0 (ints ll').toArray) (hl : ll'.length ≤ ll.length) :
    W'.cell? ⟨lb, 0, none⟩ = some (.slice (some ⟨g, 0, none⟩) ll.length cap) ∧ W'.frozen? ⟨lb, 0, none⟩ = false ∧ OrdS w1 (W'.setCell ⟨lb, 0, none⟩ (.slice (some ⟨g, 0, none⟩) ll'.length cap)) B2 sb lb p (.slice (some ⟨g, 0, none⟩) ll'.length cap) ll' ov o := by
  rcases h.left with ⟨h1, _⟩ | ⟨g', cap', e, h1, h2, h3, h4, h5, h6, h7⟩
  · exact absurd h1 hne
  · obtain ⟨rfl, rfl⟩ : g = g' ∧ cap = cap' := by
      simp only [Value.slice.injEq, Option.some.injEq, Addr.mk.injEq] at e
      exact ⟨e.1.1, e.2.2⟩
    have hz := h.size
    have hlb := hg.block lb (by have := h.ltl; omega) (fun e => h7 (Option.some.inj e).symm)
    have hsb := hg.block sb (by have := h.lts; omega) (fun e => h6 (Option.some.inj e).symm)
    have c1 : W'.cell? ⟨lb, 0, none⟩ = some (.slice (some ⟨g, 0, none⟩) ll.length cap) := (World.cell?_of_block (a := ⟨lb, 0, none⟩) hlb).trans h.cl
    have f1 : W'.frozen? ⟨lb, 0, none⟩ = false := (World.frozen?_of_block (a := ⟨lb, 0, none⟩) hlb).trans h.fl
    refine ⟨c1, f1, ?_⟩
    have hS : ∀ c, c ≠ lb → (W'.setCell ⟨lb, 0, none⟩ (.slice (some ⟨g, 0, none⟩) ll'.length cap)).heap[c]? = W'.heap[c]? := fun c hc => Below.heap_setCell W' ⟨lb, 0, none⟩ _ c hc
    have hfar : ov.ownBlock ≠ some g := fun e => by have := (own_lt h.row g e).1; omega
    have hfar2 : ov.ownBlock ≠ some lb := fun e => by have := (own_lt h.row lb e).1; have := h.ltl; omega
    refine ⟨?_, by have := hg.size; simp; omega, h.low2, h.lows, h.lowl, h.lts, h.ltl, h.nel, ?_, ?_, ?_, ?_, ?_⟩
    · refine Below.setCell (p := ⟨lb, 0, none⟩) ?_ h.lowl _
      exact h.below.grown hg (by have := h.low2; omega) fun j e => by cases e; exact h4
    · exact (World.cell?_of_block (a := ⟨sb, 0, none⟩) ((hS sb h.nel).trans hsb)).trans h.cs
    · exact World.cell?_setCell_same' _ _ _ (by rw [c1]; rfl)
    · rw [World.frozen?_setCell]; exact f1
    · exact .inr ⟨g, cap, rfl, by omega, h2, holds_block hH (hS g h7), h4, h5, h6, h7⟩
    · exact ownsRow_setCell_other (h.row.kept hg (.inr hfar)) (by simpa using hfar2) _
structure OrdL (w1 W : World) (B sb lb p : Nat) (vl : Value) (ll : List Nat) : Prop where
  below : Below w1.heap.size w1 W
  size : B ≤ W.heap.size
  low2 : w1.heap.size ≤ B
  lows : w1.heap.size ≤ sb
  lowl : w1.heap.size ≤ lb
  lts : sb < B
  ltl : lb < B
  nel : sb ≠ lb
  cs : W.cell? ⟨sb, 0, none⟩ = some (.pointer (some ⟨p, 0, none⟩))
  cl : W.cell? ⟨lb, 0, none⟩ = some vl
  fl : W.frozen? ⟨lb, 0, none⟩ = false
  row : W.ownsRow B 3 1 vl ll.length (ll.map nv)
theorem OrdL.make (w1 : World) (p : Nat) : OrdL w1 ((w1.alloc (.cells #[.pointer (some ⟨p, 0, none⟩)] 170)).alloc (.cells #[.slice none 0 0] 68)) (w1.heap.size + 2) w1.heap.size (w1.heap.size + 1) p (.slice none 0 0) [] := by
  refine ⟨((Below.refl _ w1).alloc (Nat.le_refl _) _).alloc (by simp) _, by simp, by omega, Nat.le_refl _, by omega, by omega, by omega, by omega, ?_, ?_, ?_, World.ownsRow_nil _ _ _ _⟩
  · have h1 : (w1.alloc (.cells #[.pointer (some ⟨p, 0, none⟩)] 170)).cell? ⟨w1.heap.size, 0, none⟩ = some (.pointer (some ⟨p, 0, none⟩)) := by simp
    exact cell_below' h1 ((Below.refl _ _).alloc (Nat.le_refl _) _)
  · simp
  · simp
theorem OrdL.grown {w1 W W' : World} {B sb lb p : Nat} {vl : Value} {ll : List Nat} (h : OrdL w1 W B sb lb p vl ll) (hb : Below W.heap.size W W') : OrdL w1 W' B sb lb p vl ll := by
  have hz := h.size
  exact ⟨below_then h.below hb, Nat.le_trans hz hb.size, h.low2, h.lows, h.lowl, h.lts, h.ltl, h.nel, cell_below' h.cs hb, cell_below' h.cl hb, (hb.frozen (p := ⟨lb, 0, none⟩) (lt_of_cell h.cl)).trans h.fl, own_below h.row hb⟩
theorem OrdL.append {w1 W W1 W' : World} {B sb lb p : Nat} {vl vl' : Value} {ll ll' : List Nat} (h : OrdL w1 W B sb lb p vl ll) (hb : Below W.heap.size W W1) (hg : W1.grownBy W' vl.ownBlock) (hr : W'.ownsRow B 3 1 vl' ll'.length (ll'.map nv)) :
    W'.cell? ⟨lb, 0, none⟩ = some vl ∧ W'.frozen? ⟨lb, 0, none⟩ = false ∧ OrdL w1 (W'.setCell ⟨lb, 0, none⟩ vl') B sb lb p vl' ll' := by
  have hm := own_lt h.row
  have h1 := h.grown hb
  have hz := h1.size
  have key : ∀ c, c < B → W'.heap[c]? = W1.heap[c]? := fun c hc => hg.block c (by omega) (fun e => by have := (hm c e.symm).1; omega)
  have c1 : W'.cell? ⟨lb, 0, none⟩ = some vl := (World.cell?_of_block (a := ⟨lb, 0, none⟩) (key lb h.ltl)).trans h1.cl
  have f1 : W'.frozen? ⟨lb, 0, none⟩ = false := (World.frozen?_of_block (a := ⟨lb, 0, none⟩) (key lb h.ltl)).trans h1.fl
  refine ⟨c1, f1, ?_⟩
  have hS : ∀ c, c ≠ lb → (W'.setCell ⟨lb, 0, none⟩ vl').heap[c]? = W'.heap[c]? := fun c hc => Below.heap_setCell W' ⟨lb, 0, none⟩ _ c hc
  have hfar : vl'.ownBlock ≠ some lb := fun e => by have := (own_lt hr lb e).1; have := h.ltl; omega
  refine ⟨?_, by have := hg.size; simp; omega, h.low2, h.lows, h.lowl, h.lts, h.ltl, h.nel, ?_, ?_, ?_, ?_⟩
  · refine Below.setCell (p := ⟨lb, 0, none⟩) ?_ h.lowl _
    exact h1.below.grown hg (by have := h.low2; omega) fun j e => by have := (hm j e).1; have := h.low2; omega
  · exact (World.cell?_of_block (a := ⟨sb, 0, none⟩) ((hS sb h.nel).trans (key sb h.lts))).trans h1.cs
  · exact World.cell?_setCell_same' _ _ _ (by rw [c1]; rfl)
  · rw [World.frozen?_setCell]; exact f1
  · exact ownsRow_setCell_other hr (by simpa using hfar) _
theorem OrdL.turn {w1 W : World} {B sb lb p : Nat} {vl : Value} {ll : List Nat} (h : OrdL w1 W B sb lb p vl ll) : OrdS w1 W W.heap.size sb lb p vl ll (.slice none 0 0) [] := by
  have hz := h.size
  refine ⟨h.below, Nat.le_refl _, Nat.le_trans h.low2 hz, h.lows, h.lowl, by have := h.lts; omega, by have := h.ltl; omega, h.nel, h.cs, h.cl, h.fl, ?_, World.ownsRow_nil _ _ _ _⟩
  rcases h.row.2 with ⟨rfl, hn⟩ | ⟨g, cap, cur, rfl, hBg, hb, h1, hcm, _⟩
  · exact .inl ⟨List.length_eq_zero_iff.1 hn, _, _, rfl⟩
  · have hlt := (Array.getElem?_eq_some_iff.1 hb).1
    have hH := Holds.of_owns h.row
    exact .inr ⟨g, cap, rfl, hH.2, by unfold maxLen at hcm; omega, hH.1, by have := h.low2; omega, hlt, by have := h.lts; omega, by have := h.ltl; omega⟩
end Go.Proofs.YtmhipgompplkdaaGreatDoor
