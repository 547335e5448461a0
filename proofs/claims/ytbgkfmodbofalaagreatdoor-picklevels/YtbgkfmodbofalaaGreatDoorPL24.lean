import Derived.Test.YtbgkfmodbofalaaGreatDoorPL21
import Derived.Test.YtbgkfmodbofalaaGreatDoorPL23
import Derived.Test.YtbgkfmodbofalaaGreatDoorPL14
import Derived.Test.YtbgkfmodbofalaaGreatDoorPL19
import Derived.Test.YtbgkfmodbofalaaGreatDoorPL10
namespace Go.Proofs.YtbgkfmodbofalaaGreatDoor
open Go.RowKit Go.Shelf Go.Lib
namespace Ru
def Apart (l : List Ru) : Prop := ∀ i j (hi : i < l.length) (hj : j < l.length), l[i].out = l[j].out → i = j
theorem fault_ok {l : List Ru} (h : (fault l).1 = 0) : l.length ≤ 40 ∧ Apart l := by
  have h40 : l.length ≤ 40 := by
    refine Nat.le_of_not_lt fun hlt => ?_
    rw [fault_many hlt] at h
    cases h
  have hz : ∀ j, j < l.length → errAt l j = 0 := by
    unfold fault at h
    rw [if_neg (by omega)] at h
    split at h
    · rename_i k hk
      exact absurd h (first_some_ne hk)
    · rename_i hk
      exact fun j hj => first_none_zero hk j hj
  refine ⟨h40, ?_⟩
  have key : ∀ i j (hi : i < l.length) (hj : j < l.length), i < j → l[i].out ≠ l[j].out := by
    intro i j hi hj hij he
    have h1 := hz j hj
    rw [errAt_eq hj] at h1
    split at h1
    · rename_i h2
      exact h2 h1
    · split at h1
      · cases h1
      · rename_i h3
        refine h3 (List.mem_map.2 ⟨l[i], ?_, he⟩)
        exact List.mem_take_iff_getElem.2 ⟨i, by omega, rfl⟩
  intro i j hi hj he
  rcases Nat.lt_trichotomy i j with h1 | h1 | h1
  · exact absurd he (key i j hi hj h1)
  · exact h1
  · exact absurd he.symm (key j i hj hi h1)
def mkr (l : List Ru) (x : List UInt8) : Option Nat := l.findIdx? fun r => r.out == x
theorem mkr_none {l : List Ru} {x : List UInt8} (h : mkr l x = none) : ∀ r ∈ l, r.out ≠ x := by
  unfold mkr at h
  rw [List.findIdx?_eq_none_iff] at h
  intro r hr
  simpa using h r hr
theorem mkr_some {l : List Ru} {x : List UInt8} {k : Nat} (h : mkr l x = some k) : ∃ hk : k < l.length, l[k].out = x ∧ ∀ j (hj : j < k), l[j].out ≠ x := by
  unfold mkr at h
  rw [List.findIdx?_eq_some_iff_getElem] at h
  obtain ⟨hk, h1, h2⟩ := h
  exact ⟨hk, by simpa using h1, fun j hj => by simpa using h2 j hj⟩
theorem mkr_eq {l : List Ru} (hA : Apart l) {k : Nat} (hk : k < l.length) : mkr l l[k].out = some k := by
  cases h : mkr l l[k].out with
  | none => exact absurd rfl (mkr_none h l[k] (List.getElem_mem hk))
  | some j =>
    obtain ⟨hj, h1, _⟩ := mkr_some h
    rw [hA j k hj hk h1]
def needL (l : List Ru) (ins : List (List UInt8)) : List Nat := ins.filterMap (mkr l)
theorem needL_mem {l : List Ru} (hA : Apart l) {i : Nat} (hi : i < l.length) (k : Nat) : k ∈ needL l l[i].ins ↔ needs l i k = true := by
  unfold needL
  rw [List.mem_filterMap]
  constructor
  · rintro ⟨x, hx, hk⟩
    obtain ⟨hkl, h1, _⟩ := mkr_some hk
    rw [needs_eq hi hkl]
    simpa [h1] using hx
  · intro h
    have hkl := (needs_lt h).2
    rw [needs_eq hi hkl] at h
    exact ⟨l[k].out, by simpa using h, mkr_eq hA hkl⟩
theorem needL_len (l : List Ru) (ins : List (List UInt8)) : (needL l ins).length ≤ ins.length := List.length_filterMap_le _ _
theorem needL_succ (l : List Ru) {ins : List (List UInt8)} {m : Nat} (hm : m < ins.length) : needL l (ins.take (m + 1)) = needL l (ins.take m) ++ (mkr l ins[m]).toList := by
  unfold needL
  rw [List.take_succ_eq_append_getElem hm, List.filterMap_append]
  cases h : mkr l ins[m] <;> simp [h]
end Ru
def mkF : Nat → List Ru → List MapEntry
  | _, [] => []
  | k, r :: t => { key := .string (ba r.out), val := nv k, born := k } :: mkF (k + 1) t
theorem mkF_snoc (r : Ru) : ∀ (k : Nat) (l : List Ru), mkF k (l ++ [r]) = mkF k l ++ [({ key := .string (ba r.out), val := nv (k + l.length), born := k + l.length } : MapEntry)]
  | k, [] => by simp [mkF]
  | k, x :: t => by
    have := mkF_snoc r (k + 1) t
    simp only [List.cons_append, mkF, this, List.length_cons]
    rw [show k + 1 + t.length = k + (t.length + 1) by omega]
theorem sameNow_ba (a b : List UInt8) : Instr.sameNow .string (.string (ba a)) (.string (ba b)) = some (decide (a = b)) := by
  show some (ba a == ba b) = _
  congr 1
  rw [Bool.eq_iff_iff, MapKept.bytes_beq, decide_eq_true_eq]
  exact ⟨ba_inj, fun e => by rw [e]⟩
theorem mkF_none {s : List UInt8} : ∀ {l : List Ru} {k j : Nat}, (∀ x ∈ l, x.out ≠ s) → Instr.findNow .string (.string (ba s)) (mkF k l) j = some none
  | [], _, _, _ => rfl
  | x :: t, k, j, h => by
    have hx : ¬ s = x.out := fun e => h x (by simp) e.symm
    simp only [mkF, Instr.findNow, sameNow_ba, hx, decide_false]
    exact mkF_none fun y hy => h y (List.mem_cons_of_mem _ hy)
theorem mkF_some {s : List UInt8} : ∀ {l : List Ru} {k j i : Nat} (hi : i < l.length), l[i].out = s → (∀ m (hm : m < i), l[m].out ≠ s) → Instr.findNow .string (.string (ba s)) (mkF k l) j = some (some (j + i, nv (k + i)))
  | [], _, _, _, hi, _, _ => by simp at hi
  | x :: t, k, j, 0, _, he, _ => by
    have hx : s = x.out := by simpa using he.symm
    simp only [mkF, Instr.findNow, sameNow_ba, hx, decide_true]
    rfl
  | x :: t, k, j, i + 1, hi, he, hm => by
    have hx : ¬ s = x.out := fun e => hm 0 (by omega) e.symm
    simp only [mkF, Instr.findNow, sameNow_ba, hx, decide_false]
    have := mkF_some (s := s) (l := t) (k := k + 1) (j := j + 1) (i := i) (by simpa using hi) (by simpa using he) fun m hml => by
      have := hm (m + 1) (by omega)
      simpa using this
    rw [this]
    rw [show j + 1 + i = j + (i + 1) by omega, show k + 1 + i = k + (i + 1) by omega]
theorem look_mk {W : World} {bm c : Nat} {l : List Ru} (h : W.heap[bm]? = some (.map (mkF 0 l).toArray c)) (s : List UInt8) :
    (Instr.lookup 183 (.map (some bm)) (.string (ba s)) true).run Tryz.prog W = .ok (.tuple #[nv ((Ru.mkr l s).getD 0), .bool (Ru.mkr l s).isSome]) W := by
  cases hm : Ru.mkr l s with
  | none => exact run_look_none 183 9 3 bm c _ (ba s) Tryz.underlying183 Tryz.underlying9 h (.int .i64 0) (Tryz.zeroValue3 W) (mkF_none (Ru.mkr_none hm))
  | some k =>
    obtain ⟨hk, h1, h2⟩ := Ru.mkr_some hm
    have := mkF_some (s := s) (k := 0) (j := 0) hk h1 h2
    rw [Nat.zero_add] at this
    exact run_look 183 9 3 bm c _ (ba s) Tryz.underlying183 Tryz.underlying9 h k (nv k) this
structure ShAt (W : World) (l : List Ru) (p bm G : Nat) (vals : Nat → Value) : Prop where
  c0 : W.cell? ⟨p, 0, none⟩ = some (.map (some bm))
  c1 : W.cell? ⟨p, 1, none⟩ = some (.slice (some ⟨G, 0, none⟩) l.length l.length)
  map : W.heap[bm]? = some (.map (mkF 0 l).toArray l.length)
  row : ∀ i (hi : i < l.length), W.cell? ⟨G, i, none⟩ = some (vals i) ∧ NIRow W (vals i) (Ru.needL l l[i].ins)
theorem ShAt.below {W W' : World} {l : List Ru} {p bm G : Nat} {vals : Nat → Value} (h : ShAt W l p bm G vals) (hb : Below W.heap.size W W') : ShAt W' l p bm G vals :=
  ⟨cell_below' h.c0 hb, cell_below' h.c1 hb, (hb.block bm (Array.getElem?_eq_some_iff.1 h.map).1).trans h.map, fun i hi => ⟨cell_below' (h.row i hi).1 hb, (h.row i hi).2.below hb⟩⟩
def setB (W : World) (b : Nat) (o : Obj) : World := { W with heap := W.heap.setIfInBounds b o }
theorem setB_other (W : World) (b : Nat) (o : Obj) {c : Nat} (h : c ≠ b) : (setB W b o).heap[c]? = W.heap[c]? := by
  unfold setB
  exact Array.getElem?_setIfInBounds_ne (fun e => h e.symm)
theorem setB_same (W : World) (b : Nat) (o : Obj) (h : b < W.heap.size) : (setB W b o).heap[b]? = some o := by
  unfold setB
  simp [h]
theorem setB_size (W : World) (b : Nat) (o : Obj) : (setB W b o).heap.size = W.heap.size := by unfold setB; simp
theorem setB_grown (W : World) (b : Nat) (o : Obj) : W.grownBy (setB W b o) (some b) :=
  ⟨rfl, rfl, rfl, by rw [setB_size]; exact Nat.le_refl _, fun k _ hk => setB_other W b o fun e => hk (by rw [e])⟩
theorem setB_below {B : Nat} {w W : World} (h : Below B w W) (b : Nat) (o : Obj) (hb : B ≤ b) : Below B w (setB W b o) :=
  ⟨h.os, h.tape, h.output, by rw [setB_size]; exact h.size, fun k hk => (setB_other W b o (by omega)).trans (h.block k hk)⟩
def topV (n : Nat) (vals : Nat → Value) : List Value := (List.range n).map vals
theorem topV_get {n : Nat} (vals : Nat → Value) {j : Nat} (h : j < n) : (topV n vals)[j]? = some (vals j) := by simp [topV, h]
theorem topV_set (n : Nat) (vals : Nat → Value) (k : Nat) (v : Value) : (topV n vals).set k v = topV n (fun j => if j = k then v else vals j) := by
  apply List.ext_getElem?
  intro j
  unfold topV
  rw [List.getElem?_set]
  by_cases hj : j < n
  · by_cases e : k = j
    · subst e; simp [hj]
    · have e' : ¬ j = k := fun h => e h.symm
      simp [hj, e, e']
  · by_cases e : k = j
    · subst e; simp [hj]
    · simp [hj, e]
theorem topV_congr {n : Nat} {f g : Nat → Value} (h : ∀ j, j < n → f j = g j) : topV n f = topV n g := by
  unfold topV
  exact List.map_congr_left fun j hj => h j (List.mem_range.1 hj)
abbrev topR (G n : Nat) : Value := .slice (some ⟨G, 0, none⟩) n n
structure LookA (B : Nat) (w W : World) (l : List Ru) (p bm G k : Nat) : Prop where
  below : Below B w W
  size : B ≤ W.heap.size
  lowm : B ≤ bm
  lowp : B ≤ p
  nep : p ≠ bm
  neG : G ≠ bm
  negp : G ≠ p
  c0 : W.cell? ⟨p, 0, none⟩ = some (.map (some bm))
  c1 : W.cell? ⟨p, 1, none⟩ = some (topR G l.length)
  map : W.heap[bm]? = some (.map (mkF 0 (l.take k)).toArray k)
  top : W.ownsRow B 68 1 (topR G l.length) l.length (topV l.length fun _ => .slice none 0 0)
theorem own_lt {W : World} {B : Nat} {e : TypeId} {s n : Nat} {v : Value} {xs : List Value} (h : W.ownsRow B e s v n xs) : ∀ g, v.ownBlock = some g → B ≤ g ∧ g < W.heap.size := by
  intro g hg
  rcases h.2 with ⟨rfl, _⟩ | ⟨g', cap, cur, rfl, hb, hc, _⟩
  · simp [Value.ownBlock] at hg
  · simp only [Value.ownBlock, Option.some.injEq] at hg
    subst hg
    exact ⟨hb, (Array.getElem?_eq_some_iff.1 hc).1⟩
theorem own_base {W : World} {B B' : Nat} {e : TypeId} {s n : Nat} {v : Value} {xs : List Value} (h : W.ownsRow B e s v n xs) (hB : B' ≤ B) : W.ownsRow B' e s v n xs := by
  refine ⟨h.1, ?_⟩
  rcases h.2 with h1 | ⟨g, cap, cur, h1, h2, h3⟩
  · exact .inl h1
  · exact .inr ⟨g, cap, cur, h1, Nat.le_trans hB h2, h3⟩
theorem LookA.make {w1 w2 : World} {l : List Ru} (hown : w2.ownsRow w1.heap.size 68 1 (.slice (some ⟨(w1.alloc (.map #[] 0)).heap.size, 0, none⟩) l.length l.length) l.length (madeCells (Value.slice none 0 0).cells (l.length * 1)).toList) (hgrow : (w1.alloc (.map #[] 0)).grownBy w2 none) :
    LookA w1.heap.size w1 (w2.alloc (.cells #[.map (some w1.heap.size), .slice (some ⟨w1.heap.size + 1, 0, none⟩) l.length l.length] 185)) l w2.heap.size w1.heap.size (w1.heap.size + 1) 0 := by
  have hz1 : (w1.alloc (.map #[] 0)).heap.size = w1.heap.size + 1 := by simp
  rw [hz1] at hown
  have hA1 : Below w1.heap.size w1 (w1.alloc (.map #[] 0)) := (Below.refl _ w1).alloc (Nat.le_refl _) _
  have hB2 : Below w1.heap.size w1 w2 := hA1.grown hgrow (by omega) (fun j e => by cases e)
  have hG := own_lt hown (w1.heap.size + 1) rfl
  have hm2 : w2.heap[w1.heap.size]? = some (.map #[] 0) := by
    rw [hgrow.block w1.heap.size (by omega) (by simp)]
    show (w1.heap.push _)[w1.heap.size]? = _
    simp
  have hA2 : Below w2.heap.size w2 (w2.alloc (.cells #[.map (some w1.heap.size), .slice (some ⟨w1.heap.size + 1, 0, none⟩) l.length l.length] 185)) := (Below.refl _ w2).alloc (Nat.le_refl _) _
  have hsz := hgrow.size
  have e : (madeCells (Value.slice none 0 0).cells (l.length * 1)).toList = topV l.length (fun _ => .slice none 0 0) := by
    rw [Nat.mul_one]
    refine (toList_madeCells_one _ _).trans ?_
    unfold topV
    rw [List.map_const']
    simp
  rw [e] at hown
  exact ⟨hB2.alloc (by omega) _, by simp; omega, Nat.le_refl _, by omega, by omega, by omega, by omega, by simp, by simp, (hA2.block _ (by omega)).trans hm2, hown.alloc _⟩
theorem LookA.next {B : Nat} {w W : World} {l : List Ru} {p bm G k : Nat} (h : LookA B w W l p bm G k) (hk : k < l.length) (o : Obj) :
    LookA B w (setB (W.alloc o).drew bm (.map (mkF 0 (l.take k) ++ [({ key := .string (ba l[k].out), val := nv k, born := k } : MapEntry)]).toArray (k + 1))) l p bm G (k + 1) := by
  have hbm := (Array.getElem?_eq_some_iff.1 h.map).1
  have hp := lt_of_cell h.c0
  have hA : Below W.heap.size W (W.alloc o).drew := ((Below.refl _ W).alloc (Nat.le_refl _) _).drew
  have hz := hA.size
  refine ⟨setB_below ((h.below.alloc h.size _).drew) _ _ h.lowm, by rw [setB_size]; exact Nat.le_trans h.size hz, h.lowm, h.lowp, h.nep, h.neG, h.negp, ?_, ?_, ?_, ?_⟩
  · exact (World.cell?_of_block (a := ⟨p, 0, none⟩) (setB_other _ bm _ h.nep)).trans (cell_below' h.c0 hA)
  · exact (World.cell?_of_block (a := ⟨p, 1, none⟩) (setB_other _ bm _ h.nep)).trans (cell_below' h.c1 hA)
  · rw [setB_same _ _ _ (by omega), List.take_succ_eq_append_getElem hk, mkF_snoc]
    simp only [Nat.zero_add, List.length_take, Nat.min_eq_left (Nat.le_of_lt hk)]
  · have h1 : (W.alloc o).drew.ownsRow B 68 1 (topR G l.length) l.length (topV l.length fun _ => .slice none 0 0) := h.top.alloc o
    exact h1.kept (setB_grown _ _ _) (.inr (by simp [Value.ownBlock, h.neG]))
structure LookB (B : Nat) (w W : World) (l : List Ru) (p bm G k : Nat) (vals : Nat → Value) : Prop where
  below : Below B w W
  size : B ≤ W.heap.size
  c0 : W.cell? ⟨p, 0, none⟩ = some (.map (some bm))
  c1 : W.cell? ⟨p, 1, none⟩ = some (topR G l.length)
  map : W.heap[bm]? = some (.map (mkF 0 l).toArray l.length)
  top : W.ownsRow B 68 1 (topR G l.length) l.length (topV l.length vals)
  lowp : B ≤ p
  negp : G ≠ p
  negm : G ≠ bm
  row : ∀ j (hj : j < l.length), j < k → W.ownsRow B 3 1 (vals j) (Ru.needL l l[j].ins).length ((Ru.needL l l[j].ins).map nv)
  nils : ∀ j, k ≤ j → vals j = .slice none 0 0
theorem LookA.start {B : Nat} {w W : World} {l : List Ru} {p bm G : Nat} (h : LookA B w W l p bm G l.length) : LookB B w W l p bm G 0 (fun _ => .slice none 0 0) :=
  ⟨h.below, h.size, h.c0, h.c1, by have := h.map; rwa [List.take_length] at this, h.top, h.lowp, h.negp, h.neG, fun j _ hj => absurd hj (Nat.not_lt_zero j), fun _ _ => rfl⟩
theorem LookB.done {B : Nat} {w W : World} {l : List Ru} {p bm G : Nat} {vals : Nat → Value} (h : LookB B w W l p bm G l.length vals) : ShAt W l p bm G vals :=
  ⟨h.c0, h.c1, h.map, fun i hi => ⟨by
    have := World.ownsRow.cellAt h.top i (by omega)
    rw [this, topV_get vals hi], (NRow.of_owns (h.row i hi hi)).ni⟩⟩
structure LookC (B Bk : Nat) (w W : World) (l : List Ru) (p bm G k : Nat) (vals : Nat → Value) (r : List Nat) (vi : Value) : Prop where
  below : Below B w W
  low : B ≤ Bk
  size : Bk ≤ W.heap.size
  c0 : W.cell? ⟨p, 0, none⟩ = some (.map (some bm))
  c1 : W.cell? ⟨p, 1, none⟩ = some (topR G l.length)
  map : W.heap[bm]? = some (.map (mkF 0 l).toArray l.length)
  ltm : bm < Bk
  ltp : p < Bk
  ltG : G < Bk
  lowp : B ≤ p
  negp : G ≠ p
  negm : G ≠ bm
  top : W.ownsRow B 68 1 (topR G l.length) l.length (topV l.length fun j => if j = k then vi else vals j)
  row : ∀ j (hj : j < l.length), j < k → W.ownsRow B 3 1 (vals j) (Ru.needL l l[j].ins).length ((Ru.needL l l[j].ins).map nv) ∧ ∀ g, (vals j).ownBlock = some g → g < Bk
  mine : W.ownsRow Bk 3 1 vi r.length (r.map nv)
  nils : ∀ j, k < j → vals j = .slice none 0 0
theorem LookB.enter {B : Nat} {w W : World} {l : List Ru} {p bm G k : Nat} {vals : Nat → Value} (h : LookB B w W l p bm G k vals) (o : Obj) : LookC B (W.alloc o).heap.size w (W.alloc o) l p bm G k vals [] (.slice none 0 0) := by
  have hA : Below W.heap.size W (W.alloc o) := (Below.refl _ W).alloc (Nat.le_refl _) _
  have hz : (W.alloc o).heap.size = W.heap.size + 1 := by simp
  have hG := own_lt h.top G rfl
  have hbm := (Array.getElem?_eq_some_iff.1 h.map).1
  have hp := lt_of_cell h.c0
  simp only at hp
  refine ⟨h.below.alloc h.size _, Nat.le_trans h.size hA.size, Nat.le_refl _, cell_below' h.c0 hA, cell_below' h.c1 hA, (hA.block bm hbm).trans h.map, by omega, by omega, by omega, h.lowp, h.negp, h.negm, ?_, fun j hj hjk => ⟨(h.row j hj hjk).alloc o, fun g hg => ?_⟩, World.ownsRow_nil _ _ _ _, fun j hj => h.nils j (by omega)⟩
  · have e : topV l.length (fun j => if j = k then Value.slice none 0 0 else vals j) = topV l.length vals := topV_congr fun j _ => by
      by_cases ej : j = k
      · rw [if_pos ej, h.nils j (by omega)]
      · rw [if_neg ej]
    rw [e]
    exact h.top.alloc o
  · have := (own_lt (h.row j hj hjk) g hg).2
    omega
theorem LookC.leave {B Bk : Nat} {w W : World} {l : List Ru} {p bm G k : Nat} {vals : Nat → Value} {vi : Value} (hk : k < l.length) (h : LookC B Bk w W l p bm G k vals (Ru.needL l l[k].ins) vi) : LookB B w W l p bm G (k + 1) (fun j => if j = k then vi else vals j) := by
  refine ⟨h.below, Nat.le_trans h.low h.size, h.c0, h.c1, h.map, h.top, h.lowp, h.negp, h.negm, fun j hj hjk => ?_, fun j hj => ?_⟩
  · by_cases e : j = k
    · subst e
      show W.ownsRow B 3 1 (if j = j then vi else vals j) _ _
      rw [if_pos rfl]
      exact own_base h.mine h.low
    · show W.ownsRow B 3 1 (if j = k then vi else vals j) _ _
      rw [if_neg e]
      exact (h.row j hj (by omega)).1
  · show (if j = k then vi else vals j) = _
    rw [if_neg (by omega)]
    exact h.nils j (by omega)
theorem LookC.more {B Bk : Nat} {w W W1 w1 : World} {l : List Ru} {p bm G k : Nat} {vals : Nat → Value} {r : List Nat} {vi v1 : Value} {x : Nat} (h : LookC B Bk w W l p bm G k vals r vi) (h1 : Below W.heap.size W W1) (hg : W1.grownBy w1 vi.ownBlock)
    (hown : w1.ownsRow Bk 3 1 v1 (r.length + 1) (r.map nv ++ [nv x])) (hblk : v1.ownBlock ≠ some G) :
    LookC B Bk w (w1.setCell ⟨G, k, none⟩ v1) l p bm G k vals (r ++ [x]) v1 := by
  have hmine := own_lt h.mine
  have hfar : vi.ownBlock ≠ some G := fun e => by
    have := (hmine G e).1
    have := h.ltG
    omega
  have hB1 : ∀ c, c < Bk → w1.heap[c]? = W.heap[c]? := fun c hc => by
    have hcw : c < W.heap.size := Nat.lt_of_lt_of_le hc h.size
    rw [hg.block c (Nat.lt_of_lt_of_le hcw h1.size) (fun e => by
      have := (hmine c e.symm).1
      omega)]
    exact h1.block c hcw
  have hS : ∀ c, c ≠ G → (w1.setCell ⟨G, k, none⟩ v1).heap[c]? = w1.heap[c]? := fun c hc => Below.heap_setCell w1 ⟨G, k, none⟩ v1 c hc
  have hz : (w1.setCell ⟨G, k, none⟩ v1).heap.size = w1.heap.size := by simp
  have hlow := h.low
  have hlp := h.lowp
  have h1z := h1.size
  have hgz := hg.size
  have hsz := h.size
  have hGB : B ≤ G := (own_lt h.top G rfl).1
  have keep : ∀ {e : TypeId} {n : Nat} {v : Value} {xs : List Value}, W.ownsRow B e 1 v n xs → (∀ g, v.ownBlock = some g → g < Bk) → w1.ownsRow B e 1 v n xs := fun {e n v xs} ho hb => by
    refine ⟨ho.1, ?_⟩
    rcases ho.2 with h2 | ⟨g, cap, cur, rfl, h3, h4, h5⟩
    · exact .inl h2
    · exact .inr ⟨g, cap, cur, rfl, h3, (hB1 g (hb g rfl)).trans h4, h5⟩
  refine ⟨?_, h.low, by rw [hz]; omega, ?_, ?_, ?_, h.ltm, h.ltp, h.ltG, h.lowp, h.negp, h.negm, ?_, fun j hj hjk => ⟨?_, (h.row j hj hjk).2⟩, ?_, h.nils⟩
  · refine Below.setCell (p := ⟨G, k, none⟩) ?_ hGB _
    exact (h.below.trans (h1.mono (by omega))).grown hg (by omega) fun j e => by have := (hmine j e).1; omega
  · exact (World.cell?_of_block (a := ⟨p, 0, none⟩) ((hS p (fun e => h.negp e.symm)).trans (hB1 p h.ltp))).trans h.c0
  · exact (World.cell?_of_block (a := ⟨p, 1, none⟩) ((hS p (fun e => h.negp e.symm)).trans (hB1 p h.ltp))).trans h.c1
  · exact ((hS bm (fun e => h.negm e.symm)).trans (hB1 bm h.ltm)).trans h.map
  · have ht := keep h.top (fun g e => by cases e; exact h.ltG)
    have := (World.ownsRow.stored ht k v1).1
    rw [topV_set] at this
    have e : topV l.length (fun j => if j = k then v1 else if j = k then vi else vals j) = topV l.length (fun j => if j = k then v1 else vals j) := topV_congr fun j _ => by
      by_cases ej : j = k
      · rw [if_pos ej, if_pos ej]
      · rw [if_neg ej, if_neg ej, if_neg ej]
    rw [e] at this
    exact this
  · obtain ⟨ho, hb⟩ := h.row j hj hjk
    refine ownsRow_setCell_other (keep ho hb) ?_ _
    exact owns_far (keep ho hb) (keep h.top (fun g e => by cases e; exact h.ltG)) (by decide)
  · rw [List.length_append, List.length_singleton, List.map_append]
    exact ownsRow_setCell_other hown hblk _
theorem LookC.after {B Bk : Nat} {w W W1 w1 : World} {l : List Ru} {p bm G k : Nat} {vals : Nat → Value} {r : List Nat} {vi : Value} (h : LookC B Bk w W l p bm G k vals r vi) (hk : k < l.length) (h1 : Below W.heap.size W W1) (hg : W1.grownBy w1 vi.ownBlock) :
    w1.cell? ⟨G, k, none⟩ = some vi ∧ w1.frozen? ⟨G, k, none⟩ = false ∧ w1.cell? ⟨p, 1, none⟩ = some (topR G l.length) := by
  have hmine := own_lt h.mine
  have hB1 : ∀ c, c < Bk → w1.heap[c]? = W.heap[c]? := fun c hc => by
    have hcw : c < W.heap.size := Nat.lt_of_lt_of_le hc h.size
    rw [hg.block c (Nat.lt_of_lt_of_le hcw h1.size) (fun e => by
      have := (hmine c e.symm).1
      omega)]
    exact h1.block c hcw
  refine ⟨?_, ?_, (World.cell?_of_block (a := ⟨p, 1, none⟩) (hB1 p h.ltp)).trans h.c1⟩
  · rw [World.cell?_of_block (a := ⟨G, k, none⟩) (hB1 G h.ltG), World.ownsRow.cellAt h.top k (by omega), topV_get _ hk, if_pos rfl]
  · rw [World.frozen?_of_block (a := ⟨G, k, none⟩) (hB1 G h.ltG)]
    exact World.ownsRow.frozenAt h.top k
theorem LookC.at {B Bk : Nat} {w W : World} {l : List Ru} {p bm G k : Nat} {vals : Nat → Value} {r : List Nat} {vi : Value} (h : LookC B Bk w W l p bm G k vals r vi) (hk : k < l.length) : W.cell? ⟨G, k, none⟩ = some vi ∧ W.frozen? ⟨G, k, none⟩ = false := by
  refine ⟨?_, World.ownsRow.frozenAt h.top k⟩
  rw [World.ownsRow.cellAt h.top k (by omega), topV_get _ hk, if_pos rfl]
end Go.Proofs.YtbgkfmodbofalaaGreatDoor
namespace Go.Proofs.YtbgkfmodbofalaaGreatDoor
open Go.RowKit Go.Shelf Go.Lib
namespace Ru
def Steps (l : List Ru) (e i t : Nat) : Prop := Walk l i e t ∧ ∀ s, Walk l i e s → t ≤ s
theorem Walk.same {l : List Ru} {i k : Nat} (h : Walk l i k 0) : i = k := by cases h; rfl
theorem Dist.steps {l : List Ru} {e i t : Nat} (h : Dist l i e t) (hne : i ≠ e) : Steps l e i t := by
  refine ⟨h.2.1, fun s hs => ?_⟩
  cases s with
  | zero => exact absurd hs.same hne
  | succ s => exact h.2.2 _ (by omega) hs
theorem Steps.unique {l : List Ru} {e i s t : Nat} (h : Steps l e i s) (h' : Steps l e i t) : s = t := Nat.le_antisymm (h.2 t h'.1) (h'.2 s h.1)
structure Bfs (l : List Ru) (e : Nat) (d : Nat → Nat) (s : List Nat) (a i : Nat) : Prop where
  top : s[0]? = some e
  lt : ∀ k ∈ s, k < l.length
  once : s.Nodup
  steps : ∀ k ∈ s, Steps l e k (d k)
  rises : ∀ p q x y : Nat, p ≤ q → s[p]? = some x → s[q]? = some y → d x ≤ d y
  near : ∀ x y : Nat, s[a]? = some x → y ∈ s → d y ≤ d x + 1
  past : ∀ p x : Nat, p < a → s[p]? = some x → ∀ k, needs l k x = true → k ∈ s
  now : ∀ x : Nat, s[a]? = some x → ∀ k, k < i → needs l k x = true → k ∈ s
  low : ∀ x : Nat, s[a]? = some x → ∀ k t, Walk l k e t → t < d x → k ∈ s.take a
theorem Bfs.first {l : List Ru} {e : Nat} (he : e < l.length) : Bfs l e (fun _ => 0) [e] 0 0 := by
  refine ⟨rfl, by simpa using he, by simp, ?_, fun _ _ _ _ _ _ _ => Nat.le_refl _, fun _ _ _ _ => Nat.zero_le _, fun p _ h => absurd h (Nat.not_lt_zero p), fun _ _ k h => absurd h (Nat.not_lt_zero k), fun _ _ _ t _ h => absurd h (Nat.not_lt_zero t)⟩
  intro k hk
  rw [List.mem_singleton.1 hk]
  exact ⟨.zero e, fun _ _ => Nat.zero_le _⟩
theorem Bfs.end_mem {l : List Ru} {e : Nat} {d : Nat → Nat} {s : List Nat} {a i : Nat} (h : Bfs l e d s a i) : e ∈ s := List.mem_of_getElem? h.top
theorem Bfs.skip {l : List Ru} {e : Nat} {d : Nat → Nat} {s : List Nat} {a i : Nat} (h : Bfs l e d s a i) (hs : i ∈ s ∨ ∀ x, s[a]? = some x → needs l i x = false) : Bfs l e d s a (i + 1) := by
  refine ⟨h.top, h.lt, h.once, h.steps, h.rises, h.near, h.past, fun x hx k hk hn => ?_, h.low⟩
  by_cases e : k = i
  · subst e
    rcases hs with hs | hs
    · exact hs
    · rw [hs x hx] at hn
      cases hn
  · exact h.now x hx k (by omega) hn
theorem Bfs.add {l : List Ru} {e : Nat} {d : Nat → Nat} {s : List Nat} {a i x : Nat} (h : Bfs l e d s a i) (hi : i < l.length) (hx : s[a]? = some x) (his : i ∉ s) (hn : needs l i x = true) : Bfs l e (fun k => if k = i then d x + 1 else d k) (s ++ [i]) a (i + 1) := by
  have hal : a < s.length := (List.getElem?_eq_some_iff.1 hx).1
  have hxs : x ∈ s := List.mem_of_getElem? hx
  have hd : ∀ k, k ∈ s → (if k = i then d x + 1 else d k) = d k := fun k hk => if_neg fun (e : k = i) => his (e ▸ hk)
  have hg : ∀ p, p < s.length → (s ++ [i])[p]? = s[p]? := fun p hp => List.getElem?_append_left hp
  have hgl : ∀ p y, (s ++ [i])[p]? = some y → (p < s.length ∧ s[p]? = some y) ∨ (p = s.length ∧ y = i) := by
    intro p y hp
    rcases Nat.lt_or_ge p s.length with h1 | h1
    · left
      exact ⟨h1, by rw [← hg p h1]; exact hp⟩
    · right
      have h2 := (List.getElem?_eq_some_iff.1 hp).1
      simp at h2
      obtain rfl : p = s.length := by omega
      simp at hp
      exact ⟨rfl, hp.symm⟩
  have hpos : 0 < s.length := by omega
  refine ⟨by rw [hg 0 hpos]; exact h.top, ?_, ?_, ?_, ?_, ?_, ?_, ?_, ?_⟩
  · intro k hk
    rcases List.mem_append.1 hk with h1 | h1
    · exact h.lt k h1
    · rw [List.mem_singleton.1 h1]; exact hi
  · rw [List.nodup_append]
    exact ⟨h.once, by simp, fun a ha b hb => by
      rw [List.mem_singleton.1 hb]
      rintro rfl
      exact his ha⟩
  · intro k hk
    show Steps l e k (if k = i then d x + 1 else d k)
    rcases List.mem_append.1 hk with h1 | h1
    · rw [hd k h1]
      exact h.steps k h1
    · rw [List.mem_singleton.1 h1, if_pos rfl]
      refine ⟨.step hn (h.steps x hxs).1, fun t ht => ?_⟩
      cases t with
      | zero => exact absurd (ht.same ▸ h.end_mem) his
      | succ t =>
        obtain ⟨j, hj, hw⟩ := ht.inv
        refine Nat.le_of_not_lt fun hlt => ?_
        have hjs := h.low x hx j t hw (by omega)
        obtain ⟨p, hp, ep⟩ := List.getElem_of_mem hjs
        rw [List.getElem_take] at ep
        have hpa : p < a ∧ p < s.length := by simp at hp; omega
        exact his (h.past p j hpa.1 (by rw [List.getElem?_eq_getElem hpa.2, ep]) i hj)
  · intro p q y z hpq hy hz
    show (if y = i then d x + 1 else d y) ≤ (if z = i then d x + 1 else d z)
    rcases hgl p y hy with ⟨h1, h2⟩ | ⟨h1, h2⟩
    · rw [hd y (List.mem_of_getElem? h2)]
      rcases hgl q z hz with ⟨h3, h4⟩ | ⟨h3, h4⟩
      · rw [hd z (List.mem_of_getElem? h4)]
        exact h.rises p q y z hpq h2 h4
      · rw [if_pos h4]
        exact h.near x y hx (List.mem_of_getElem? h2)
    · rcases hgl q z hz with ⟨h3, h4⟩ | ⟨h3, h4⟩
      · omega
      · rw [h2, h4]; exact Nat.le_refl _
  · intro y z hy hz
    show (if z = i then d x + 1 else d z) ≤ (if y = i then d x + 1 else d y) + 1
    rw [hg a hal] at hy
    rw [hd y (List.mem_of_getElem? hy)]
    have : y = x := Option.some.inj (hy.symm.trans hx)
    subst this
    rcases List.mem_append.1 hz with h1 | h1
    · rw [hd z h1]
      exact h.near y z hy h1
    · rw [List.mem_singleton.1 h1, if_pos rfl]
      exact Nat.le_refl _
  · intro p y hp hy k hk
    rw [hg p (by omega)] at hy
    exact List.mem_append_left _ (h.past p y hp hy k hk)
  · intro y hy k hk hkn
    rw [hg a hal] at hy
    by_cases e : k = i
    · subst e
      exact List.mem_append_right _ (List.mem_singleton.2 rfl)
    · exact List.mem_append_left _ (h.now y hy k (by omega) hkn)
  · intro y hy k t hw ht
    rw [hg a hal] at hy
    rw [hd y (List.mem_of_getElem? hy)] at ht
    rw [List.take_append_of_le_length (Nat.le_of_lt hal)]
    exact h.low y hy k t hw ht
theorem Bfs.next {l : List Ru} {e : Nat} {d : Nat → Nat} {s : List Nat} {a : Nat} (h : Bfs l e d s a l.length) (ha : a < s.length) : Bfs l e d s (a + 1) 0 := by
  have hx := List.getElem?_eq_getElem ha
  generalize s[a] = x at hx
  have hxs : x ∈ s := List.mem_of_getElem? hx
  refine ⟨h.top, h.lt, h.once, h.steps, h.rises, ?_, ?_, fun _ _ k hk => absurd hk (Nat.not_lt_zero k), ?_⟩
  · intro y z hy hz
    have h1 := h.near x z hx hz
    have h2 := h.rises a (a + 1) x y (by omega) hx hy
    omega
  · intro p y hp hy k hk
    by_cases e : p = a
    · subst e
      exact h.now y hy k (needs_lt hk).1 hk
    · exact h.past p y (by omega) hy k hk
  · intro y hy k t hw ht
    have h1 := h.near x y hx (List.mem_of_getElem? hy)
    by_cases hlt : t < d x
    · exact (List.take_sublist_take_left (Nat.le_succ a)).subset (h.low x hx k t hw hlt)
    · have htx : t = d x := by omega
      cases t with
      | zero =>
        rw [hw.same]
        obtain ⟨h0, e0⟩ := List.getElem?_eq_some_iff.1 h.top
        rw [← e0]
        exact List.mem_take_iff_getElem.2 ⟨0, by omega, rfl⟩
      | succ t =>
        obtain ⟨j, hj, hw'⟩ := hw.inv
        have hjs := h.low x hx j t hw' (by omega)
        obtain ⟨p, hp, ep⟩ := List.getElem_of_mem hjs
        rw [List.getElem_take] at ep
        have hpa : p < a ∧ p < s.length := by simp at hp; omega
        have hks := h.past p j hpa.1 (by rw [List.getElem?_eq_getElem hpa.2, ep]) k hj
        have hdk := (h.steps k hks).2 _ hw
        obtain ⟨q, hq, eq⟩ := List.getElem_of_mem hks
        have hqa : q < a + 1 := by
          refine Nat.lt_of_not_le fun hge => ?_
          have := h.rises (a + 1) q y k hge hy (by rw [List.getElem?_eq_getElem hq, eq])
          omega
        rw [← eq]
        exact List.mem_take_iff_getElem.2 ⟨q, by omega, rfl⟩
structure Leads (l : List Ru) (e : Nat) (s : List Nat) (d : Nat → Nat) : Prop where
  steps : ∀ k ∈ s, Steps l e k (d k)
  all : ∀ k t, Walk l k e t → k ∈ s
  lt : ∀ k ∈ s, k < l.length
theorem Bfs.done {l : List Ru} {e : Nat} {d : Nat → Nat} {s : List Nat} {a i : Nat} (h : Bfs l e d s a i) (ha : s.length ≤ a) : Leads l e s d := by
  refine ⟨h.steps, ?_, h.lt⟩
  intro k t
  induction t generalizing k with
  | zero => intro hw; rw [hw.same]; exact h.end_mem
  | succ t ih =>
    intro hw
    obtain ⟨j, hj, hw'⟩ := hw.inv
    obtain ⟨p, hp, ep⟩ := List.getElem_of_mem (ih j hw')
    exact h.past p j (by omega) (by rw [List.getElem?_eq_getElem hp, ep]) k hj
def Next (l : List Ru) (s : List Nat) (d : Nat → Nat) (x y : Nat) : Prop :=
  needs l x y = true ∧ y ∈ s ∧ ∀ z, needs l x z = true → z ∈ s → d y < d z ∨ (d y = d z ∧ y ≤ z)
theorem Leads.some {l : List Ru} {e : Nat} {s : List Nat} {d : Nat → Nat} (h : Leads l e s d) {x : Nat} (hx : x ∈ s) (hne : x ≠ e) : ∃ z, needs l x z = true ∧ z ∈ s := by
  have hw := (h.steps x hx).1
  generalize d x = t at hw
  cases t with
  | zero => exact absurd hw.same hne
  | succ t =>
    obtain ⟨z, hz, hw'⟩ := hw.inv
    exact ⟨z, hz, h.all z t hw'⟩
theorem Leads.none {l : List Ru} {e : Nat} {s : List Nat} {d : Nat → Nat} (h : Leads l e s d) (hno : ∀ z, needs l e z = true → z ∉ s) (t : Nat) : ¬ Walk l e e (t + 1) := by
  intro hw
  obtain ⟨z, hz, hw'⟩ := hw.inv
  exact hno z hz (h.all z t hw')
structure Trail (l : List Ru) (e : Nat) (s : List Nat) (d : Nat → Nat) (c : List Nat) : Prop where
  top : c[0]? = Option.some e
  step : ∀ j x y : Nat, c[j]? = Option.some x → c[j + 1]? = Option.some y → Next l s d x y ∧ y ≠ e
theorem Trail.first (l : List Ru) (e : Nat) (s : List Nat) (d : Nat → Nat) : Trail l e s d [e] := ⟨rfl, fun j x y _ h => by simp at h⟩
theorem Trail.more {l : List Ru} {e : Nat} {s : List Nat} {d : Nat → Nat} {c : List Nat} {x y : Nat} (h : Trail l e s d (c ++ [x])) (hn : Next l s d x y) (hne : y ≠ e) : Trail l e s d (c ++ [x] ++ [y]) := by
  refine ⟨by rw [List.getElem?_append_left (by simp)]; exact h.top, fun j u v hu hv => ?_⟩
  rcases Nat.lt_or_ge (j + 1) (c ++ [x]).length with h1 | h1
  · rw [List.getElem?_append_left (by omega)] at hu
    rw [List.getElem?_append_left h1] at hv
    exact h.step j u v hu hv
  · have h2 := (List.getElem?_eq_some_iff.1 hv).1
    simp at h1 h2
    obtain rfl : j = c.length := by omega
    rw [List.getElem?_append_left (by simp), List.getElem?_append_right (Nat.le_refl _)] at hu
    rw [List.getElem?_append_right (by simp)] at hv
    simp at hu hv
    subst hu hv
    exact ⟨hn, hne⟩
theorem sorted_filter {n : Nat} {r : List Nat} (hs : r.Pairwise (fun a b => a ≤ b)) (hd : r.Nodup) (hlt : ∀ k ∈ r, k < n) (f : Nat → Bool) (hf : ∀ k, k < n → (f k = true ↔ k ∈ r)) : r = (List.range n).filter f := by
  have hp : r.Perm ((List.range n).filter f) := (List.perm_ext_iff_of_nodup hd (List.Pairwise.filter _ List.nodup_range)).2 fun k => by
    rw [List.mem_filter, List.mem_range]
    constructor
    · intro hk
      exact ⟨hlt k hk, (hf k (hlt k hk)).2 hk⟩
    · rintro ⟨h1, h2⟩
      exact (hf k h1).1 h2
  refine List.Perm.eq_of_pairwise (le := fun a b : Nat => a ≤ b) ?_ hs (List.Pairwise.filter _ (List.pairwise_lt_range.imp Nat.le_of_lt)) hp
  intro a b _ _ h1 h2
  exact Nat.le_antisymm h1 h2
end Ru
end Go.Proofs.YtbgkfmodbofalaaGreatDoor
