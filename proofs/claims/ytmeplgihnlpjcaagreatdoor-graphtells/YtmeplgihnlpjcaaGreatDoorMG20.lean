/- Ways between all rules at once: the table, as data. -/
import Derived.Test.YtmeplgihnlpjcaaGreatDoorMG11
import Derived.Test.YtmeplgihnlpjcaaGreatDoorMG3
import Derived.BigQuiet
import Derived.BigRegion
import Derived.Test.YtmeplgihnlpjcaaGreatDoorMG13
namespace Go.Proofs.YtmeplgihnlpjcaaGreatDoor
open Go.RowKit Go.Shelf Go.Lib

namespace Ru
/-- A way all of whose places between are below m. -/
inductive WalkB (l : List Ru) (m : Nat) : Nat → Nat → Nat → Prop
  | one {i k : Nat} : needs l i k = true → WalkB l m i k 1
  | step {i j k t : Nat} : needs l i j = true → j < m → WalkB l m j k t → WalkB l m i k (t + 1)
theorem WalkB.walk {l : List Ru} {m i k t : Nat} (h : WalkB l m i k t) : Walk l i k t := by
  induction h with
  | one hn => exact Walk.one hn
  | step hn _ _ ih => exact .step hn ih
theorem WalkB.pos {l : List Ru} {m i k t : Nat} (h : WalkB l m i k t) : 1 ≤ t := by
  cases h <;> omega
theorem WalkB.mono {l : List Ru} {m m' i k t : Nat} (hm : m ≤ m') (h : WalkB l m i k t) : WalkB l m' i k t := by
  induction h with
  | one hn => exact .one hn
  | step hn hj _ ih => exact .step hn (by omega) ih
theorem Walk.toB {l : List Ru} {i k t : Nat} (h : Walk l i k (t + 1)) : WalkB l l.length i k (t + 1) := by
  induction t generalizing i with
  | zero =>
    obtain ⟨j, hn, hw⟩ := h.inv
    cases hw
    exact .one hn
  | succ t ih =>
    obtain ⟨j, hn, hw⟩ := h.inv
    exact .step hn (needs_lt hn).2 (ih hw)
/-- A way whose places between are below m + 1 is one below m, or goes by m. -/
theorem WalkB.split {l : List Ru} {m i k t : Nat} (h : WalkB l (m + 1) i k t) : WalkB l m i k t ∨ ∃ a b, WalkB l m i m a ∧ WalkB l m m k b ∧ a + b ≤ t := by
  induction h with
  | one hn => exact .inl (.one hn)
  | @step i j k t hn hj hw ih =>
    have hp := hw.pos
    by_cases e : j = m
    · subst e
      rcases ih with h1 | ⟨a, b, _, h2, hab⟩
      · exact .inr ⟨1, _, .one hn, h1, by omega⟩
      · exact .inr ⟨1, b, .one hn, h2, by omega⟩
    · have hjm : j < m := by omega
      rcases ih with h1 | ⟨a, b, h1, h2, hab⟩
      · exact .inl (.step hn hjm h1)
      · exact .inr ⟨a + 1, b, .step hn hjm h1, h2, by omega⟩

/-- The table, m rounds on: what it tells is a way; and no way by places below m is shorter. -/
structure Far (l : List Ru) (m : Nat) (F : Nat → Nat → Nat) : Prop where
  top : ∀ i k, F i k ≤ 1000
  pos : ∀ i k, 1 ≤ F i k
  way : ∀ i k, i < l.length → k < l.length → F i k < 1000 → Walk l i k (F i k)
  least : ∀ i k t, i < l.length → k < l.length → WalkB l m i k t → F i k ≤ t
/-- Inside a round: the elder table is G. -/
structure FarIn (l : List Ru) (m : Nat) (G F : Nat → Nat → Nat) (done : Nat → Nat → Prop) : Prop where
  top : ∀ i k, F i k ≤ 1000
  pos : ∀ i k, 1 ≤ F i k
  way : ∀ i k, i < l.length → k < l.length → F i k < 1000 → Walk l i k (F i k)
  le : ∀ i k, F i k ≤ G i k
  by_ : ∀ i k, done i k → F i k ≤ G i m + G m k
theorem Far.first (l : List Ru) (F : Nat → Nat → Nat) (h : ∀ i k, i < l.length → k < l.length → F i k = if needs l i k = true then 1 else 1000) (ho : ∀ i k, ¬ (i < l.length ∧ k < l.length) → F i k = 1000) : Far l 0 F := by
  have cases' : ∀ i k, F i k = 1000 ∨ (F i k = 1 ∧ needs l i k = true) := fun i k => by
    by_cases hc : i < l.length ∧ k < l.length
    · rw [h i k hc.1 hc.2]
      split
      · rename_i hn; exact .inr ⟨rfl, hn⟩
      · exact .inl rfl
    · exact .inl (ho i k hc)
  refine ⟨fun i k => ?_, fun i k => ?_, fun i k _ _ hlt => ?_, fun i k t hi hk hw => ?_⟩
  · rcases cases' i k with e | ⟨e, _⟩ <;> omega
  · rcases cases' i k with e | ⟨e, _⟩ <;> omega
  · rcases cases' i k with e | ⟨e, hn⟩
    · omega
    · rw [e]; exact Walk.one hn
  · cases hw with
    | one hn => rw [h i k hi hk, if_pos hn]; exact Nat.le_refl _
    | step _ hj _ => omega
theorem Far.start {l : List Ru} {m : Nat} {F : Nat → Nat → Nat} (h : Far l m F) : FarIn l m F F (fun _ _ => False) :=
  ⟨h.top, h.pos, h.way, fun _ _ => Nat.le_refl _, fun _ _ h => h.elim⟩
theorem FarIn.next {l : List Ru} {m : Nat} {G F : Nat → Nat → Nat} {done : Nat → Nat → Prop} (hG : Far l m G) (h : FarIn l m G F done) (hd : ∀ i k, i < l.length → k < l.length → done i k) (hm : m < l.length) : Far l (m + 1) F := by
  refine ⟨h.top, h.pos, h.way, fun i k t hi hk hw => ?_⟩
  rcases hw.split with h1 | ⟨a, b, h1, h2, hab⟩
  · exact Nat.le_trans (h.le i k) (hG.least i k t hi hk h1)
  · have e1 := hG.least i m a hi hm h1
    have e2 := hG.least m k b hm hk h2
    have e3 := h.by_ i k (hd i k hi hk)
    omega
/-- One place of a round: it gets shorter. -/
theorem FarIn.less {l : List Ru} {m : Nat} {G F : Nat → Nat → Nat} {i k : Nat} {done : Nat → Nat → Prop} (h : FarIn l m G F done) (hi : i < l.length) (hk : k < l.length) (hm : m < l.length) (hlt : F i m + F m k < F i k) :
    FarIn l m G (fun a b => if a = i ∧ b = k then F i m + F m k else F a b) (fun a b => done a b ∨ (a = i ∧ b = k)) := by
  have hs : F i m + F m k < 1000 := Nat.lt_of_lt_of_le hlt (h.top i k)
  have p1 := h.pos i m
  have p2 := h.pos m k
  refine ⟨fun a b => ?_, fun a b => ?_, fun a b ha hb hl => ?_, fun a b => ?_, fun a b hd => ?_⟩
  · split
    · omega
    · exact h.top a b
  · split
    · omega
    · exact h.pos a b
  · skip
    by_cases e : a = i ∧ b = k
    · rw [if_pos e] at hl ⊢
      obtain ⟨rfl, rfl⟩ := e
      exact (h.way a m hi hm (by omega)).trans (h.way m b hm hk (by omega))
    · rw [if_neg e] at hl ⊢
      exact h.way a b ha hb hl
  · split
    · rename_i e
      obtain ⟨rfl, rfl⟩ := e
      have := h.le a b
      omega
    · exact h.le a b
  · skip
    by_cases e : a = i ∧ b = k
    · rw [if_pos e]
      obtain ⟨rfl, rfl⟩ := e
      have q1 := h.le a m
      have q2 := h.le m b
      omega
    · rw [if_neg e]
      exact h.by_ a b (hd.resolve_right e)
/-- One place of a round: it stays. -/
theorem FarIn.stay {l : List Ru} {m : Nat} {G F : Nat → Nat → Nat} {i k : Nat} {done : Nat → Nat → Prop} (h : FarIn l m G F done) (hge : F i k ≤ F i m + F m k) : FarIn l m G F (fun a b => done a b ∨ (a = i ∧ b = k)) := by
  refine ⟨h.top, h.pos, h.way, h.le, fun a b hd => ?_⟩
  rcases hd with hd | ⟨rfl, rfl⟩
  · exact h.by_ a b hd
  · have q1 := h.le a m
    have q2 := h.le m b
    omega
theorem FarIn.weak {l : List Ru} {m : Nat} {G F : Nat → Nat → Nat} {done done' : Nat → Nat → Prop} (h : FarIn l m G F done) (hd : ∀ a b, done' a b → done a b) : FarIn l m G F done' :=
  ⟨h.top, h.pos, h.way, h.le, fun a b hh => h.by_ a b (hd a b hh)⟩
/-- What the table tells in the end. -/
theorem Far.dist {l : List Ru} {F : Nat → Nat → Nat} (h : Far l l.length F) (hl : l.length ≤ 900) {i k : Nat} (hi : i < l.length) (hk : k < l.length) : (F i k < 1000 → Dist l i k (F i k)) ∧ (1000 ≤ F i k → ∀ t, ¬ Walk l i k (t + 1)) := by
  have low : ∀ s, 1 ≤ s → Walk l i k s → F i k ≤ s := fun s hs hw => by
    obtain ⟨t, rfl⟩ : ∃ t, s = t + 1 := ⟨s - 1, by omega⟩
    exact h.least i k _ hi hk hw.toB
  refine ⟨fun hlt => ⟨h.pos i k, h.way i k hi hk hlt, low⟩, fun hge t hw => ?_⟩
  obtain ⟨s, hs, hws⟩ := hw.short
  have := low (s + 1) (by omega) hws
  omega
theorem Far.eq {l : List Ru} {F : Nat → Nat → Nat} (h : Far l l.length F) (hl : l.length ≤ 900) {i k t : Nat} (hi : i < l.length) (hk : k < l.length) (ht : t < 1000) : F i k = t ↔ Dist l i k t := by
  obtain ⟨h1, h2⟩ := h.dist hl hi hk
  constructor
  · rintro rfl
    exact h1 ht
  · intro hd
    rcases Nat.lt_or_ge (F i k) 1000 with hlt | hge
    · exact (h1 hlt).unique hd
    · obtain ⟨s, hs⟩ : ∃ s, t = s + 1 := ⟨t - 1, by have := hd.1; omega⟩
      have hw := hd.2.1
      rw [hs] at hw
      exact absurd hw (h2 hge s)
/-- The beginning of a round, from i on, of L steps. -/
structure Part (l : List Ru) (i L : Nat) (c : List Nat) : Prop where
  ne : 0 < c.length
  head : ∀ h : 0 < c.length, c[0] = i
  next : ∀ j (h : j + 1 < c.length), needs l c[j] c[j + 1] = true ∧ Dist l c[j + 1] i (L - 1 - j) ∧ ∀ k, k < c[j + 1] → ¬ (needs l c[j] k = true ∧ Dist l k i (L - 1 - j))
  far : ∀ h : c.length - 1 < c.length, Dist l c[c.length - 1] i (L + 1 - c.length)
theorem Part.first {l : List Ru} {i L : Nat} (h : Dist l i i L) : Part l i L [i] :=
  ⟨by simp, fun _ => rfl, fun j h => by simp at h, fun _ => by simpa using h⟩
theorem Part.more {l : List Ru} {i L k : Nat} {c : List Nat} (h : Part l i L c) (hL : c.length < L) (h1 : needs l (c[c.length - 1]'(by have := h.ne; omega)) k = true) (h2 : Dist l k i (L - c.length)) (h3 : ∀ a, a < k → ¬ (needs l (c[c.length - 1]'(by have := h.ne; omega)) a = true ∧ Dist l a i (L - c.length))) : Part l i L (c ++ [k]) := by
  have hne := h.ne
  refine ⟨by simp, fun _ => ?_, fun j hj => ?_, fun _ => ?_⟩
  · rw [List.getElem_append_left hne]
    exact h.head hne
  · rw [List.length_append, List.length_singleton] at hj
    by_cases e : j + 1 < c.length
    · rw [List.getElem_append_left e, List.getElem_append_left (by omega)]
      exact h.next j e
    · obtain rfl : j = c.length - 1 := by omega
      have e1 : L - 1 - (c.length - 1) = L - c.length := by omega
      simp only [e1]
      rw [List.getElem_append_left (by omega), List.getElem_append_right (by omega)]
      simp only [List.getElem_singleton]
      exact ⟨h1, h2, h3⟩
  · simp only [List.length_append, List.length_singleton, Nat.add_sub_cancel]
    rw [List.getElem_append_right (Nat.le_refl _)]
    simp only [List.getElem_singleton]
    rw [show L + 1 - (c.length + 1) = L - c.length by omega]
    exact h2
theorem Part.done {l : List Ru} {i : Nat} {c : List Nat} (h : Part l i c.length c) (h0 : ∀ j t, j < i → ¬ Walk l j j (t + 1)) (hd : Dist l i i c.length) : IsCycle l c := by
  refine ⟨fun e => ?_, fun hp => ?_, fun j hj => ?_⟩
  · have := h.ne
    rw [e] at this
    simp at this
  · rw [h.head hp]
    exact ⟨h0, hd⟩
  · rw [h.head (by omega)]
    exact h.next j hj
theorem least_k {P : Nat → Prop} {j : Nat} (hj : P j) : ∃ k, k ≤ j ∧ P k ∧ ∀ a, a < k → ¬ P a := by
  have : ∀ m j, j ≤ m → P j → ∃ k, k ≤ j ∧ P k ∧ ∀ a, a < k → ¬ P a := by
    intro m
    induction m with
    | zero =>
      intro j h hp
      exact ⟨j, Nat.le_refl _, hp, fun a ha => by omega⟩
    | succ m ih =>
      intro j h hp
      by_cases hc : ∃ a, a < j ∧ P a
      · obtain ⟨a, ha, hpa⟩ := hc
        obtain ⟨k, h1, h2, h3⟩ := ih a (by omega) hpa
        exact ⟨k, by omega, h2, h3⟩
      · exact ⟨j, Nat.le_refl _, hp, fun a ha hpa => hc ⟨a, ha, hpa⟩⟩
  exact this j j (Nat.le_refl _) hj
end Ru
end Go.Proofs.YtmeplgihnlpjcaaGreatDoor
/- The document's answer's CycleOf: the walk. -/
namespace Go.Proofs.YtmeplgihnlpjcaaGreatDoor
open Go.RowKit Go.Shelf Go.Lib

/-- The first table. -/
def far0 (l : List Ru) (a b : Nat) : Nat := if Ru.needs l a b = true then 1 else 1000

theorem Mat.start {W : World} {B n : Nat} {g : Nat} (h : W.ownsRow B 25 1 (.slice (some ⟨g, 0, none⟩) n n) n (madeCells (Value.slice none 0 0).cells (n * 1)).toList) (rb : Nat → Nat) (F : Nat → Nat → Nat) : Mat W B g n 0 rb F := by
  refine ⟨?_, fun i hi => by omega, fun i j hi => by omega⟩
  have e : (madeCells (Value.slice none 0 0).cells (n * 1)).toList = topS n 0 rb := by
    rw [Nat.mul_one]
    refine (toList_madeCells_one _ _).trans ?_
    unfold topS
    simp
    rw [List.map_const']
    simp
  rw [e] at h
  exact h
/-- A row more. -/
theorem Mat.more {W W2 : World} {B gF n m b : Nat} {rb : Nat → Nat} {F : Nat → Nat → Nat} (h : Mat W B gF n m rb F) (hm : m < n) (hb : b = W.heap.size) (hg : W.grownBy W2 none) (hN : OwnN W2 B b n (fun _ => 0)) :
    Mat (W2.setCell ⟨gF, m, none⟩ (.slice (some ⟨b, 0, none⟩) n n)) B gF n (m + 1) (fun i => if i = m then b else rb i) (fun a k => if a = m then 0 else F a k) := by
  have hT : W2.ownsRow B 25 1 (.slice (some ⟨gF, 0, none⟩) n n) n (topS n m rb) := h.top.kept hg (.inr (by simp [Value.ownBlock]))
  have hne : gF ≠ b := fun e => owns_far hT hN (by decide) (by rw [← e]; rfl)
  refine ⟨?_, fun i hi => ?_, fun i j hi hj hij => ?_⟩
  · have := (World.ownsRow.stored hT m (.slice (some ⟨b, 0, none⟩) n n)).1
    rw [topS_set] at this
    exact this
  · by_cases e : i = m
    · subst e
      simp only [if_true]
      exact hN.other (fun e => hne e.symm) _ _
    · simp only [if_neg e]
      exact ((h.row i (by omega)).grown hg).other (fun e' => h.ne (i := i) (by omega) e'.symm) _ _
  · by_cases e1 : i = m
    · have e2 : j ≠ m := fun e => hij (by omega)
      simp only [e1, if_true, if_neg e2]
      have := (h.row j (by omega)).lt.1
      omega
    · by_cases e2 : j = m
      · simp only [e2, if_true, if_neg e1]
        have := (h.row i (by omega)).lt.1
        omega
      · simp only [if_neg e1, if_neg e2]
        exact h.inj i j (by omega) (by omega) hij
end Go.Proofs.YtmeplgihnlpjcaaGreatDoor
/- The document's answer's CycleOf: the walk. -/
namespace Go.Proofs.YtmeplgihnlpjcaaGreatDoor
open Go.RowKit Go.Shelf Go.Lib

set_option maxRecDepth 100000 in
set_option maxHeartbeats 16000000 in
theorem CycleOf_calls {w : World} (v : Value) (l : List Ru) (hrow : RRow w v l) (hn : l.length ≤ 41) (hS : ∀ x ∈ l, x.Small) :
    Calls Tryz.prog 22 #[v] w fun e w' => ∃ u c, e = .returned u ∧ Below w.heap.size w w' ∧ Ru.IsCycle l c ∧ NIRow w' u c := by
  obtain ⟨iT, hT, hT0, hT1, hT2⟩ := info_parts Tryz.infoInts
  obtain ⟨i1, hI, hI0, hI1, hI2⟩ := info_parts Tryz.infoInt
  have HN := hid1 fun W (g : Below w.heap.size w W) i k (hi : i < l.length) (hk : k < l.length) => NeedsRule_calls v l (hrow.below g) (fun x hx => Nat.le_trans (hS x hx).many (by omega)) i k hi hk
  obtain ⟨p, cap, rfl, -⟩ := hrow
  have hml : l.length ≤ maxLen := by unfold maxLen; omega
  have hbT : iT.bytes * l.length ≤ 281474976710656 := by rw [hT2]; omega
  have hbI : i1.bytes * l.length ≤ 281474976710656 := by rw [hI2]; omega
  have zn : (l.length : Int) ≤ 41 := by omega
  clear hS
  go_enter Tryz.func22, Tryz.ntmps22
  go_wp2_with (at_make; refine wpList_make_full _ rfl _ _ 64 rfl w.heap.size 25 iT (.slice none 0 0) 1 Tryz.underlying64 hT hT0 hT1 .i64 .i64 _ _ l.length rfl rfl (by omega) (by omega) hbT hml (Nat.le_refl _) ?_; intro w1 hown hgrow; have M0 := Mat.start hown (fun _ => 0) (fun _ _ => 0))
  have B1 : Below w.heap.size w w1 := below_grown (Below.refl _ w) (Nat.le_refl _) hgrow
  clear hown hgrow
  go_loopw [5] (fun iv wr => ∃ (i : Nat) (rb : Nat → Nat) (F : Nat → Nat → Nat), i ≤ l.length ∧ iv = .int .i64 i ∧ Mat wr w.heap.size w.heap.size l.length i rb F ∧ (∀ a k, a < i → k < l.length → F a k = far0 l a k) ∧ Below w.heap.size w wr) (fun iv _ => l.length - (intOf iv).toNat)
  case atStart => exact ⟨0, _, _, Nat.zero_le _, rfl, M0, fun a k h => by omega, B1⟩
  case round =>
    obtain ⟨i, rb, F, hil, rfl, M, hF, B⟩ := hrel
    have HM := hid1 M
    have HF := hid1 hF
    clear M0 B1 M hF
    have c0 : (0 : Int) ≤ (i : Int) := by omega
    by_cases hilt : i < l.length
    · have c1 : (i : Int) < (l.length : Int) := by omega
      have hBz : w.heap.size ≤ wr.heap.size := B.size
      go_wp2_with (at_make; refine wpList_make_full _ rfl _ _ 25 rfl w.heap.size 3 i1 (.int .i64 0) 1 Tryz.underlying25 hI hI0 hI1 .i64 .i64 _ _ l.length rfl rfl (by omega) (by omega) hbI hml hBz ?_; intro w2 hown hgrow; have N0 := madeN hown; have hT2' : w2.ownsRow w.heap.size 25 1 (.slice (some ⟨w.heap.size, 0, none⟩) l.length l.length) l.length (topS l.length i rb) := HM.out.top.kept hgrow (.inr (by simp [Value.ownBlock])); have hc := World.ownsRow.cellAt hT2' i (by omega); have hf := World.ownsRow.frozenAt hT2' i; rw [topS_get rb hilt, if_neg (Nat.lt_irrefl i)] at hc)
      have M2 := HM.out.more hilt rfl hgrow N0
      have B2 : Below w.heap.size w w2 := below_grown B hBz hgrow
      have B3 := B2.setCell (p := ⟨w.heap.size, i, none⟩) (Nat.le_refl _) (.slice (some ⟨wr.heap.size, 0, none⟩) l.length l.length)
      have HF2 : Hid (∀ a k, a < i → k < l.length → (fun a k => if a = i then 0 else F a k) a k = far0 l a k) := hid1 fun a k ha hk => by
        show (if a = i then 0 else F a k) = _
        rw [if_neg (by omega)]
        exact HF.out a k ha hk
      generalize (fun a k => if a = i then 0 else F a k) = F2 at M2 HF2
      generalize (fun j => if j = i then wr.heap.size else rb j) = rb2 at M2
      have HM2 := hid1 M2
      have HB3 := hid1 B3
      clear M2 B2 B3 hown hgrow N0 hT2' hc hf HM HF B hBz
      generalize w2.setCell ⟨w.heap.size, i, none⟩ (.slice (some ⟨wr.heap.size, 0, none⟩) l.length l.length) = w3 at *
      go_loopw [6] (fun kv wx => ∃ (k : Nat) (F' : Nat → Nat → Nat), k ≤ l.length ∧ kv = .int .i64 k ∧ Mat wx w.heap.size w.heap.size l.length (i + 1) rb2 F' ∧ (∀ a j, a < i → j < l.length → F' a j = far0 l a j) ∧ (∀ j, j < k → F' i j = far0 l i j) ∧ Below w.heap.size w wx) (fun kv _ => l.length - (intOf kv).toNat)
      case atStart => exact ⟨0, F2, Nat.zero_le _, rfl, HM2.out, HF2.out, fun j h => by omega, HB3.out⟩
      case round =>
        clear HM2 HF2 HB3 F2
        obtain ⟨k, F', hkl, rfl, M, hF1, hF2, B⟩ := hrel
        have k0 : (0 : Int) ≤ (k : Int) := by omega
        by_cases hklt : k < l.length
        · have k1 : (k : Int) < (l.length : Int) := by omega
          have t1 := M.topCell (by omega) (i := i) (by omega)
          have t2 := M.cell (i := i) (by omega) hklt
          have t3 := World.ownsRow.frozenAt (M.row i (by omega)) k
          have M1 := M.set (i := i) (k := k) (F' := fun a j => if a = i ∧ j = k then 1000 else F' a j) (by omega) 1000 fun _ _ _ _ => rfl
          have hge := (M.row i (by omega)).lt.2
          have B1 := B.setCell (p := ⟨rb2 i, k, none⟩) hge (nv 1000)
          have HC := HN.out _ B1 i k hilt hklt
          cases hb : Ru.needs l i k with
          | false =>
            rw [hb] at HC
            have HG1 : Hid (∀ a j, a < i → j < l.length → (if a = i ∧ j = k then 1000 else F' a j) = far0 l a j) := hid1 fun a j ha hj => by
              rw [if_neg (by omega)]
              exact hF1 a j ha hj
            have HG2 : Hid (∀ j, j < k + 1 → (if i = i ∧ j = k then 1000 else F' i j) = far0 l i j) := hid1 fun j hj => by
              by_cases e : j = k
              · subst e
                rw [if_pos ⟨rfl, rfl⟩]
                unfold far0
                rw [hb]
                rfl
              · rw [if_neg (fun h => e h.2)]
                exact hF2 j (by omega)
            clear hF1 hF2 M B hb
            go_wp2_with fail
            refine Calls.mono HC ?_
            rintro e w4 ⟨rfl, q, rfl⟩
            have M4 := M1.drew q
            have B4 := below_draws B1 q
            clear HC M1 B1
            go_wp2
            exact ⟨⟨k + 1, _, by omega, by go_num, M4, HG1.out, fun j hj => by simpa using HG2.out j hj, B4⟩, by simp [intOf]; omega⟩
          | true =>
            rw [hb] at HC
            have HG1 : Hid (∀ a j, a < i → j < l.length → (if a = i ∧ j = k then 1 else if a = i ∧ j = k then 1000 else F' a j) = far0 l a j) := hid1 fun a j ha hj => by
              rw [if_neg (by omega), if_neg (by omega)]
              exact hF1 a j ha hj
            have HG2 : Hid (∀ j, j < k + 1 → (if i = i ∧ j = k then 1 else if i = i ∧ j = k then 1000 else F' i j) = far0 l i j) := hid1 fun j hj => by
              by_cases e : j = k
              · subst e
                rw [if_pos ⟨rfl, rfl⟩]
                unfold far0
                rw [hb]
                rfl
              · rw [if_neg (fun h => e h.2), if_neg (fun h => e h.2)]
                exact hF2 j (by omega)
            clear hF1 hF2 M B hb
            go_wp2_with fail
            refine Calls.mono HC ?_
            rintro e w4 ⟨rfl, q, rfl⟩
            have M4 := M1.drew q
            have B4 := below_draws B1 q
            have s1 := M4.topCell (by omega) (i := i) (by omega)
            have s2 := M4.cell (i := i) (by omega) hklt
            have s3 := World.ownsRow.frozenAt (M4.row i (by omega)) k
            have M5 := M4.set (i := i) (k := k) (F' := fun a j => if a = i ∧ j = k then 1 else if a = i ∧ j = k then 1000 else F' a j) (by omega) 1 fun _ _ _ _ => rfl
            have B5 := B4.setCell (p := ⟨rb2 i, k, none⟩) hge (nv 1)
            clear HC M1 B1 M4 B4 t1 t2 t3
            generalize (wr.setCell ⟨rb2 i, k, none⟩ (nv 1000)).drewN q = w5 at *
            go_wp2
            exact ⟨⟨k + 1, _, by omega, by go_num, M5, HG1.out, fun j hj => by simpa using HG2.out j hj, B5⟩, by simp [intOf]; omega⟩
        · have k1 : (l.length : Int) ≤ (k : Int) := by omega
          have HG : Hid (∀ a j, a < i + 1 → j < l.length → F' a j = far0 l a j) := hid1 fun a j ha hj => by
            by_cases e : a = i
            · subst e
              exact hF2 j (by omega)
            · exact hF1 a j (by omega) hj
          clear hF1 hF2
          go_wp2
          exact ⟨⟨i + 1, rb2, F', by omega, by go_num, M, HG.out, B⟩, by simp [intOf]; omega⟩
    · have c1 : (l.length : Int) ≤ (i : Int) := by omega
      obtain rfl : i = l.length := by omega
      have MF : Mat wr w.heap.size w.heap.size l.length l.length rb (fun a k => if a < l.length ∧ k < l.length then F a k else 1000) := ⟨HM.out.top, fun a ha => (HM.out.row a ha).congr fun k hk => by rw [if_pos ⟨ha, hk⟩], HM.out.inj⟩
      have HFar : Hid (Ru.Far l 0 (fun a k => if a < l.length ∧ k < l.length then F a k else 1000)) := hid1 (Ru.Far.first l _ (fun a k ha hk => by
        rw [if_pos ⟨ha, hk⟩, HF.out a k ha hk]
        rfl) (fun a k h => if_neg h))
      generalize (fun a k => if a < l.length ∧ k < l.length then F a k else 1000) = F0 at MF HFar
      have HM0 := hid1 MF
      have hge : ∀ a, a < l.length → w.heap.size ≤ rb a := fun a ha => (MF.row a ha).lt.2
      have HGE := hid1 hge
      clear HM HF MF hge
      generalize wr = w4 at *
      go_wp2
      go_loopw [7] (fun mv wx => ∃ (m : Nat) (G : Nat → Nat → Nat), m ≤ l.length ∧ mv = .int .i64 m ∧ Mat wx w.heap.size w.heap.size l.length l.length rb G ∧ Ru.Far l m G ∧ Below w.heap.size w wx) (fun mv _ => l.length - (intOf mv).toNat)
      case atStart => exact ⟨0, F0, Nat.zero_le _, rfl, HM0.out, HFar.out, B⟩
      case round =>
        clear HM0 HFar F0 B
        obtain ⟨m, G, hml2, rfl, M, hFar, B⟩ := hrel
        have HM := hid1 M
        have HFar := hid1 hFar
        clear M hFar
        have m0 : (0 : Int) ≤ (m : Int) := by omega
        by_cases hmlt : m < l.length
        · have m1 : (m : Int) < (l.length : Int) := by omega
          generalize wr = w5 at *
          go_wp2
          go_loopw [8] (fun iv wx => ∃ (i : Nat) (F : Nat → Nat → Nat), i ≤ l.length ∧ iv = .int .i64 i ∧ Mat wx w.heap.size w.heap.size l.length l.length rb F ∧ Ru.FarIn l m G F (fun a b => a < i ∧ b < l.length) ∧ Below w.heap.size w wx) (fun iv _ => l.length - (intOf iv).toNat)
          case atStart => exact ⟨0, G, Nat.zero_le _, rfl, HM.out, HFar.out.start.weak fun a b h => by omega, B⟩
          case round =>
            clear HM B
            obtain ⟨i, F, hil, rfl, M, hIn, B⟩ := hrel
            have HM := hid1 M
            have HIn := hid1 hIn
            clear M hIn
            have i0 : (0 : Int) ≤ (i : Int) := by omega
            by_cases hilt2 : i < l.length
            · have i1' : (i : Int) < (l.length : Int) := by omega
              generalize wr = w6 at *
              go_wp2
              go_loopw [9] (fun kv wx => ∃ (k : Nat) (F : Nat → Nat → Nat), k ≤ l.length ∧ kv = .int .i64 k ∧ Mat wx w.heap.size w.heap.size l.length l.length rb F ∧ Ru.FarIn l m G F (fun a b => b < l.length ∧ (a < i ∨ (a = i ∧ b < k))) ∧ Below w.heap.size w wx) (fun kv _ => l.length - (intOf kv).toNat)
              case atStart => exact ⟨0, F, Nat.zero_le _, rfl, HM.out, HIn.out.weak fun a b h => by omega, B⟩
              case round =>
                clear HM HIn F B
                obtain ⟨k, F, hkl, rfl, M, hIn, B⟩ := hrel
                have k0 : (0 : Int) ≤ (k : Int) := by omega
                by_cases hklt : k < l.length
                · have k1 : (k : Int) < (l.length : Int) := by omega
                  have ti := M.topCell (Nat.le_refl _) hilt2
                  have tm := M.topCell (Nat.le_refl _) hmlt
                  have cim := M.cell hilt2 hmlt
                  have cmk := M.cell hmlt hklt
                  have cik := M.cell hilt2 hklt
                  have fik := World.ownsRow.frozenAt (M.row i hilt2) k
                  have t1 := hIn.top i m
                  have t2 := hIn.top m k
                  have t3 := hIn.top i k
                  have q1 : IntKind.i64.wrap ((F i m : Int) + (F m k : Int)) = ((F i m + F m k : Nat) : Int) := by rw [IntKind.wrap_i64]; omega
                  have hge := HGE.out i hilt2
                  have cim' := cim
                  generalize hx : F i m = x at *
                  generalize hy : F m k = y at *
                  generalize hz : F i k = z at *
                  by_cases hlt : x + y < z
                  · have K := hid1 (hIn.less hilt2 hklt hmlt (by rw [hx, hy, hz]; exact hlt))
                    rw [hx, hy] at K
                    have zlt : ((x + y : Nat) : Int) < (z : Int) := by omega
                    have HM3 := hid1 fun q => (M.drew q).set (F' := fun a b => if a = i ∧ b = k then x + y else F a b) hilt2 (x + y) (k := k) fun _ _ _ _ => rfl
                    have HM2 := hid1 M
                    clear hIn hx hy hz cim' M
                    go_wp2
                    go_quiet (fail)
                    go_wp2
                    have ti' : (wr.drewN nq).cell? ⟨w.heap.size, i, none⟩ = some (.slice (some ⟨rb i, 0, none⟩) l.length l.length) := ti
                    have tm' : (wr.drewN nq).cell? ⟨w.heap.size, m, none⟩ = some (.slice (some ⟨rb m, 0, none⟩) l.length l.length) := tm
                    have a1 : (wr.drewN nq).cell? ⟨rb i, m, none⟩ = some (nv x) := cim
                    have a2 : (wr.drewN nq).cell? ⟨rb m, k, none⟩ = some (nv y) := cmk
                    have a3 : (wr.drewN nq).cell? ⟨rb i, k, none⟩ = some (nv z) := cik
                    have a4 : (wr.drewN nq).frozen? ⟨rb i, k, none⟩ = false := fik
                    have B7 := below_draws B nq
                    have M7 := HM3.out nq
                    have B8 := B7.setCell (p := ⟨rb i, k, none⟩) hge (nv (x + y))
                    clear ti tm cim cmk cik fik HM2 HM3 B t1 t2 t3
                    generalize wr.drewN nq = w7 at *
                    go_region
                    all_goals
                      go_wp2
                      exact ⟨⟨k + 1, _, by omega, by go_num, M7.drew 1, K.out.weak fun a b h => by omega, below_draws B8 1⟩, by simp [intOf]; omega⟩
                  · have K := hid1 (hIn.stay (i := i) (k := k) (by rw [hx, hy, hz]; omega))
                    have zlt : (z : Int) ≤ ((x + y : Nat) : Int) := by omega
                    have HM2 := hid1 M
                    clear hIn hx hy hz cim' M
                    go_wp2
                    go_quiet (fail)
                    go_wp2
                    exact ⟨⟨k + 1, F, by omega, by go_num, HM2.out.drew nq, K.out.weak fun a b h => by omega, below_draws B nq⟩, by simp [intOf]; omega⟩
                · have k1 : (l.length : Int) ≤ (k : Int) := by omega
                  have HK := hid1 (hIn.weak (done' := fun a b => a < i + 1 ∧ b < l.length) fun a b h => by omega)
                  clear hIn
                  go_wp2
                  exact ⟨⟨i + 1, F, by omega, by go_num, M, HK.out, B⟩, by simp [intOf]; omega⟩
            · have i1' : (l.length : Int) ≤ (i : Int) := by omega
              have HK := hid1 (HIn.out.next HFar.out (fun a b ha hb => ⟨by omega, hb⟩) hmlt)
              clear HIn
              go_wp2
              exact ⟨⟨m + 1, F, by omega, by go_num, HM.out, HK.out, B⟩, by simp [intOf]; omega⟩
        · have m1 : (l.length : Int) ≤ (m : Int) := by omega
          obtain rfl : m = l.length := by omega
          have HD := hid1 fun a k (ha : a < l.length) (hk : k < l.length) => HFar.out.dist (by omega) ha hk
          have HEq := hid1 fun a k t (ha : a < l.length) (hk : k < l.length) (ht : t < 1000) => HFar.out.eq (by omega) ha hk (t := t) ht
          have HTop := hid1 HFar.out.top
          have HPos := hid1 HFar.out.pos
          have HTc := hid1 fun W (g : Below wr.heap.size wr W) a (ha : a < l.length) => cell_below' (HM.out.topCell (Nat.le_refl _) ha) g
          have HCc := hid1 fun W (g : Below wr.heap.size wr W) a k (ha : a < l.length) (hk : k < l.length) => cell_below' (HM.out.cell ha hk) g
          clear HM HFar HGE
          generalize wr = w5 at *
          go_wp2
          go_loopw [10] (fun iv wx => ∃ i q : Nat, i ≤ l.length ∧ iv = .int .i64 i ∧ (∀ a, a < i → 1000 ≤ G a a) ∧ wx = w5.drewN q) (fun iv _ => l.length - (intOf iv).toNat)
          case atStart => exact ⟨0, 0, Nat.zero_le _, rfl, fun a h => by omega, rfl⟩
          case round =>
            obtain ⟨i, q, hil, rfl, hno, rfl⟩ := hrel
            have HNo := hid1 hno
            clear hno
            have i0 : (0 : Int) ≤ (i : Int) := by omega
            by_cases hilt2 : i < l.length
            · have i2 : (i : Int) < (l.length : Int) := by omega
              have ti := HTc.out (w5.drewN q) (below_draws (Below.refl _ w5) q) i hilt2
              have cii := HCc.out (w5.drewN q) (below_draws (Below.refl _ w5) q) i i hilt2 hilt2
              obtain ⟨hd1, hd2⟩ := HD.out i i hilt2 hilt2
              have htop := HTop.out i i
              have hpos := HPos.out i i
              by_cases hbig : 1000 ≤ G i i
              · have zb : (1000 : Int) ≤ (G i i : Int) := by omega
                have HNo2 : Hid (∀ a, a < i + 1 → 1000 ≤ G a a) := hid1 fun a ha => by
                  by_cases e : a = i
                  · rw [e]; exact hbig
                  · exact HNo.out a (by omega)
                clear hd1 hd2
                go_wp2
                exact ⟨⟨i + 1, q, by omega, by go_num, HNo2.out, rfl⟩, by simp [intOf]; omega⟩
              · have zb : (G i i : Int) < 1000 := by omega
                have HDi := hid1 (hd1 (by omega))
                have HNw : Hid (∀ j t, j < i → ¬ Ru.Walk l j j (t + 1)) := hid1 fun j t hj => (HD.out j j (by omega) (by omega)).2 (HNo.out j hj) t
                clear hd1 hd2 HNo
                generalize hL : G i i = L at *
                have zL : (L : Int) ≤ 1000 := by omega
                have qL : IntKind.i64.wrap ((L : Int) - 1) = ((L - 1 : Nat) : Int) := by rw [IntKind.wrap_i64]; omega
                have HRow : Hid (((w5.drewN q).alloc (.cells #[nv i] 3)).ownsRow w5.heap.size 3 1 (.slice (some ⟨w5.heap.size, 0, none⟩) 1 1) 1 ([i].map nv)) := hid1 ⟨rfl, .inr ⟨w5.heap.size, 1, #[nv i], rfl, Nat.le_refl _, by
                  show (w5.heap.push _)[w5.heap.size]? = _
                  simp, by omega, by omega, by simp, by simp⟩⟩
                have HB6 : Hid (Below w5.heap.size w5 ((w5.drewN q).alloc (.cells #[nv i] 3))) := hid1 ((below_draws (Below.refl _ w5) q).alloc (Nat.le_refl _) _)
                have ti2 := HTc.out _ HB6.out i hilt2
                have cii2 := HCc.out _ HB6.out i i hilt2 hilt2
                rw [hL] at cii2
                go_wp2
                generalize (w5.drewN q).alloc (.cells #[nv i] 3) = w6 at *
                clear ti2 cii2 ti cii
                have HP1 := hid1 (Ru.Part.first HDi.out)
                go_loopw [11, 12, 13] (fun ov av lv wx => ∃ (c : List Nat) (lf : Nat) (hc : c.length - 1 < c.length), c.length + lf = L ∧ wx.ownsRow w5.heap.size 3 1 ov c.length (c.map nv) ∧ av = nv c[c.length - 1] ∧ lv = .int .i64 lf ∧ Ru.Part l i L c ∧ Below w5.heap.size w5 wx) (fun _ _ lv _ => (intOf lv).toNat)
                case atStart => exact ⟨[i], L - 1, by simp, by simp; omega, HRow.out, rfl, rfl, HP1.out, HB6.out⟩
                case round =>
                  clear HRow HB6 HP1
                  obtain ⟨c, lf, hc, hcl, hrow, rfl, rfl, hP, B6⟩ := hrel
                  have HP := hid1 hP
                  clear hP
                  have f0 : (0 : Int) ≤ (lf : Int) := by omega
                  by_cases hlf : 0 < lf
                  · have f1 : (0 : Int) < (lf : Int) := by omega
                    have hfar := HP.out.far hc
                    have ha : c[c.length - 1] < l.length := by
                      have := hfar.2.1
                      rw [show L + 1 - c.length = lf + 1 by omega] at this
                      exact this.lt.1
                    rw [show L + 1 - c.length = (lf - 1) + 2 by omega] at hfar
                    obtain ⟨j0, hj1, hj2⟩ := hfar.first
                    rw [show lf - 1 + 1 = lf by omega] at hj2
                    obtain ⟨k0, -, ⟨hk1, hk2⟩, hk3⟩ := Ru.least_k (P := fun k => Ru.needs l c[c.length - 1] k = true ∧ Ru.Dist l k i lf) ⟨hj1, hj2⟩
                    have hk0 := (Ru.needs_lt hk1).2
                    have HMore := hid1 (HP.out.more (k := k0) (by omega) hk1 (by rw [show L - c.length = lf by omega]; exact hk2) (by rw [show L - c.length = lf by omega]; exact hk3))
                    have HNN := hid1 fun W (g : Below w5.heap.size w5 W) k (hk : k < l.length) => HN.out W (below_then B g) c[c.length - 1] k ha hk
                    have HHit : Hid (Ru.needs l c[c.length - 1] k0 = true ∧ G k0 i = lf) := hid1 ⟨hk1, (HEq.out k0 i lf hk0 hilt2 (by omega)).2 hk2⟩
                    have HMiss : Hid (∀ k, k < k0 → Ru.needs l c[c.length - 1] k = true → G k i ≠ lf) := hid1 fun k hk hn e => hk3 k hk ⟨hn, (HEq.out k i lf (by omega) hilt2 (by omega)).1 e⟩
                    clear hfar hj1 hj2 hk1 hk2 hk3 HP
                    have HRow := hid1 hrow
                    have HB6 := hid1 B6
                    clear hrow B6
                    generalize hat : c[c.length - 1] = at' at *
                    generalize wr = w7 at *
                    have hcl2 : c.length ≤ 1000 := by omega
                    have hml3 : c.length + 1 ≤ maxLen := by unfold maxLen; omega
                    have qlf : IntKind.i64.wrap ((lf : Int) - 1) = ((lf - 1 : Nat) : Int) := by rw [IntKind.wrap_i64]; omega
                    go_wp2
                    go_loopw [12, 14] (fun av kv wx => ∃ k q : Nat, k ≤ k0 ∧ kv = .int .i64 k ∧ av = nv at' ∧ wx = w7.drewN q) (fun _ kv _ => l.length - (intOf kv).toNat)
                    case atStart => exact ⟨0, 0, Nat.zero_le _, rfl, rfl, rfl⟩
                    case round =>
                      obtain ⟨k, q1, hkk, rfl, rfl, rfl⟩ := hrel
                      have k0' : (0 : Int) ≤ (k : Int) := by omega
                      have hkl : k < l.length := by omega
                      have k1 : (k : Int) < (l.length : Int) := by omega
                      have gk := below_draws HB6.out q1
                      have HC := HNN.out (w7.drewN q1) gk k hkl
                      have hgt := HTop.out k i
                      by_cases hkeq : k = k0
                      · subst hkeq
                        rw [HHit.out.1] at HC
                        have HGk := hid1 HHit.out.2
                        go_wp2_with fail
                        refine Calls.mono HC ?_
                        rintro e w8 ⟨rfl, q2, rfl⟩
                        have g8 := below_draws gk q2
                        have tk := HTc.out _ g8 k hkl
                        have ck := HCc.out _ g8 k i hkl hilt2
                        rw [HGk.out] at ck
                        have R8 : ((w7.drewN q1).drewN q2).ownsRow w5.heap.size 3 1 u11 c.length (c.map nv) := HRow.out
                        have hbz : w5.heap.size ≤ ((w7.drewN q1).drewN q2).heap.size := g8.size
                        clear HC HNN HMiss gk
                        generalize (w7.drewN q1).drewN q2 = w9 at *
                        go_wp2_with (at_builtin; refine wpList_append_own _ rfl _ _ 25 rfl w5.heap.size 3 i1 (.int .i64 0) 1 8 Tryz.underlying25 hI hI0 hI1 hI2 rfl (by decide) _ _ _ rfl (R8.alloc _) ⟨w9.heap.size, 0, none⟩ 1 1 [nv k] rfl rfl (cell_one_new _ _ _) (by simp [Value.oneCell']) hml3 (by omega) (by simp; omega) ?_; intro v' w10 hown' hgrow _)
                        refine ⟨⟨c ++ [k], lf - 1, by simp, by simp; omega, by simpa using hown', ?_, rfl, HMore.out, below_appended g8 hbz R8 hgrow⟩, by simp [intOf]; omega⟩
                        simp
                      · have hlt : k < k0 := by omega
                        cases hn2 : Ru.needs l at' k with
                        | false =>
                          rw [hn2] at HC
                          go_wp2_with fail
                          refine Calls.mono HC ?_
                          rintro e w8 ⟨rfl, q2, rfl⟩
                          clear HC
                          go_wp2
                          exact ⟨⟨k + 1, q1 + q2, by omega, by go_num, rfl, by simp [World.drewN]⟩, by simp [intOf]; omega⟩
                        | true =>
                          rw [hn2] at HC
                          have hne := HMiss.out k hlt hn2
                          have zne : ((G k i : Int) == (lf : Int)) = false := beq_eq_false_iff_ne.2 (by omega)
                          go_wp2_with fail
                          refine Calls.mono HC ?_
                          rintro e w8 ⟨rfl, q2, rfl⟩
                          have g8 := below_draws gk q2
                          have tk := HTc.out _ g8 k hkl
                          have ck := HCc.out _ g8 k i hkl hilt2
                          have tk2 : (w7.drewN (q1 + q2)).cell? ⟨w.heap.size, k, none⟩ = some (.slice (some ⟨rb k, 0, none⟩) l.length l.length) := tk
                          have ck2 : (w7.drewN (q1 + q2)).cell? ⟨rb k, i, none⟩ = some (nv (G k i)) := ck
                          clear HC
                          go_wp2
                          exact ⟨⟨k + 1, q1 + q2, by omega, by go_num, rfl, by simp [World.drewN]⟩, by simp [intOf]; omega⟩
                  · have f1 : (lf : Int) ≤ 0 := by omega
                    obtain rfl : lf = 0 := by omega
                    obtain rfl : c.length = L := by omega
                    have HC := hid1 (HP.out.done HNw.out HDi.out)
                    have hNI := (NRow.of_owns hrow).ni
                    clear HP hrow
                    go_wp2
                    go_ret
                    exact ⟨_, c, rfl, below_then B B6, HC.out, hNI⟩
            · have i2 : (l.length : Int) ≤ (i : Int) := by omega
              have HC : Hid (Ru.IsCycle l []) := hid1 ⟨fun _ a t hw => by
                have ha := hw.lt.1
                exact (HD.out a a ha ha).2 (HNo.out a (by omega)) t hw, fun h => by simp at h, fun j h => by simp at h⟩
              clear HNo
              go_wp2
              go_ret
              exact ⟨_, [], rfl, below_draws B q, HC.out, ⟨none, 0, rfl, fun h => absurd rfl h⟩⟩

/-- What GraphTells wants of CycleOf. -/
theorem cycleOf_tells : ∀ (W : World) v l, RRow W v l → l.length ≤ 41 → (∀ x ∈ l, x.Small) → Calls Tryz.prog 22 #[v] W fun e w' => ∃ u c, e = .returned u ∧ Below W.heap.size W w' ∧ Ru.IsCycle l c ∧ NIRow w' u c :=
  fun _ v l hr hl hS => CycleOf_calls v l hr hl hS
end Go.Proofs.YtmeplgihnlpjcaaGreatDoor
