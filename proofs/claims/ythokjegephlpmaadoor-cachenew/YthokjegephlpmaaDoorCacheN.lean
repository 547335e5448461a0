/- What the law CacheNew keeps in memory: a cache, and rows of texts apart from it. -/
import Derived.Test.YthokjegephlpmaaDoorCacheA
import Derived.Test.YthokjegephlpmaaDoorRIndex
import Derived.Deep.AppendLies
namespace Go.Proofs.YthokjegephlpmaaDoor
open Go.RowKit Go.Shelf Go.Lib

theorem Cf.kept_get_put {m : Nat} (hm : 1 ≤ m) (A : Cf.Ens) (k b : List UInt8) : Cf.put m (Cf.get m (Cf.kept m A) k) k b = Cf.kept m (A ++ [(k, b)]) := by
  unfold Cf.get
  split
  · rename_i s hs
    rw [Cf.kept_put hm, Cf.kept_put hm, Cf.kept_twice]
  · exact Cf.kept_put hm A k b
theorem Cf.kept_get {m : Nat} (hm : 1 ≤ m) (A : Cf.Ens) (k s : List UInt8) (h : Cf.find (Cf.kept m A) k = some s) : Cf.get m (Cf.kept m A) k = Cf.kept m (A ++ [(k, s)]) := by
  unfold Cf.get
  rw [h]
  exact Cf.kept_put hm A k s
theorem Cf.get_none {m : Nat} {l : Cf.Ens} {k : List UInt8} (h : Cf.find l k = none) : Cf.get m l k = l := by
  unfold Cf.get
  rw [h]

theorem own_ltS {W : World} {B : Nat} {e : TypeId} {s n : Nat} {v : Value} {xs : List Value} (h : W.ownsRow B e s v n xs) : ∀ g, v.ownBlock = some g → B ≤ g ∧ g < W.heap.size := by
  intro g hg
  rcases h.2 with ⟨rfl, _⟩ | ⟨g', cap, cur, rfl, hb, hc, _⟩
  · simp [Value.ownBlock] at hg
  · simp only [Value.ownBlock, Option.some.injEq] at hg
    subst hg
    exact ⟨hb, (Array.getElem?_eq_some_iff.1 hc).1⟩
theorem own_sameS {W W' : World} {B : Nat} {e : TypeId} {s n : Nat} {v : Value} {xs : List Value} (h : W.ownsRow B e s v n xs) (hb : ∀ g, v.ownBlock = some g → W'.heap[g]? = W.heap[g]?) : W'.ownsRow B e s v n xs := by
  refine ⟨h.1, ?_⟩
  rcases h.2 with h1 | ⟨g, cap, cur, rfl, h2, h3, h4⟩
  · exact .inl h1
  · exact .inr ⟨g, cap, cur, rfl, h2, (hb g rfl).trans h3, h4⟩

/-- While the acts run. -/
structure NewSt (At : (Nat → Prop) → World → Value → Nat → Cf.Ens → Prop) (B : Nat) (W0 w : World) (p : Addr) (m : Nat) (cl : Cf.Ens) (S : Nat → Prop) (lv : Value) (L1 : List (List UInt8)) (bv : Value) (L2 : List (List UInt8)) : Prop where
  lies : At S w (.pointer (some p)) m cl
  low : ∀ k, S k → B ≤ k
  below : Below B W0 w
  size : B ≤ w.heap.size
  last : w.ownsRow B 9 1 lv L1.length (L1.map sv)
  bytes : w.ownsRow B 9 1 bv L2.length (L2.map sv)
  farl : ∀ k, lv.ownBlock = some k → ¬ S k
  farb : ∀ k, bv.ownBlock = some k → ¬ S k
  two : ∀ k, lv.ownBlock = some k → bv.ownBlock ≠ some k
theorem NewSt.grown {es : Nat → Addr} {At : (Nat → Prop) → World → Value → Nat → Cf.Ens → Prop} (HC : Caches es At) {B : Nat} {W0 w w' : World} {p : Addr} {m : Nat} {cl : Cf.Ens} {S : Nat → Prop} {lv bv : Value} {L1 L2 : List (List UInt8)} (h : NewSt At B W0 w p m cl S lv L1 bv L2) (hb : Below w.heap.size w w') : NewSt At B W0 w' p m cl S lv L1 bv L2 :=
  ⟨HC.same S w w' _ m cl h.lies hb.size fun k hk => hb.block k (HC.lt S w _ m cl h.lies k hk), h.low, h.below.trans (hb.mono h.size), Nat.le_trans h.size hb.size, own_sameS h.last fun g hg => hb.block g (own_ltS h.last g hg).2, own_sameS h.bytes fun g hg => hb.block g (own_ltS h.bytes g hg).2, h.farl, h.farb, h.two⟩
theorem NewSt.acted {At : (Nat → Prop) → World → Value → Nat → Cf.Ens → Prop} {B : Nat} {W0 w w' : World} {p : Addr} {m : Nat} {cl cl' : Cf.Ens} {S S' : Nat → Prop} {lv bv : Value} {L1 L2 : List (List UInt8)} (h : NewSt At B W0 w p m cl S lv L1 bv L2) (o : Only S w w') (a : At S' w' (.pointer (some p)) m cl') (hS : ∀ j, S' j → S j ∨ w.heap.size ≤ j) : NewSt At B W0 w' p m cl' S' lv L1 bv L2 := by
  obtain ⟨g1, z1, t1⟩ := Only.step h.below h.size h.low o hS
  have hl := own_ltS h.last
  have hb := own_ltS h.bytes
  refine ⟨a, t1, g1, z1, own_sameS h.last fun g hg => o.block g (hl g hg).2 (h.farl g hg), own_sameS h.bytes fun g hg => o.block g (hb g hg).2 (h.farb g hg), fun k hk hs => ?_, fun k hk hs => ?_, h.two⟩
  · rcases hS k hs with h1 | h1
    · exact h.farl k hk h1
    · have := (hl k hk).2; omega
  · rcases hS k hs with h1 | h1
    · exact h.farb k hk h1
    · have := (hb k hk).2; omega
theorem NewSt.pushl {es : Nat → Addr} {At : (Nat → Prop) → World → Value → Nat → Cf.Ens → Prop} (HC : Caches es At) {B : Nat} {W0 w w1 w' : World} {p : Addr} {m : Nat} {cl : Cf.Ens} {S : Nat → Prop} {lv bv : Value} {L1 L2 : List (List UInt8)} {x : List UInt8} {g cap : Nat} (h : NewSt At B W0 w p m cl S lv L1 bv L2) (hb : Below w.heap.size w w1) (hg : w1.grownBy w' lv.ownBlock)
    (ho : w'.ownsRow B 9 1 (.slice (some ⟨g, 0, none⟩) (L1.length + 1) cap) (L1.length + 1) (L1.map sv ++ [sv x])) (hat : lv.ownBlock = some g ∨ g = w1.heap.size) : NewSt At B W0 w' p m cl S (.slice (some ⟨g, 0, none⟩) (L1.length + 1) cap) (L1 ++ [x]) bv L2 := by
  have h1 := h.grown HC hb
  have hSl := HC.lt S w1 _ m cl h1.lies
  have hl := own_ltS h1.last
  have hbl := own_ltS h1.bytes
  refine ⟨HC.same S w1 w' _ m cl h1.lies hg.size fun k hk => hg.block k (hSl k hk) fun e => h1.farl k e.symm hk, h.low, h1.below.grown hg h1.size fun j e => (hl j e).1, Nat.le_trans h1.size hg.size, by simpa using ho, own_sameS h1.bytes fun k hk => hg.block k (hbl k hk).2 fun e => h1.two k e.symm hk, ?_, h.farb, ?_⟩
  · rintro k hk
    simp only [Value.ownBlock, Option.some.injEq] at hk
    subst hk
    rcases hat with h2 | h2
    · exact h.farl _ h2
    · intro hs; have := hSl _ hs; omega
  · rintro k hk
    simp only [Value.ownBlock, Option.some.injEq] at hk
    subst hk
    rcases hat with h2 | h2
    · exact h.two _ h2
    · intro e; have := (hbl _ e).2; omega
theorem NewSt.pushb {es : Nat → Addr} {At : (Nat → Prop) → World → Value → Nat → Cf.Ens → Prop} (HC : Caches es At) {B : Nat} {W0 w w1 w' : World} {p : Addr} {m : Nat} {cl : Cf.Ens} {S : Nat → Prop} {lv bv : Value} {L1 L2 : List (List UInt8)} {x : List UInt8} {g cap : Nat} (h : NewSt At B W0 w p m cl S lv L1 bv L2) (hb : Below w.heap.size w w1) (hg : w1.grownBy w' bv.ownBlock)
    (ho : w'.ownsRow B 9 1 (.slice (some ⟨g, 0, none⟩) (L2.length + 1) cap) (L2.length + 1) (L2.map sv ++ [sv x])) (hat : bv.ownBlock = some g ∨ g = w1.heap.size) : NewSt At B W0 w' p m cl S lv L1 (.slice (some ⟨g, 0, none⟩) (L2.length + 1) cap) (L2 ++ [x]) := by
  have h1 := h.grown HC hb
  have hSl := HC.lt S w1 _ m cl h1.lies
  have hl := own_ltS h1.last
  have hbl := own_ltS h1.bytes
  refine ⟨HC.same S w1 w' _ m cl h1.lies hg.size fun k hk => hg.block k (hSl k hk) fun e => h1.farb k e.symm hk, h.low, h1.below.grown hg h1.size fun j e => (hbl j e).1, Nat.le_trans h1.size hg.size, own_sameS h1.last fun k hk => hg.block k (hl k hk).2 fun e => h1.two k hk e.symm, by simpa using ho, h.farl, ?_, ?_⟩
  · rintro k hk
    simp only [Value.ownBlock, Option.some.injEq] at hk
    subst hk
    rcases hat with h2 | h2
    · exact h.farb _ h2
    · intro hs; have := hSl _ hs; omega
  · rintro k hk e
    simp only [Value.ownBlock, Option.some.injEq] at e
    subst e
    rcases hat with h2 | h2
    · exact h.two _ hk h2
    · have := (hl _ hk).2; omega

/-- A row of texts that stands, apart from the cache, ahead of B3. -/
def IFar (S : Nat → Prop) (B3 : Nat) (w : World) (v : Value) (l : List (List UInt8)) : Prop :=
  ∃ p cap, v = .slice p l.length cap ∧ (l ≠ [] → ∃ g o, p = some ⟨g, o, none⟩ ∧ ¬ S g ∧ g < B3 ∧ g < w.heap.size ∧ ∀ j (hj : j < l.length), w.cell? ⟨g, o + j, none⟩ = some (.string (ba l[j])))
theorem IFar.of_owns {S : Nat → Prop} {B : Nat} {w : World} {v : Value} {l : List (List UInt8)} (h : w.ownsRow B 9 1 v l.length (l.map sv)) (hf : ∀ k, v.ownBlock = some k → ¬ S k) : IFar S w.heap.size w v l := by
  rcases h.2 with ⟨rfl, hn⟩ | ⟨g, cap, cur, rfl, _, hb, h1, _, _, h4⟩
  · exact ⟨none, 0, by rw [hn], fun hl => absurd (List.length_eq_zero_iff.1 hn) hl⟩
  · have hg := (Array.getElem?_eq_some_iff.1 hb).1
    refine ⟨_, cap, rfl, fun _ => ⟨g, 0, rfl, hf g rfl, hg, hg, fun j hj => ?_⟩⟩
    have := congrArg (fun x => x[j]?) h4
    simp only [Nat.mul_one, List.getElem?_take, hj, if_true, List.getElem?_map, List.getElem?_eq_getElem hj, Option.map_some, Array.getElem?_toList] at this
    rw [Nat.zero_add]
    exact cell_of_row hb this
theorem IFar.only {S S' : Nat → Prop} {B3 : Nat} {w w' : World} {v : Value} {l : List (List UInt8)} (h : IFar S B3 w v l) (o : Only S w w') (hS : ∀ j, S' j → S j ∨ w.heap.size ≤ j) : IFar S' B3 w' v l := by
  obtain ⟨p, cap, e, h1⟩ := h
  refine ⟨p, cap, e, fun hl => ?_⟩
  obtain ⟨g, o', e, hs, h3, hg, hc⟩ := h1 hl
  exact ⟨g, o', e, fun h2 => by
    rcases hS g h2 with h4 | h4
    · exact hs h4
    · omega, h3, Nat.lt_of_lt_of_le hg o.size, fun j hj => (World.cell?_of_block (a := ⟨g, o' + j, none⟩) (o.block g hg hs)).trans (hc j hj)⟩
theorem IFar.blocks {S : Nat → Prop} {B3 : Nat} {w w' : World} {v : Value} {l : List (List UInt8)} (h : IFar S B3 w v l) (hz : w.heap.size ≤ w'.heap.size) (hb : ∀ k, k < w.heap.size → k < B3 → w'.heap[k]? = w.heap[k]?) : IFar S B3 w' v l := by
  obtain ⟨p, cap, e, h1⟩ := h
  refine ⟨p, cap, e, fun hl => ?_⟩
  obtain ⟨g, o', e, hs, h3, hg, hc⟩ := h1 hl
  exact ⟨g, o', e, hs, h3, Nat.lt_of_lt_of_le hg hz, fun j hj => (World.cell?_of_block (a := ⟨g, o' + j, none⟩) (hb g hg h3)).trans (hc j hj)⟩

/-- While what is kept is asked for. -/
structure EndSt (At : (Nat → Prop) → World → Value → Nat → Cf.Ens → Prop) (B B3 : Nat) (W0 w : World) (p : Addr) (m : Nat) (cl : Cf.Ens) (S : Nat → Prop) (lv : Value) (L1 : List (List UInt8)) (bv : Value) (L2 : List (List UInt8)) (nv : Value) (sn : List (List UInt8)) : Prop where
  lies : At S w (.pointer (some p)) m cl
  low : ∀ k, S k → B ≤ k
  below : Below B W0 w
  size : B3 ≤ w.heap.size
  size2 : B ≤ B3
  last : IFar S B3 w lv L1
  bytes : IFar S B3 w bv L2
  seen : w.ownsRow B3 9 1 nv sn.length (sn.map sv)
  far : ∀ k, nv.ownBlock = some k → ¬ S k
theorem NewSt.turn {At : (Nat → Prop) → World → Value → Nat → Cf.Ens → Prop} {B : Nat} {W0 w : World} {p : Addr} {m : Nat} {cl : Cf.Ens} {S : Nat → Prop} {lv bv : Value} {L1 L2 : List (List UInt8)} (h : NewSt At B W0 w p m cl S lv L1 bv L2) : EndSt At B w.heap.size W0 w p m cl S lv L1 bv L2 (.slice none 0 0) [] :=
  ⟨h.lies, h.low, h.below, Nat.le_refl _, h.size, .of_owns h.last h.farl, .of_owns h.bytes h.farb, World.ownsRow_nil _ _ _ _, fun k hk => by simp [Value.ownBlock] at hk⟩
theorem EndSt.acted {At : (Nat → Prop) → World → Value → Nat → Cf.Ens → Prop} {B B3 : Nat} {W0 w w' : World} {p : Addr} {m : Nat} {cl cl' : Cf.Ens} {S S' : Nat → Prop} {lv bv nv : Value} {L1 L2 sn : List (List UInt8)} (h : EndSt At B B3 W0 w p m cl S lv L1 bv L2 nv sn) (o : Only S w w') (a : At S' w' (.pointer (some p)) m cl') (hS : ∀ j, S' j → S j ∨ w.heap.size ≤ j) : EndSt At B B3 W0 w' p m cl' S' lv L1 bv L2 nv sn := by
  obtain ⟨g1, z1, t1⟩ := Only.step h.below (Nat.le_trans h.size2 h.size) h.low o hS
  have hl := own_ltS h.seen
  refine ⟨a, t1, g1, Nat.le_trans h.size o.size, h.size2, h.last.only o hS, h.bytes.only o hS, own_sameS h.seen fun g hg => o.block g (hl g hg).2 (h.far g hg), fun k hk hs => ?_⟩
  rcases hS k hs with h1 | h1
  · exact h.far k hk h1
  · have := (hl k hk).2; omega
theorem EndSt.push {es : Nat → Addr} {At : (Nat → Prop) → World → Value → Nat → Cf.Ens → Prop} (HC : Caches es At) {B B3 : Nat} {W0 w w1 w' : World} {p : Addr} {m : Nat} {cl : Cf.Ens} {S : Nat → Prop} {lv bv nv : Value} {L1 L2 sn : List (List UInt8)} {x : List UInt8} {g cap : Nat} (h : EndSt At B B3 W0 w p m cl S lv L1 bv L2 nv sn) (hb : Below w.heap.size w w1) (hg : w1.grownBy w' nv.ownBlock)
    (ho : w'.ownsRow B3 9 1 (.slice (some ⟨g, 0, none⟩) (sn.length + 1) cap) (sn.length + 1) (sn.map sv ++ [sv x])) (hat : nv.ownBlock = some g ∨ g = w1.heap.size) : EndSt At B B3 W0 w' p m cl S lv L1 bv L2 (.slice (some ⟨g, 0, none⟩) (sn.length + 1) cap) (sn ++ [x]) := by
  have hz := hb.size
  have hSl := HC.lt S w _ m cl h.lies
  have hl := own_ltS h.seen
  have key : ∀ k, k < w.heap.size → nv.ownBlock ≠ some k → w'.heap[k]? = w.heap[k]? := fun k hk hne => (hg.block k (by omega) fun e => hne e.symm).trans (hb.block k hk)
  have hlow : ∀ k, k < w.heap.size → k < B3 → w'.heap[k]? = w.heap[k]? := fun k hk h3 => key k hk fun e => by have := (hl k e).1; omega
  have hz2 : w.heap.size ≤ w'.heap.size := Nat.le_trans hz hg.size
  refine ⟨HC.same S w w' _ m cl h.lies hz2 fun k hk => key k (hSl k hk) fun e => h.far k e hk, h.low, ?_, Nat.le_trans h.size hz2, h.size2, h.last.blocks hz2 hlow, h.bytes.blocks hz2 hlow, by simpa using ho, ?_⟩
  · exact (h.below.trans (hb.mono (Nat.le_trans h.size2 h.size))).grown hg (by have := h.size; have := h.size2; omega) fun j e => by have := (hl j e).1; have := h.size2; omega
  · rintro k hk
    simp only [Value.ownBlock, Option.some.injEq] at hk
    subst hk
    rcases hat with h2 | h2
    · exact h.far _ h2
    · intro hs; have := hSl _ hs; omega
end Go.Proofs.YthokjegephlpmaaDoor
