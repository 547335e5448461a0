import Derived.Test.YtflbofdpfgkmcaaGreatDoorOP22
namespace Go.Proofs.YtflbofdpfgkmcaaGreatDoor
open Go.RowKit Go.Shelf Go.Lib Go.Maps
abbrev wts : Nat → Bf.St := fun _ => .waits
structure Mk (es : Nat → Addr) (W0 W : World) (dom : Nat → Prop) (L : Lay) (ru : Nat → Ru) (ins : Nat → List Inp) : Prop where
  base : Below W0.heap.size W0 W
  steps : Steps W es dom L ru ins wts
  low : ∀ j, SBlk dom L j → W0.heap.size ≤ j
  sepU : ∀ i j, dom i → dom j → i ≠ j → ∀ b, (L.uv i).ownBlock = some b → (L.uv j).ownBlock ≠ some b
  sepI : ∀ i j, dom i → dom j → i ≠ j → ∀ b, (L.iv i).ownBlock = some b → (L.iv j).ownBlock ≠ some b
theorem Mk.below {es : Nat → Addr} {W0 W W' : World} {dom : Nat → Prop} {L : Lay} {ru : Nat → Ru} {ins : Nat → List Inp} (h : Mk es W0 W dom L ru ins) (hb : Below W.heap.size W W') : Mk es W0 W' dom L ru ins :=
  ⟨below_then h.base hb, h.steps.below hb, h.low, h.sepU, h.sepI⟩
def updN {α : Type} (f : Nat → α) (i : Nat) (x : α) : Nat → α := fun j => if j = i then x else f j
theorem updN_same {α : Type} (f : Nat → α) (i : Nat) (x : α) : updN f i x i = x := if_pos rfl
theorem updN_other {α : Type} {f : Nat → α} {i j : Nat} {x : α} (h : j ≠ i) : updN f i x j = f j := if_neg h
def Lay.addU (L : Lay) (k x : Nat) (v : Value) : Lay := { L with uv := updN L.uv k v, us := updN L.us k (L.us k ++ [x]) }
def Lay.setI (L : Lay) (k : Nat) (v : Value) : Lay := { L with iv := updN L.iv k v }
theorem lie_lt {W : World} {o : Obj} {v : Value} {g8 : Nat} (hl : v.ownBlock = some g8 ∨ g8 = (W.alloc o).heap.size) : v.ownBlock = some g8 ∨ W.heap.size ≤ g8 := by
  rcases hl with h | h
  · exact .inl h
  · exact .inr (by rw [h]; simp)
theorem Mk.appU {es : Nat → Addr} {W0 W w8 : World} {dom : Nat → Prop} {L : Lay} {ru : Nat → Ru} {ins : Nat → List Inp} (h : Mk es W0 W dom L ru ins) {k x : Nat} (hk : dom k) (hx : dom x) {o : Obj} {g8 cap8 : Nat} (hown : w8.ownsRow 0 186 1 (.slice (some ⟨g8, 0, none⟩) ((L.us k).length + 1) cap8) ((L.us k).length + 1) (usC L.sp (L.us k) ++ [Ptr (L.sp x)])) (hg : (W.alloc o).grownBy w8 (L.uv k).ownBlock) (hl : (L.uv k).ownBlock = some g8 ∨ g8 = (W.alloc o).heap.size) :
    w8.cell? ⟨L.sp k, 3, none⟩ = some (L.uv k) ∧ w8.frozen? ⟨L.sp k, 3, none⟩ = false ∧ L.sp k < w8.heap.size ∧
    Mk es W0 (w8.setCell ⟨L.sp k, 3, none⟩ (.slice (some ⟨g8, 0, none⟩) ((L.us k).length + 1) cap8)) dom (L.addU k x (.slice (some ⟨g8, 0, none⟩) ((L.us k).length + 1) cap8)) ru ins ∧
    Only (SBlk dom L) W (w8.setCell ⟨L.sp k, 3, none⟩ (.slice (some ⟨g8, 0, none⟩) ((L.us k).length + 1) cap8)) ∧
    ∀ j, SBlk dom (L.addU k x (.slice (some ⟨g8, 0, none⟩) ((L.us k).length + 1) cap8)) j → SBlk dom L j ∨ W.heap.size ≤ j := by
  generalize hv8 : Value.slice (some ⟨g8, 0, none⟩) ((L.us k).length + 1) cap8 = v8 at *
  have hS := h.steps
  have hlt := hS.lt
  have hza : (W.alloc o).heap.size = W.heap.size + 1 := by simp
  have hz8 := hg.size
  have hown8 : v8.ownBlock = some g8 := by rw [← hv8]; rfl
  obtain ⟨c8, h8⟩ := own_in hown hown8.symm
  have hl' := lie_lt hl
  have key : ∀ j, j < W.heap.size → some j ≠ (L.uv k).ownBlock → w8.heap[j]? = W.heap[j]? := fun j hj hn => (hg.block j (by omega) hn).trans (((Below.refl _ W).alloc (Nat.le_refl _) o).block j hj)
  have hne1 : some (L.sp k) ≠ (L.uv k).ownBlock := fun e => by
    obtain ⟨_, e'⟩ := own_in (hS.usR k hk) e
    rw [hS.step k hk] at e'
    cases e'
  have hkl := hlt (L.sp k) ⟨k, hk, .inl rfl⟩
  have r8 := (key (L.sp k) hkl hne1).trans (hS.step k hk)
  have hcs : ∀ j, j ≠ L.sp k → (w8.setCell ⟨L.sp k, 3, none⟩ v8).heap[j]? = w8.heap[j]? := fun j hj => Below.heap_setCell w8 _ _ j hj
  have hg8 : g8 ≠ L.sp k := fun e => by rw [e, r8] at h8; cases h8
  have hto : ∀ j, j < W.heap.size → some j ≠ (L.uv k).ownBlock → j ≠ L.sp k → (w8.setCell ⟨L.sp k, 3, none⟩ v8).heap[j]? = W.heap[j]? := fun j hj hn hn2 => (hcs j hn2).trans (key j hj hn)
  have hblk : ∀ j, SBlk dom (L.addU k x v8) j → SBlk dom L j ∨ W.heap.size ≤ j := by
    rintro j ⟨i, hi, e | e | e⟩
    · exact .inl ⟨i, hi, .inl e⟩
    · exact .inl ⟨i, hi, .inr (.inl e)⟩
    · by_cases ek : i = k
      · subst ek
        have e' : some j = v8.ownBlock := by
          have : (L.addU i x v8).uv i = v8 := updN_same _ _ _
          rw [this] at e
          exact e
        rw [hown8] at e'
        obtain rfl : j = g8 := by simpa using e'
        rcases hl' with h1 | h1
        · exact .inl ⟨i, hi, .inr (.inr h1.symm)⟩
        · exact .inr h1
      · have : (L.addU k x v8).uv i = L.uv i := updN_other ek
        rw [this] at e
        exact .inl ⟨i, hi, .inr (.inr e)⟩
  refine ⟨cell_of_row (j := 3) r8 rfl, by simp [World.frozen?, r8], by omega, ⟨?_, ?_, ?_, ?_, h.sepI⟩, ?_, hblk⟩
  · refine ⟨?_, ?_, ?_, ?_, fun j hj => ?_⟩
    · exact hg.os.trans h.base.os
    · exact hg.tape.trans h.base.tape
    · exact hg.output.trans h.base.output
    · have := h.base.size
      simp
      omega
    · have hb := h.base.size
      refine (hto j (by omega) (fun e => ?_) fun e => ?_).trans (h.base.block j hj)
      · have := h.low j ⟨k, hk, .inr (.inr e)⟩
        omega
      · have := h.low j ⟨k, hk, .inl e⟩
        omega
  · refine ⟨fun i hi => ?_, hS.inj, fun i hi => ?_, fun i hi => ?_, hS.insD, fun i hi j hj => ?_⟩
    · by_cases e : i = k
      · subst e
        show (w8.setCell ⟨L.sp i, 3, none⟩ v8).heap[L.sp i]? = _
        rw [heap_setCell_same w8 _ _ _ _ _ r8, show (L.addU i x v8).uv i = v8 from updN_same _ _ _]
        rfl
      · have e1 : L.sp i ≠ L.sp k := fun e' => e (hS.inj _ _ hi hk e')
        have e2 : some (L.sp i) ≠ (L.uv k).ownBlock := fun e' => by
          obtain ⟨_, e''⟩ := own_in (hS.usR k hk) e'
          rw [hS.step i hi] at e''
          cases e''
        rw [show (L.addU k x v8).uv i = L.uv i from updN_other e]
        exact (hto _ (hlt _ ⟨i, hi, .inl rfl⟩) e2 e1).trans (hS.step i hi)
    · refine own_same (hS.insR i hi) fun j hj => hto j (hlt j ⟨i, hi, .inr (.inl hj)⟩) (fun e' => ?_) fun e' => ?_
      · obtain ⟨_, a1⟩ := own_in (hS.usR k hk) e'
        obtain ⟨_, a2⟩ := own_in (hS.insR i hi) hj
        rw [a1] at a2
        cases a2
      · obtain ⟨_, a2⟩ := own_in (hS.insR i hi) hj
        rw [e', hS.step k hk] at a2
        cases a2
    · by_cases e : i = k
      · subst e
        rw [show (L.addU i x v8).uv i = v8 from updN_same _ _ _, show (L.addU i x v8).us i = L.us i ++ [x] from updN_same _ _ _]
        have : usC L.sp (L.us i ++ [x]) = usC L.sp (L.us i) ++ [Ptr (L.sp x)] := by simp [usC]
        show (w8.setCell ⟨L.sp i, 3, none⟩ v8).ownsRow 0 186 1 v8 (L.us i ++ [x]).length (usC L.sp (L.us i ++ [x]))
        rw [this, List.length_append, List.length_singleton]
        exact own_same hown fun j hj => hcs j fun e' => by
          rw [hown8] at hj
          have : j = g8 := by simpa using hj
          exact hg8 (by omega)
      · rw [show (L.addU k x v8).uv i = L.uv i from updN_other e, show (L.addU k x v8).us i = L.us i from updN_other e]
        refine own_same (hS.usR i hi) fun j hj => hto j (hlt j ⟨i, hi, .inr (.inr hj)⟩) (fun e' => ?_) fun e' => ?_
        · exact h.sepU i k hi hk e j hj.symm e'.symm
        · obtain ⟨_, a2⟩ := own_in (hS.usR i hi) hj
          rw [e', hS.step k hk] at a2
          cases a2
    · by_cases e : i = k
      · subst e
        rw [show (L.addU i x v8).us i = L.us i ++ [x] from updN_same _ _ _] at hj
        rcases List.mem_append.1 hj with h1 | h1
        · exact hS.usD i hi j h1
        · rw [List.mem_singleton.1 h1]; exact hx
      · rw [show (L.addU k x v8).us i = L.us i from updN_other e] at hj
        exact hS.usD i hi j hj
  · intro j hj
    rcases hblk j hj with h1 | h1
    · exact h.low j h1
    · have := h.base.size
      omega
  · intro i j hi hj hne b hb
    by_cases ei : i = k
    · subst ei
      rw [show (L.addU i x v8).uv i = v8 from updN_same _ _ _, hown8] at hb
      have hbg : b = g8 := by simpa using hb.symm
      rw [show (L.addU i x v8).uv j = L.uv j from updN_other fun e => hne e.symm]
      intro e
      rcases hl' with h1 | h1
      · exact h.sepU i j hi hj hne b (by rw [hbg]; exact h1) e
      · have := hlt b ⟨j, hj, .inr (.inr e.symm)⟩
        omega
    · rw [show (L.addU k x v8).uv i = L.uv i from updN_other ei] at hb
      by_cases ej : j = k
      · subst ej
        rw [show (L.addU j x v8).uv j = v8 from updN_same _ _ _, hown8]
        intro e
        have hbg : b = g8 := by simpa using e.symm
        rcases hl' with h1 | h1
        · exact h.sepU i j hi hj hne b hb (by rw [hbg]; exact h1)
        · have := hlt b ⟨i, hi, .inr (.inr hb.symm)⟩
          omega
      · rw [show (L.addU k x v8).uv j = L.uv j from updN_other ej]
        exact h.sepU i j hi hj hne b hb
  · refine ⟨hg.os, hg.tape, hg.output, by simp; omega, fun j hj hn => hto j hj (fun e => hn ⟨k, hk, .inr (.inr e)⟩) fun e => hn ⟨k, hk, .inl e⟩⟩
theorem Mk.appI {es : Nat → Addr} {W0 W w8 : World} {dom : Nat → Prop} {L : Lay} {ru : Nat → Ru} {ins : Nat → List Inp} (h : Mk es W0 W dom L ru ins) {k : Nat} (hk : dom k) (x : Inp) (hx : ∀ j, x = .rule j → dom j) {o : Obj} {g8 cap8 : Nat} (hown : w8.ownsRow 0 235 3 (.slice (some ⟨g8, 0, none⟩) ((ins k).length + 1) cap8) ((ins k).length + 1) (insC L.sp (ins k) ++ x.vals L.sp)) (hg : (W.alloc o).grownBy w8 (L.iv k).ownBlock) (hl : (L.iv k).ownBlock = some g8 ∨ g8 = (W.alloc o).heap.size) :
    w8.cell? ⟨L.sp k, 2, none⟩ = some (L.iv k) ∧ w8.frozen? ⟨L.sp k, 2, none⟩ = false ∧ L.sp k < w8.heap.size ∧
    Mk es W0 (w8.setCell ⟨L.sp k, 2, none⟩ (.slice (some ⟨g8, 0, none⟩) ((ins k).length + 1) cap8)) dom (L.setI k (.slice (some ⟨g8, 0, none⟩) ((ins k).length + 1) cap8)) ru (updN ins k (ins k ++ [x])) ∧
    Only (SBlk dom L) W (w8.setCell ⟨L.sp k, 2, none⟩ (.slice (some ⟨g8, 0, none⟩) ((ins k).length + 1) cap8)) ∧
    ∀ j, SBlk dom (L.setI k (.slice (some ⟨g8, 0, none⟩) ((ins k).length + 1) cap8)) j → SBlk dom L j ∨ W.heap.size ≤ j := by
  generalize hv8 : Value.slice (some ⟨g8, 0, none⟩) ((ins k).length + 1) cap8 = v8 at *
  have hS := h.steps
  have hlt := hS.lt
  have hza : (W.alloc o).heap.size = W.heap.size + 1 := by simp
  have hz8 := hg.size
  have hown8 : v8.ownBlock = some g8 := by rw [← hv8]; rfl
  obtain ⟨c8, h8⟩ := own_in hown hown8.symm
  have hl' := lie_lt hl
  have key : ∀ j, j < W.heap.size → some j ≠ (L.iv k).ownBlock → w8.heap[j]? = W.heap[j]? := fun j hj hn => (hg.block j (by omega) hn).trans (((Below.refl _ W).alloc (Nat.le_refl _) o).block j hj)
  have hne1 : some (L.sp k) ≠ (L.iv k).ownBlock := fun e => by
    obtain ⟨_, e'⟩ := own_in (hS.insR k hk) e
    rw [hS.step k hk] at e'
    cases e'
  have hkl := hlt (L.sp k) ⟨k, hk, .inl rfl⟩
  have r8 := (key (L.sp k) hkl hne1).trans (hS.step k hk)
  have hcs : ∀ j, j ≠ L.sp k → (w8.setCell ⟨L.sp k, 2, none⟩ v8).heap[j]? = w8.heap[j]? := fun j hj => Below.heap_setCell w8 _ _ j hj
  have hg8 : g8 ≠ L.sp k := fun e => by rw [e, r8] at h8; cases h8
  have hto : ∀ j, j < W.heap.size → some j ≠ (L.iv k).ownBlock → j ≠ L.sp k → (w8.setCell ⟨L.sp k, 2, none⟩ v8).heap[j]? = W.heap[j]? := fun j hj hn hn2 => (hcs j hn2).trans (key j hj hn)
  have hblk : ∀ j, SBlk dom (L.setI k v8) j → SBlk dom L j ∨ W.heap.size ≤ j := by
    rintro j ⟨i, hi, e | e | e⟩
    · exact .inl ⟨i, hi, .inl e⟩
    · by_cases ek : i = k
      · subst ek
        have e' : some j = v8.ownBlock := by
          have : (L.setI i v8).iv i = v8 := updN_same _ _ _
          rw [this] at e
          exact e
        rw [hown8] at e'
        obtain rfl : j = g8 := by simpa using e'
        rcases hl' with h1 | h1
        · exact .inl ⟨i, hi, .inr (.inl h1.symm)⟩
        · exact .inr h1
      · have : (L.setI k v8).iv i = L.iv i := updN_other ek
        rw [this] at e
        exact .inl ⟨i, hi, .inr (.inl e)⟩
    · exact .inl ⟨i, hi, .inr (.inr e)⟩
  refine ⟨cell_of_row (j := 2) r8 rfl, by simp [World.frozen?, r8], by omega, ⟨?_, ?_, ?_, h.sepU, ?_⟩, ?_, hblk⟩
  · refine ⟨?_, ?_, ?_, ?_, fun j hj => ?_⟩
    · exact hg.os.trans h.base.os
    · exact hg.tape.trans h.base.tape
    · exact hg.output.trans h.base.output
    · have := h.base.size
      simp
      omega
    · have hb := h.base.size
      refine (hto j (by omega) (fun e => ?_) fun e => ?_).trans (h.base.block j hj)
      · have := h.low j ⟨k, hk, .inr (.inl e)⟩
        omega
      · have := h.low j ⟨k, hk, .inl e⟩
        omega
  · refine ⟨fun i hi => ?_, hS.inj, fun i hi => ?_, fun i hi => ?_, fun i hi j hj => ?_, hS.usD⟩
    · by_cases e : i = k
      · subst e
        show (w8.setCell ⟨L.sp i, 2, none⟩ v8).heap[L.sp i]? = _
        rw [heap_setCell_same w8 _ _ _ _ _ r8, show (L.setI i v8).iv i = v8 from updN_same _ _ _]
        rfl
      · have e1 : L.sp i ≠ L.sp k := fun e' => e (hS.inj _ _ hi hk e')
        have e2 : some (L.sp i) ≠ (L.iv k).ownBlock := fun e' => by
          obtain ⟨_, e''⟩ := own_in (hS.insR k hk) e'
          rw [hS.step i hi] at e''
          cases e''
        rw [show (L.setI k v8).iv i = L.iv i from updN_other e]
        exact (hto _ (hlt _ ⟨i, hi, .inl rfl⟩) e2 e1).trans (hS.step i hi)
    · by_cases e : i = k
      · subst e
        rw [show (L.setI i v8).iv i = v8 from updN_same _ _ _, updN_same]
        show (w8.setCell ⟨L.sp i, 2, none⟩ v8).ownsRow 0 235 3 v8 (ins i ++ [x]).length (insC L.sp (ins i ++ [x]))
        rw [insC_snoc, List.length_append, List.length_singleton]
        exact own_same hown fun j hj => hcs j fun e' => by
          rw [hown8] at hj
          have : j = g8 := by simpa using hj
          exact hg8 (by omega)
      · rw [show (L.setI k v8).iv i = L.iv i from updN_other e, updN_other e]
        refine own_same (hS.insR i hi) fun j hj => hto j (hlt j ⟨i, hi, .inr (.inl hj)⟩) (fun e' => ?_) fun e' => ?_
        · exact h.sepI i k hi hk e j hj.symm e'.symm
        · obtain ⟨_, a2⟩ := own_in (hS.insR i hi) hj
          rw [e', hS.step k hk] at a2
          cases a2
    · refine own_same (hS.usR i hi) fun j hj => hto j (hlt j ⟨i, hi, .inr (.inr hj)⟩) (fun e' => ?_) fun e' => ?_
      · obtain ⟨_, a1⟩ := own_in (hS.insR k hk) e'
        obtain ⟨_, a2⟩ := own_in (hS.usR i hi) hj
        rw [a1] at a2
        cases a2
      · obtain ⟨_, a2⟩ := own_in (hS.usR i hi) hj
        rw [e', hS.step k hk] at a2
        cases a2
    · by_cases e : i = k
      · subst e
        rw [updN_same] at hj
        rcases List.mem_append.1 hj with h1 | h1
        · exact hS.insD i hi j h1
        · exact hx j (List.mem_singleton.1 h1).symm
      · rw [updN_other e] at hj
        exact hS.insD i hi j hj
  · intro j hj
    rcases hblk j hj with h1 | h1
    · exact h.low j h1
    · have := h.base.size
      omega
  · intro i j hi hj hne b hb
    by_cases ei : i = k
    · subst ei
      rw [show (L.setI i v8).iv i = v8 from updN_same _ _ _, hown8] at hb
      have hbg : b = g8 := by simpa using hb.symm
      rw [show (L.setI i v8).iv j = L.iv j from updN_other fun e => hne e.symm]
      intro e
      rcases hl' with h1 | h1
      · exact h.sepI i j hi hj hne b (by rw [hbg]; exact h1) e
      · have := hlt b ⟨j, hj, .inr (.inl e.symm)⟩
        omega
    · rw [show (L.setI k v8).iv i = L.iv i from updN_other ei] at hb
      by_cases ej : j = k
      · subst ej
        rw [show (L.setI j v8).iv j = v8 from updN_same _ _ _, hown8]
        intro e
        have hbg : b = g8 := by simpa using e.symm
        rcases hl' with h1 | h1
        · exact h.sepI i j hi hj hne b hb (by rw [hbg]; exact h1)
        · have := hlt b ⟨i, hi, .inr (.inl hb.symm)⟩
          omega
      · rw [show (L.setI k v8).iv j = L.iv j from updN_other ej]
        exact h.sepI i j hi hj hne b hb
  · refine ⟨hg.os, hg.tape, hg.output, by simp; omega, fun j hj hn => hto j hj (fun e => hn ⟨k, hk, .inr (.inl e)⟩) fun e => hn ⟨k, hk, .inl e⟩⟩
end Go.Proofs.YtflbofdpfgkmcaaGreatDoor
