import Derived.Test.YtdljhggillgpfaaGreatDoorSA17
set_option maxRecDepth 100000
set_option maxHeartbeats 4000000
namespace Go.Proofs.YtdljhggillgpfaaGreatDoor
open Go.RowKit Go.Shelf Go.Lib Go.Maps
abbrev wts : Nat → Bf.St := fun _ => .waits
structure Mk (es : Nat → Addr) (W0 W : World) (dom : Nat → Prop) (L : Lay) (ru : Nat → Ru) (ins : Nat → List Inp) : Prop where
 base : Below W0.heap.size W0 W
 steps : Steps W es dom L ru ins wts
 low : ∀ j,SBlk dom L j → W0.heap.size ≤ j
 sepU : ∀ i j,dom i → dom j → i ≠ j → ∀ b,(L.uv i).ownBlock = some b → (L.uv j).ownBlock ≠ some b
 sepI : ∀ i j,dom i → dom j → i ≠ j → ∀ b,(L.iv i).ownBlock = some b → (L.iv j).ownBlock ≠ some b
theorem Mk.below {es : Nat → Addr} {W0 W W' : World} {dom : Nat → Prop} {L : Lay} {ru : Nat → Ru} {ins : Nat → List Inp} (h : Mk es W0 W dom L ru ins) (hb : Below W.heap.size W W') : Mk es W0 W' dom L ru ins :=
 ⟨below_then h.base hb,h.steps.below hb,h.low,h.sepU,h.sepI⟩
def updN {α : Type} (f : Nat → α) (i : Nat) (x : α) : Nat → α := fun j => if j = i then x else f j
theorem updN_same {α : Type} (f : Nat → α) (i : Nat) (x : α) : updN f i x i = x := if_pos rfl
theorem updN_other {α : Type} {f : Nat → α} {i j : Nat} {x : α} (h : j ≠ i) : updN f i x j = f j := if_neg h
def Lay.addU (L : Lay) (k x : Nat) (v : Value) : Lay := { L with uv := updN L.uv k v,us := updN L.us k (L.us k ++ [x]) }
def Lay.setI (L : Lay) (k : Nat) (v : Value) : Lay := { L with iv := updN L.iv k v }
theorem lie_lt {W : World} {o : Obj} {v : Value} {g8 : Nat} (hl : v.ownBlock = some g8 ∨ g8 = (W.alloc o).heap.size) : v.ownBlock = some g8 ∨ W.heap.size ≤ g8 := by
 rcases hl with h | h
 ·exact .inl h
 ·exact .inr (by rw [h];simp)
theorem Mk.appU {es : Nat → Addr} {W0 W w8 : World} {dom : Nat → Prop} {L : Lay} {ru : Nat → Ru} {ins : Nat → List Inp} (h : Mk es W0 W dom L ru ins) {k x : Nat} (hk : dom k) (hx : dom x) {o : Obj} {g8 cap8 : Nat} (hown : w8.ownsRow 0 262 1 (.slice (some ⟨g8,0,none⟩) ((L.us k).length + 1) cap8) ((L.us k).length + 1) (usC L.sp (L.us k) ++ [Ptr (L.sp x)])) (hg : (W.alloc o).grownBy w8 (L.uv k).ownBlock) (hl : (L.uv k).ownBlock = some g8 ∨ g8 = (W.alloc o).heap.size) :
  w8.cell? ⟨L.sp k,3,none⟩ = some (L.uv k) ∧ w8.frozen? ⟨L.sp k,3,none⟩ = false ∧ L.sp k < w8.heap.size ∧
  Mk es W0 (w8.setCell ⟨L.sp k,3,none⟩ (.slice (some ⟨g8,0,none⟩) ((L.us k).length + 1) cap8)) dom (L.addU k x (.slice (some ⟨g8,0,none⟩) ((L.us k).length + 1) cap8)) ru ins ∧
  Only (SBlk dom L) W (w8.setCell ⟨L.sp k,3,none⟩ (.slice (some ⟨g8,0,none⟩) ((L.us k).length + 1) cap8)) ∧
  ∀ j,SBlk dom (L.addU k x (.slice (some ⟨g8,0,none⟩) ((L.us k).length + 1) cap8)) j → SBlk dom L j ∨ W.heap.size ≤ j := by
 generalize hv8 : Value.slice (some ⟨g8,0,none⟩) ((L.us k).length + 1) cap8 = v8 at *
 have hS := h.steps
 have hlt := hS.lt
 have hza : (W.alloc o).heap.size = W.heap.size + 1 := by simp
 have hz8 := hg.size
 have hown8 : v8.ownBlock = some g8 := by rw [← hv8];rfl
 obtain ⟨c8,h8⟩ := own_in hown hown8.symm
 have hl' := lie_lt hl
 have key : ∀ j,j < W.heap.size → some j ≠ (L.uv k).ownBlock → w8.heap[j]? = W.heap[j]? := fun j hj hn => (hg.block j (by omega) hn).trans (((Below.refl _ W).alloc (Nat.le_refl _) o).block j hj)
 have hne1 : some (L.sp k) ≠ (L.uv k).ownBlock := fun e => by
  obtain ⟨_,e'⟩ := own_in (hS.usR k hk) e
  rw [hS.step k hk] at e'
  cases e'
 have hkl := hlt (L.sp k) ⟨k,hk,.inl rfl⟩
 have r8 := (key (L.sp k) hkl hne1).trans (hS.step k hk)
 have hcs : ∀ j,j ≠ L.sp k → (w8.setCell ⟨L.sp k,3,none⟩ v8).heap[j]? = w8.heap[j]? := fun j hj => Below.heap_setCell w8 _ _ j hj
 have hg8 : g8 ≠ L.sp k := fun e => by rw [e,r8] at h8;cases h8
 have hto : ∀ j,j < W.heap.size → some j ≠ (L.uv k).ownBlock → j ≠ L.sp k → (w8.setCell ⟨L.sp k,3,none⟩ v8).heap[j]? = W.heap[j]? := fun j hj hn hn2 => (hcs j hn2).trans (key j hj hn)
 have hblk : ∀ j,SBlk dom (L.addU k x v8) j → SBlk dom L j ∨ W.heap.size ≤ j := by
  rintro j ⟨i,hi,e | e | e⟩
  ·exact .inl ⟨i,hi,.inl e⟩
  ·exact .inl ⟨i,hi,.inr (.inl e)⟩
  ·by_cases ek : i = k
   ·subst ek
    have e' : some j = v8.ownBlock := by
     have : (L.addU i x v8).uv i = v8 := updN_same _ _ _
     rw [this] at e
     exact e
    rw [hown8] at e'
    obtain rfl : j = g8 := by simpa using e'
    rcases hl' with h1 | h1
    ·exact .inl ⟨i,hi,.inr (.inr h1.symm)⟩
    ·exact .inr h1
   ·have : (L.addU k x v8).uv i = L.uv i := updN_other ek
    rw [this] at e
    exact .inl ⟨i,hi,.inr (.inr e)⟩
 refine ⟨cell_of_row (j := 3) r8 rfl,by simp [World.frozen?,r8],by omega,⟨?_,?_,?_,?_,h.sepI⟩,?_,hblk⟩
 ·refine ⟨?_,?_,?_,?_,fun j hj => ?_⟩
  ·exact hg.os.trans h.base.os
  ·exact hg.tape.trans h.base.tape
  ·exact hg.output.trans h.base.output
  ·have := h.base.size
   simp
   omega
  ·have hb := h.base.size
   refine (hto j (by omega) (fun e => ?_) fun e => ?_).trans (h.base.block j hj)
   ·have := h.low j ⟨k,hk,.inr (.inr e)⟩
    omega
   ·have := h.low j ⟨k,hk,.inl e⟩
    omega
 ·refine ⟨fun i hi => ?_,hS.inj,fun i hi => ?_,fun i hi => ?_,hS.insD,fun i hi j hj => ?_⟩
  ·by_cases e : i = k
   ·subst e
    show (w8.setCell ⟨L.sp i,3,none⟩ v8).heap[L.sp i]? = _
    rw [heap_setCell_same w8 _ _ _ _ _ r8,show (L.addU i x v8).uv i = v8 from updN_same _ _ _]
    rfl
   ·have e1 : L.sp i ≠ L.sp k := fun e' => e (hS.inj _ _ hi hk e')
    have e2 : some (L.sp i) ≠ (L.uv k).ownBlock := fun e' => by
     obtain ⟨_,e''⟩ := own_in (hS.usR k hk) e'
     rw [hS.step i hi] at e''
     cases e''
    rw [show (L.addU k x v8).uv i = L.uv i from updN_other e]
    exact (hto _ (hlt _ ⟨i,hi,.inl rfl⟩) e2 e1).trans (hS.step i hi)
  ·refine own_same (hS.insR i hi) fun j hj => hto j (hlt j ⟨i,hi,.inr (.inl hj)⟩) (fun e' => ?_) fun e' => ?_
   ·obtain ⟨_,a1⟩ := own_in (hS.usR k hk) e'
    obtain ⟨_,a2⟩ := own_in (hS.insR i hi) hj
    rw [a1] at a2
    cases a2
   ·obtain ⟨_,a2⟩ := own_in (hS.insR i hi) hj
    rw [e',hS.step k hk] at a2
    cases a2
  ·by_cases e : i = k
   ·subst e
    rw [show (L.addU i x v8).uv i = v8 from updN_same _ _ _,show (L.addU i x v8).us i = L.us i ++ [x] from updN_same _ _ _]
    have : usC L.sp (L.us i ++ [x]) = usC L.sp (L.us i) ++ [Ptr (L.sp x)] := by simp [usC]
    show (w8.setCell ⟨L.sp i,3,none⟩ v8).ownsRow 0 262 1 v8 (L.us i ++ [x]).length (usC L.sp (L.us i ++ [x]))
    rw [this,List.length_append,List.length_singleton]
    exact own_same hown fun j hj => hcs j fun e' => by
     rw [hown8] at hj
     have : j = g8 := by simpa using hj
     exact hg8 (by omega)
   ·rw [show (L.addU k x v8).uv i = L.uv i from updN_other e,show (L.addU k x v8).us i = L.us i from updN_other e]
    refine own_same (hS.usR i hi) fun j hj => hto j (hlt j ⟨i,hi,.inr (.inr hj)⟩) (fun e' => ?_) fun e' => ?_
    ·exact h.sepU i k hi hk e j hj.symm e'.symm
    ·obtain ⟨_,a2⟩ := own_in (hS.usR i hi) hj
     rw [e',hS.step k hk] at a2
     cases a2
  ·by_cases e : i = k
   ·subst e
    rw [show (L.addU i x v8).us i = L.us i ++ [x] from updN_same _ _ _] at hj
    rcases List.mem_append.1 hj with h1 | h1
    ·exact hS.usD i hi j h1
    ·rw [List.mem_singleton.1 h1];exact hx
   ·rw [show (L.addU k x v8).us i = L.us i from updN_other e] at hj
    exact hS.usD i hi j hj
 ·intro j hj
  rcases hblk j hj with h1 | h1
  ·exact h.low j h1
  ·have := h.base.size
   omega
 ·intro i j hi hj hne b hb
  by_cases ei : i = k
  ·subst ei
   rw [show (L.addU i x v8).uv i = v8 from updN_same _ _ _,hown8] at hb
   have hbg : b = g8 := by simpa using hb.symm
   rw [show (L.addU i x v8).uv j = L.uv j from updN_other fun e => hne e.symm]
   intro e
   rcases hl' with h1 | h1
   ·exact h.sepU i j hi hj hne b (by rw [hbg];exact h1) e
   ·have := hlt b ⟨j,hj,.inr (.inr e.symm)⟩
    omega
  ·rw [show (L.addU k x v8).uv i = L.uv i from updN_other ei] at hb
   by_cases ej : j = k
   ·subst ej
    rw [show (L.addU j x v8).uv j = v8 from updN_same _ _ _,hown8]
    intro e
    have hbg : b = g8 := by simpa using e.symm
    rcases hl' with h1 | h1
    ·exact h.sepU i j hi hj hne b hb (by rw [hbg];exact h1)
    ·have := hlt b ⟨i,hi,.inr (.inr hb.symm)⟩
     omega
   ·rw [show (L.addU k x v8).uv j = L.uv j from updN_other ej]
    exact h.sepU i j hi hj hne b hb
 ·refine ⟨hg.os,hg.tape,hg.output,by simp;omega,fun j hj hn => hto j hj (fun e => hn ⟨k,hk,.inr (.inr e)⟩) fun e => hn ⟨k,hk,.inl e⟩⟩
theorem Mk.appI {es : Nat → Addr} {W0 W w8 : World} {dom : Nat → Prop} {L : Lay} {ru : Nat → Ru} {ins : Nat → List Inp} (h : Mk es W0 W dom L ru ins) {k : Nat} (hk : dom k) (x : Inp) (hx : ∀ j,x = .rule j → dom j) {o : Obj} {g8 cap8 : Nat} (hown : w8.ownsRow 0 301 3 (.slice (some ⟨g8,0,none⟩) ((ins k).length + 1) cap8) ((ins k).length + 1) (insC L.sp (ins k) ++ x.vals L.sp)) (hg : (W.alloc o).grownBy w8 (L.iv k).ownBlock) (hl : (L.iv k).ownBlock = some g8 ∨ g8 = (W.alloc o).heap.size) :
  w8.cell? ⟨L.sp k,2,none⟩ = some (L.iv k) ∧ w8.frozen? ⟨L.sp k,2,none⟩ = false ∧ L.sp k < w8.heap.size ∧
  Mk es W0 (w8.setCell ⟨L.sp k,2,none⟩ (.slice (some ⟨g8,0,none⟩) ((ins k).length + 1) cap8)) dom (L.setI k (.slice (some ⟨g8,0,none⟩) ((ins k).length + 1) cap8)) ru (updN ins k (ins k ++ [x])) ∧
  Only (SBlk dom L) W (w8.setCell ⟨L.sp k,2,none⟩ (.slice (some ⟨g8,0,none⟩) ((ins k).length + 1) cap8)) ∧
  ∀ j,SBlk dom (L.setI k (.slice (some ⟨g8,0,none⟩) ((ins k).length + 1) cap8)) j → SBlk dom L j ∨ W.heap.size ≤ j := by
 generalize hv8 : Value.slice (some ⟨g8,0,none⟩) ((ins k).length + 1) cap8 = v8 at *
 have hS := h.steps
 have hlt := hS.lt
 have hza : (W.alloc o).heap.size = W.heap.size + 1 := by simp
 have hz8 := hg.size
 have hown8 : v8.ownBlock = some g8 := by rw [← hv8];rfl
 obtain ⟨c8,h8⟩ := own_in hown hown8.symm
 have hl' := lie_lt hl
 have key : ∀ j,j < W.heap.size → some j ≠ (L.iv k).ownBlock → w8.heap[j]? = W.heap[j]? := fun j hj hn => (hg.block j (by omega) hn).trans (((Below.refl _ W).alloc (Nat.le_refl _) o).block j hj)
 have hne1 : some (L.sp k) ≠ (L.iv k).ownBlock := fun e => by
  obtain ⟨_,e'⟩ := own_in (hS.insR k hk) e
  rw [hS.step k hk] at e'
  cases e'
 have hkl := hlt (L.sp k) ⟨k,hk,.inl rfl⟩
 have r8 := (key (L.sp k) hkl hne1).trans (hS.step k hk)
 have hcs : ∀ j,j ≠ L.sp k → (w8.setCell ⟨L.sp k,2,none⟩ v8).heap[j]? = w8.heap[j]? := fun j hj => Below.heap_setCell w8 _ _ j hj
 have hg8 : g8 ≠ L.sp k := fun e => by rw [e,r8] at h8;cases h8
 have hto : ∀ j,j < W.heap.size → some j ≠ (L.iv k).ownBlock → j ≠ L.sp k → (w8.setCell ⟨L.sp k,2,none⟩ v8).heap[j]? = W.heap[j]? := fun j hj hn hn2 => (hcs j hn2).trans (key j hj hn)
 have hblk : ∀ j,SBlk dom (L.setI k v8) j → SBlk dom L j ∨ W.heap.size ≤ j := by
  rintro j ⟨i,hi,e | e | e⟩
  ·exact .inl ⟨i,hi,.inl e⟩
  ·by_cases ek : i = k
   ·subst ek
    have e' : some j = v8.ownBlock := by
     have : (L.setI i v8).iv i = v8 := updN_same _ _ _
     rw [this] at e
     exact e
    rw [hown8] at e'
    obtain rfl : j = g8 := by simpa using e'
    rcases hl' with h1 | h1
    ·exact .inl ⟨i,hi,.inr (.inl h1.symm)⟩
    ·exact .inr h1
   ·have : (L.setI k v8).iv i = L.iv i := updN_other ek
    rw [this] at e
    exact .inl ⟨i,hi,.inr (.inl e)⟩
  ·exact .inl ⟨i,hi,.inr (.inr e)⟩
 refine ⟨cell_of_row (j := 2) r8 rfl,by simp [World.frozen?,r8],by omega,⟨?_,?_,?_,h.sepU,?_⟩,?_,hblk⟩
 ·refine ⟨?_,?_,?_,?_,fun j hj => ?_⟩
  ·exact hg.os.trans h.base.os
  ·exact hg.tape.trans h.base.tape
  ·exact hg.output.trans h.base.output
  ·have := h.base.size
   simp
   omega
  ·have hb := h.base.size
   refine (hto j (by omega) (fun e => ?_) fun e => ?_).trans (h.base.block j hj)
   ·have := h.low j ⟨k,hk,.inr (.inl e)⟩
    omega
   ·have := h.low j ⟨k,hk,.inl e⟩
    omega
 ·refine ⟨fun i hi => ?_,hS.inj,fun i hi => ?_,fun i hi => ?_,fun i hi j hj => ?_,hS.usD⟩
  ·by_cases e : i = k
   ·subst e
    show (w8.setCell ⟨L.sp i,2,none⟩ v8).heap[L.sp i]? = _
    rw [heap_setCell_same w8 _ _ _ _ _ r8,show (L.setI i v8).iv i = v8 from updN_same _ _ _]
    rfl
   ·have e1 : L.sp i ≠ L.sp k := fun e' => e (hS.inj _ _ hi hk e')
    have e2 : some (L.sp i) ≠ (L.iv k).ownBlock := fun e' => by
     obtain ⟨_,e''⟩ := own_in (hS.insR k hk) e'
     rw [hS.step i hi] at e''
     cases e''
    rw [show (L.setI k v8).iv i = L.iv i from updN_other e]
    exact (hto _ (hlt _ ⟨i,hi,.inl rfl⟩) e2 e1).trans (hS.step i hi)
  ·by_cases e : i = k
   ·subst e
    rw [show (L.setI i v8).iv i = v8 from updN_same _ _ _,updN_same]
    show (w8.setCell ⟨L.sp i,2,none⟩ v8).ownsRow 0 301 3 v8 (ins i ++ [x]).length (insC L.sp (ins i ++ [x]))
    rw [insC_snoc,List.length_append,List.length_singleton]
    exact own_same hown fun j hj => hcs j fun e' => by
     rw [hown8] at hj
     have : j = g8 := by simpa using hj
     exact hg8 (by omega)
   ·rw [show (L.setI k v8).iv i = L.iv i from updN_other e,updN_other e]
    refine own_same (hS.insR i hi) fun j hj => hto j (hlt j ⟨i,hi,.inr (.inl hj)⟩) (fun e' => ?_) fun e' => ?_
    ·exact h.sepI i k hi hk e j hj.symm e'.symm
    ·obtain ⟨_,a2⟩ := own_in (hS.insR i hi) hj
     rw [e',hS.step k hk] at a2
     cases a2
  ·refine own_same (hS.usR i hi) fun j hj => hto j (hlt j ⟨i,hi,.inr (.inr hj)⟩) (fun e' => ?_) fun e' => ?_
   ·obtain ⟨_,a1⟩ := own_in (hS.insR k hk) e'
    obtain ⟨_,a2⟩ := own_in (hS.usR i hi) hj
    rw [a1] at a2
    cases a2
   ·obtain ⟨_,a2⟩ := own_in (hS.usR i hi) hj
    rw [e',hS.step k hk] at a2
    cases a2
  ·by_cases e : i = k
   ·subst e
    rw [updN_same] at hj
    rcases List.mem_append.1 hj with h1 | h1
    ·exact hS.insD i hi j h1
    ·exact hx j (List.mem_singleton.1 h1).symm
   ·rw [updN_other e] at hj
    exact hS.insD i hi j hj
 ·intro j hj
  rcases hblk j hj with h1 | h1
  ·exact h.low j h1
  ·have := h.base.size
   omega
 ·intro i j hi hj hne b hb
  by_cases ei : i = k
  ·subst ei
   rw [show (L.setI i v8).iv i = v8 from updN_same _ _ _,hown8] at hb
   have hbg : b = g8 := by simpa using hb.symm
   rw [show (L.setI i v8).iv j = L.iv j from updN_other fun e => hne e.symm]
   intro e
   rcases hl' with h1 | h1
   ·exact h.sepI i j hi hj hne b (by rw [hbg];exact h1) e
   ·have := hlt b ⟨j,hj,.inr (.inl e.symm)⟩
    omega
  ·rw [show (L.setI k v8).iv i = L.iv i from updN_other ei] at hb
   by_cases ej : j = k
   ·subst ej
    rw [show (L.setI j v8).iv j = v8 from updN_same _ _ _,hown8]
    intro e
    have hbg : b = g8 := by simpa using e.symm
    rcases hl' with h1 | h1
    ·exact h.sepI i j hi hj hne b hb (by rw [hbg];exact h1)
    ·have := hlt b ⟨i,hi,.inr (.inl hb.symm)⟩
     omega
   ·rw [show (L.setI k v8).iv j = L.iv j from updN_other ej]
    exact h.sepI i j hi hj hne b hb
 ·refine ⟨hg.os,hg.tape,hg.output,by simp;omega,fun j hj hn => hto j hj (fun e => hn ⟨k,hk,.inr (.inl e)⟩) fun e => hn ⟨k,hk,.inl e⟩⟩
theorem Bf.St.num_done (s : Bf.St) : s.isDone = (s.num == 1 || s.num == 2) := by
 cases s with
 | done s b => cases b <;> rfl
 | _ => rfl
theorem Bf.St.num_waits {s : Bf.St} (h : s.isNo = false) : s.isWaits = (s.num == 0) := by
 cases s with
 | no => cases h
 | done s b => cases b <;> rfl
 | _ => rfl
theorem Bf.St.num_left (s : Bf.St) : s.isLeft = (s.num == 4) := by
 cases s with
 | done s b => cases b <;> rfl
 | _ => rfl
theorem stdone_calls {W : World} {b n : Nat} (h : W.cell? ⟨b,4,none⟩ = some (.int .i64 (n : Nat))) :
  Calls Tryz.prog 202 #[Ptr b] W fun e w' => e = .returned (.bool (n == 1 || n == 2)) ∧ w' = W := by
 by_cases h1 : n = 1
 ·subst h1
  go_enter Tryz.func202,Tryz.ntmps202
  go_wp2
  go_ret
  exact ⟨rfl,rfl⟩
 ·have z1 : ((n : Int) == 1) = false := by simp;omega
  have y1 : (n == 1) = false := by simpa using h1
  by_cases h2 : n = 2
  ·subst h2
   go_enter Tryz.func202,Tryz.ntmps202
   go_wp2
   go_ret
   exact ⟨rfl,rfl⟩
  ·have z2 : ((n : Int) == 2) = false := by simp;omega
   have y2 : (n == 2) = false := by simpa using h2
   rw [y1,y2]
   go_enter Tryz.func202,Tryz.ntmps202
   go_wp2
   go_ret
   exact ⟨rfl,rfl⟩
theorem stready1_some {W : World} {b n : Nat} (h : W.cell? ⟨b,4,none⟩ = some (.int .i64 (n : Nat))) (t : List UInt8) (th : Bool) :
  Calls Tryz.prog 228 #[.agg #[Ptr b,.string (ba t),.bool th]] W fun e w' => e = .returned (.bool (!(n == 1 || n == 2))) ∧ Below W.heap.size W w' := by
 have HC := hid1 (stdone_calls (cell_below' h ((Below.refl _ W).alloc (Nat.le_refl _) (.cells #[Ptr b,.string (ba t),.bool th] 301))))
 have gA : Below W.heap.size W (W.alloc (.cells #[Ptr b,.string (ba t),.bool th] 301)) := (Below.refl _ W).alloc (Nat.le_refl _) _
 generalize (n == 1 || n == 2) = d at *
 go_enter Tryz.func228,Tryz.ntmps228
 go_wp2_with fail
 refine HC.out.mono ?_
 rintro e w1 ⟨rfl,rfl⟩
 go_wp2
 go_ret
 exact ⟨rfl,gA⟩
theorem stready1_none {W : World} (t : List UInt8) (th : Bool) :
  Calls Tryz.prog 228 #[.agg #[.pointer none,.string (ba t),.bool th]] W fun e w' => e = .returned (.bool false) ∧ Below W.heap.size W w' := by
 have gA : Below W.heap.size W (W.alloc (.cells #[.pointer none,.string (ba t),.bool th] 301)) := (Below.refl _ W).alloc (Nat.le_refl _) _
 go_enter Tryz.func228,Tryz.ntmps228
 go_wp2
 go_ret
 exact ⟨rfl,gA⟩
def BRow (W : World) (v : Value) (sp : Nat → Nat) (l : List Inp) : Prop :=
 ∃ p cap,v = .slice p l.length cap ∧ (l ≠ [] → ∃ g,p = some ⟨g,0,none⟩ ∧ g < W.heap.size ∧ ∀ j (hj : j < l.length),W.cell? ⟨g,j * 3,none⟩ = some (l[j].from sp) ∧ W.cell? ⟨g,j * 3 + 1,none⟩ = some (.string (ba l[j].text)) ∧ W.cell? ⟨g,j * 3 + 2,none⟩ = some (.bool l[j].there))
theorem BRow.of_owns {W : World} {B : Nat} {v : Value} {sp : Nat → Nat} {l : List Inp} (h : W.ownsRow B 301 3 v l.length (insC sp l)) : BRow W v sp l := by
 obtain ⟨p,cap,e⟩ := own_val h
 refine ⟨p,cap,e,fun hl => ?_⟩
 obtain ⟨g,cap',e',hc⟩ := own_cell h (List.length_pos_iff.2 hl)
 obtain ⟨cur,hg⟩ := own_in (j := g) h (by rw [e'];rfl)
 have : p = some ⟨g,0,none⟩ := by
  rw [e] at e'
  simpa using (Value.slice.inj e').1
 refine ⟨g,this,(Array.getElem?_eq_some_iff.1 hg).1,fun j hj => ?_⟩
 obtain ⟨h0,h1,h2⟩ := insC_get sp l j hj
 exact ⟨hc _ _ h0,hc _ _ h1,hc _ _ h2⟩
def Inp.val (sp : Nat → Nat) (x : Inp) : Value := .agg #[x.from sp,.string (ba x.text),.bool x.there]
theorem indexFuncB_calls {w : World} (v : Value) (sp : Nat → Nat) (l : List Inp) (hrow : BRow w v sp l) (hl : l.length ≤ 1000000) (f : Nat) (caps : Array Value) (eg : ∀ args w,(callFunc f args).run Tryz.prog w = .ok (.enter f args) w) (b : Nat → Bool)
  (HS : Hid (∀ k (hk : k < l.length) W,Below w.heap.size w W → Calls Tryz.prog f (#[l[k].val sp] ++ caps) W fun e w' => e = .returned (.bool (b k)) ∧ Below W.heap.size W w')) :
  Calls Tryz.prog 252 #[v,.func (.func f) #[] caps] w fun e w' => ∃ r : Int,e = .returned (.int .i64 r) ∧ Below w.heap.size w w' ∧ ((r = -1 ∧ ∀ j,j < l.length → b j = false) ∨ ∃ k : Nat,r = k ∧ k < l.length ∧ b k = true) := by
 obtain ⟨p,cap,rfl,hin⟩ := hrow
 have HI := hid1 hin
 go_enter Tryz.func252,Tryz.ntmps252
 go_wp2
 go_loopw [8] (fun i wr => ∃ k : Nat,k ≤ l.length ∧ i = .int .i64 k ∧ (∀ j,j < k → b j = false) ∧ Below w.heap.size w wr) (fun i _ => l.length - (intOf i).toNat)
 case atStart => exact ⟨0,Nat.zero_le _,rfl,fun j h => by omega,Below.refl _ _⟩
 case round =>
  obtain ⟨k,hk,rfl,hz,hB⟩ := hrel
  have HZ := hid1 hz
  have c0 : (0 : Int) ≤ (k : Int) := by omega
  by_cases hlt : k < l.length
  ·have c1 : (k : Int) < (l.length : Int) := by omega
   obtain ⟨g',rfl,hg,hcur⟩ := HI.out (by intro e;rw [e] at hlt;simp at hlt)
   obtain ⟨u0,u1,u2⟩ := hcur k hlt
   have d0 := cell_below' u0 hB
   have d1 := cell_below' u1 hB
   have d2 := cell_below' u2 hB
   have HC := HS.out k hlt wr hB
   unfold Inp.val at HC
   obtain ⟨fb,hfb⟩ : ∃ o,l[k].from sp = .pointer o := by cases l[k] <;> exact ⟨_,rfl⟩
   rw [hfb] at d0 HC
   generalize l[k] = y at *
   cases hc : b k with
   | false =>
    rw [hc] at HC
    have HN : Hid (∀ j,j < k + 1 → b j = false) := hid1 fun j hj => by
     rcases Nat.lt_or_ge j k with h | h
     ·exact HZ.out j h
     ·obtain rfl : j = k := by omega
      exact hc
    go_wp2_with fail
    refine Calls.mono HC ?_
    rintro e w1 ⟨rfl,hb1⟩
    go_wp2
    exact ⟨⟨k + 1,by omega,by go_num,HN.out,below_then hB hb1⟩,by simp [intOf];omega⟩
   | true =>
    rw [hc] at HC
    have HE := hid1 hc
    go_wp2_with fail
    refine Calls.mono HC ?_
    rintro e w1 ⟨rfl,hb1⟩
    go_wp2
    go_ret
    exact ⟨_,rfl,below_then hB hb1,.inr ⟨k,rfl,hlt,HE.out⟩⟩
  ·have c1 : (l.length : Int) ≤ (k : Int) := by omega
   have HN : Hid (∀ j,j < l.length → b j = false) := hid1 fun j hj => HZ.out j (by omega)
   go_wp2
   go_ret
   exact ⟨_,rfl,hB,.inl ⟨rfl,HN.out⟩⟩
theorem containsFuncB_calls {w : World} (v : Value) (sp : Nat → Nat) (l : List Inp) (hrow : BRow w v sp l) (hl : l.length ≤ 1000000) (f : Nat) (caps : Array Value) (eg : ∀ args w,(callFunc f args).run Tryz.prog w = .ok (.enter f args) w) (b : Nat → Bool)
  (HS : Hid (∀ k (hk : k < l.length) W,Below w.heap.size w W → Calls Tryz.prog f (#[l[k].val sp] ++ caps) W fun e w' => e = .returned (.bool (b k)) ∧ Below W.heap.size W w')) :
  Calls Tryz.prog 227 #[v,.func (.func f) #[] caps] w fun e w' => ∃ d : Bool,e = .returned (.bool d) ∧ Below w.heap.size w w' ∧ (d = true ↔ ∃ k,k < l.length ∧ b k = true) := by
 have HC := hid1 (indexFuncB_calls v sp l hrow hl f caps eg b HS)
 obtain ⟨p,cap,rfl,hin⟩ := hrow
 go_enter Tryz.func227,Tryz.ntmps227
 go_wp2_with fail
 refine HC.out.mono ?_
 rintro e w1 ⟨r,rfl,hb,h⟩
 rcases h with ⟨rfl,h⟩ | ⟨k,rfl,hk,h⟩
 ·have HN := hid1 h
  go_wp2
  go_ret
  refine ⟨_,rfl,hb,?_⟩
  simp
  intro k hk
  simpa using HN.out k hk
 ·have HN := hid1 h
  have z : (0 : Int) ≤ (k : Int) := by omega
  go_wp2
  go_ret
  refine ⟨true,rfl,hb,?_⟩
  simp
  exact ⟨k,hk,HN.out⟩
def Inp.holds (st : Nat → Bf.St) : Inp → Bool
 | .rule k => !(st k).isDone
 | _ => false
theorem stready_calls {W : World} {es : Nat → Addr} {dom : Nat → Prop} {L : Lay} {ru : Nat → Ru} {ins : Nat → List Inp} {st : Nat → Bf.St} (h : Steps W es dom L ru ins st) (i : Nat) (hi : dom i) (hno : (st i).isNo = false) (hl : (ins i).length ≤ 1000) :
  Calls Tryz.prog 198 #[Ptr (L.sp i)] W fun e w' => e = .returned (.bool ((st i).isWaits && !(ins i).any (Inp.holds st))) ∧ Below W.heap.size W w' := by
 have hA := h.at hi
 have c4 := hA.c4
 have c2 := hA.c2
 have hw := Bf.St.num_waits hno
 have hrow := BRow.of_owns (h.insR i hi)
 have HC := hid1 (containsFuncB_calls (w := W) (L.iv i) L.sp (ins i) hrow (by omega) 228 #[] (enters_of Tryz.func228 (by kernel_rfl) rfl) (fun j => ((ins i).getD j .gone).holds st)
  (hid1 fun k hk V g => by
   have hD := h.insD i hi
   have e0 : (ins i).getD k .gone = (ins i)[k] := by simp [hk]
   rw [e0]
   have hm : (ins i)[k] ∈ ins i := List.getElem_mem hk
   generalize (ins i)[k] = y at *
   cases y with
   | rule j =>
    have hj := hD j hm
    have := stready1_some (cell_below' (h.at hj).c4 g) [] false
    rw [← Bf.St.num_done] at this
    exact this
   | file b => exact stready1_none b true
   | gone => exact stready1_none [] false))
 have HD : Hid (∀ d : Bool,(d = true ↔ ∃ k,k < (ins i).length ∧ ((ins i).getD k .gone).holds st = true) → d = (ins i).any (Inp.holds st)) := hid1 fun d hd => by
  rw [Bool.eq_iff_iff,hd,List.any_eq_true]
  constructor
  ·rintro ⟨k,hk,e⟩
   rw [List.getD_eq_getElem?_getD,List.getElem?_eq_getElem hk] at e
   exact ⟨_,List.getElem_mem hk,e⟩
  ·rintro ⟨x,hx,e⟩
   obtain ⟨k,hk,rfl⟩ := List.getElem_of_mem hx
   exact ⟨k,hk,by rw [List.getD_eq_getElem?_getD,List.getElem?_eq_getElem hk];exact e⟩
 obtain ⟨p,cap,e2,-⟩ := hrow
 rw [e2] at c2 HC
 clear h hA e2 hno
 cases hc : (st i).isWaits with
 | false =>
  rw [hc] at hw
  have z : (((st i).num : Int) == 0) = false := by
   have : (st i).num ≠ 0 := fun e => by rw [e] at hw;cases hw
   simp;omega
  rw [Bool.false_and]
  clear HC HD hw hc
  go_enter Tryz.func198,Tryz.ntmps198
  go_wp2
  go_ret
  exact ⟨rfl,Below.refl _ _⟩
 | true =>
  rw [hc] at hw
  have z : (st i).num = 0 := by simpa using hw.symm
  rw [z] at c4
  rw [Bool.true_and]
  generalize hz : (ins i).any (Inp.holds st) = d0 at *
  clear hw hc hz
  go_enter Tryz.func198,Tryz.ntmps198
  go_wp2_with fail
  refine HC.out.mono ?_
  rintro e w1 ⟨d,rfl,g1,hd⟩
  obtain rfl := HD.out d hd
  clear HC HD hd
  go_wp2
  go_ret
  exact ⟨rfl,g1⟩
end Go.Proofs.YtdljhggillgpfaaGreatDoor
namespace Go.Proofs.YtdljhggillgpfaaGreatDoor
open Go.RowKit Go.Shelf Go.Lib
theorem slIndexI_calls {w : World} (v : Value) (l : List Nat) (x : Nat) (hrow : NIRow w v l) (hl : l.length ≤ 1000000) :
  Calls Tryz.prog 162 #[v,nv x] w fun e w' => ∃ r : Int,e = .returned (.int .i64 r) ∧ w' = w ∧ ((r = -1 ∧ x ∉ l) ∨ ∃ k : Nat,r = k ∧ x ∈ l) := by
 obtain ⟨p,cap,rfl,hin⟩ := hrow
 have HI := hid1 hin
 clear hin
 go_enter Tryz.func162,Tryz.ntmps162
 go_wp2
 go_loopw [8] (fun i wr => ∃ k : Nat,k ≤ l.length ∧ i = .int .i64 k ∧ x ∉ l.take k ∧ w = wr) (fun i _ => l.length - (intOf i).toNat)
 case atStart => exact ⟨0,Nat.zero_le _,rfl,by simp,rfl⟩
 case round =>
  obtain ⟨k,hk,rfl,hz,rfl⟩ := hrel
  have HZ := hid1 hz
  clear hz
  have c0 : (0 : Int) ≤ (k : Int) := by omega
  by_cases hlt : k < l.length
  ·have c1 : (k : Int) < (l.length : Int) := by omega
   obtain ⟨g',o,rfl,hg,hcur⟩ := HI.out (by intro e;rw [e] at hlt;simp at hlt)
   have hcell := hcur k hlt
   have HT : Hid (l[k] ≠ x → x ∉ l.take (k + 1)) := hid1 fun hne => by
    rw [List.take_succ_eq_append_getElem hlt]
    simp only [List.mem_append,List.mem_singleton,not_or]
    exact ⟨HZ.out,fun e => hne e.symm⟩
   have HP : Hid (l[k] = x → x ∈ l) := hid1 fun he => he ▸ List.getElem_mem hlt
   clear hcur HI HZ
   generalize l[k] = y at *
   by_cases he : y = x
   ·subst he
    have HPP := hid1 (HP.out rfl)
    clear HP HT
    go_wp2
    go_ret
    exact ⟨_,rfl,rfl,.inr ⟨k,rfl,HPP.out⟩⟩
   ·have e0 : ¬ x = y := fun e => he e.symm
    have e1 : ((x : Int) == (y : Int)) = false := by simp;omega
    have HTT := hid1 (HT.out he)
    clear HP HT
    go_wp2
    exact ⟨⟨k + 1,by omega,by go_num,HTT.out,trivial⟩,by simp [intOf];omega⟩
  ·have c1 : (l.length : Int) ≤ (k : Int) := by omega
   have HN : Hid (x ∉ l) := hid1 (by
    have := HZ.out
    rwa [List.take_of_length_le (by omega)] at this)
   clear HI HZ
   go_wp2
   go_ret
   exact ⟨_,rfl,rfl,.inl ⟨rfl,HN.out⟩⟩
theorem slContainsI_calls {w : World} (v : Value) (l : List Nat) (x : Nat) (hrow : NIRow w v l) (hl : l.length ≤ 1000000) :
  Calls Tryz.prog 116 #[v,nv x] w fun e w' => e = .returned (.bool (decide (x ∈ l))) ∧ w' = w := by
 have HC := hid1 (slIndexI_calls v l x hrow hl)
 obtain ⟨p,cap,rfl,hin⟩ := hrow
 have HD : Hid (∀ b : Bool,(b = true ↔ x ∈ l) → decide (x ∈ l) = b) := hid1 fun b hb => by
  rw [Bool.eq_iff_iff,hb]
  simp
 generalize decide (x ∈ l) = d at *
 go_enter Tryz.func116,Tryz.ntmps116
 go_wp2_with fail
 refine HC.out.mono ?_
 rintro e w1 ⟨r,rfl,rfl,h⟩
 rcases h with ⟨rfl,h⟩ | ⟨k,rfl,h⟩
 ·obtain rfl := HD.out false (by simp [h])
  go_wp2
  go_ret
  exact ⟨rfl,rfl⟩
 ·have z : (0 : Int) ≤ (k : Int) := by omega
  obtain rfl := HD.out true (by simp [h])
  go_wp2
  go_ret
  exact ⟨rfl,rfl⟩
theorem indexFuncI_calls {w : World} (v : Value) (l : List Nat) (hrow : NIRow w v l) (hl : l.length ≤ 1000000) (f : Nat) (caps : Array Value) (eg : ∀ args w,(callFunc f args).run Tryz.prog w = .ok (.enter f args) w) (b : Nat → Bool)
  (HS : Hid (∀ x ∈ l,∀ W,Below w.heap.size w W → Calls Tryz.prog f (#[nv x] ++ caps) W fun e w' => e = .returned (.bool (b x)) ∧ Below W.heap.size W w')) :
  Calls Tryz.prog 158 #[v,.func (.func f) #[] caps] w fun e w' => ∃ r : Int,e = .returned (.int .i64 r) ∧ Below w.heap.size w w' ∧ ((r = -1 ∧ ∀ x ∈ l,b x = false) ∨ ∃ k : Nat,r = k ∧ ∃ h : k < l.length,b l[k] = true ∧ ∀ x ∈ l.take k,b x = false) := by
 obtain ⟨p,cap,rfl,hin⟩ := hrow
 have HI := hid1 hin
 go_enter Tryz.func158,Tryz.ntmps158
 go_wp2
 go_loopw [8] (fun i wr => ∃ k : Nat,k ≤ l.length ∧ i = .int .i64 k ∧ (∀ x ∈ l.take k,b x = false) ∧ Below w.heap.size w wr) (fun i _ => l.length - (intOf i).toNat)
 case atStart => exact ⟨0,Nat.zero_le _,rfl,by simp,Below.refl _ _⟩
 case round =>
  obtain ⟨k,hk,rfl,hz,hB⟩ := hrel
  have HZ := hid1 hz
  have c0 : (0 : Int) ≤ (k : Int) := by omega
  by_cases hlt : k < l.length
  ·have c1 : (k : Int) < (l.length : Int) := by omega
   obtain ⟨g',o,rfl,hg,hcur⟩ := HI.out (by intro e;rw [e] at hlt;simp at hlt)
   have d0 := (hB.cell (p := ⟨g',o + k,none⟩) hg).trans (hcur k hlt)
   have HC := HS.out l[k] (List.getElem_mem hlt) wr hB
   have HN : Hid (b l[k] = false → ∀ x ∈ l.take (k + 1),b x = false) := hid1 fun h x hx => by
    rw [List.take_succ_eq_append_getElem hlt] at hx
    rcases List.mem_append.1 hx with h1 | h1
    ·exact HZ.out x h1
    ·rw [List.mem_singleton.1 h1];exact h
   have HP : Hid (b l[k] = true → ∃ j : Nat,(k : Int) = j ∧ ∃ h : j < l.length,b l[j] = true ∧ ∀ x ∈ l.take j,b x = false) := hid1 fun h => ⟨k,rfl,hlt,h,HZ.out⟩
   generalize l[k] = y at *
   cases hc : b y with
   | false =>
    rw [hc] at HC
    have HN2 := hid1 (HN.out hc)
    go_wp2_with fail
    refine Calls.mono HC ?_
    rintro e w1 ⟨rfl,hb1⟩
    go_wp2
    exact ⟨⟨k + 1,by omega,by go_num,HN2.out,below_then hB hb1⟩,by simp [intOf];omega⟩
   | true =>
    rw [hc] at HC
    have HE := hid1 (HP.out hc)
    go_wp2_with fail
    refine Calls.mono HC ?_
    rintro e w1 ⟨rfl,hb1⟩
    go_wp2
    go_ret
    exact ⟨_,rfl,below_then hB hb1,.inr HE.out⟩
  ·have c1 : (l.length : Int) ≤ (k : Int) := by omega
   have HN : Hid (∀ x ∈ l,b x = false) := hid1 fun x hx => HZ.out x (by rwa [List.take_of_length_le (by omega)])
   go_wp2
   go_ret
   exact ⟨_,rfl,hB,.inl ⟨rfl,HN.out⟩⟩
theorem containsFuncI_calls {w : World} (v : Value) (l : List Nat) (hrow : NIRow w v l) (hl : l.length ≤ 1000000) (f : Nat) (caps : Array Value) (eg : ∀ args w,(callFunc f args).run Tryz.prog w = .ok (.enter f args) w) (b : Nat → Bool)
  (HS : Hid (∀ x ∈ l,∀ W,Below w.heap.size w W → Calls Tryz.prog f (#[nv x] ++ caps) W fun e w' => e = .returned (.bool (b x)) ∧ Below W.heap.size W w')) :
  Calls Tryz.prog 206 #[v,.func (.func f) #[] caps] w fun e w' => e = .returned (.bool (l.any b)) ∧ Below w.heap.size w w' := by
 have HC := hid1 (indexFuncI_calls v l hrow hl f caps eg b HS)
 obtain ⟨p,cap,rfl,hin⟩ := hrow
 have HD : Hid (∀ d : Bool,(d = true ↔ ∃ x ∈ l,b x = true) → l.any b = d) := hid1 fun d hd => by
  rw [Bool.eq_iff_iff,hd,List.any_eq_true]
 generalize l.any b = d at *
 go_enter Tryz.func206,Tryz.ntmps206
 go_wp2_with fail
 refine HC.out.mono ?_
 rintro e w1 ⟨r,rfl,hb,h⟩
 rcases h with ⟨rfl,h⟩ | ⟨k,rfl,hk,h,_⟩
 ·obtain rfl := HD.out false (by
   simp
   intro x hx
   simpa using h x hx)
  go_wp2
  go_ret
  exact ⟨rfl,hb⟩
 ·have z : (0 : Int) ≤ (k : Int) := by omega
  obtain rfl := HD.out true (by
   simp
   exact ⟨_,List.getElem_mem hk,h⟩)
  go_wp2
  go_ret
  exact ⟨rfl,hb⟩
theorem grmeet1_calls {w : World} (x : Nat) (b : Nat) (v : Value) (l : List Nat) (hb : w.cell? ⟨b,0,none⟩ = some v) (hrow : NIRow w v l) (hl : l.length ≤ 1000000) :
  Calls Tryz.prog 207 #[nv x,.pointer (some ⟨b,0,none⟩)] w fun e w' => e = .returned (.bool (decide (x ∈ l))) ∧ Below w.heap.size w w' := by
 have HC := hid1 (slContainsI_calls v l x hrow hl)
 obtain ⟨p,cap,rfl,hin⟩ := hrow
 generalize decide (x ∈ l) = d at *
 go_enter Tryz.func207,Tryz.ntmps207
 go_wp2_with fail
 refine HC.out.mono ?_
 rintro e w1 ⟨rfl,rfl⟩
 go_wp2
 go_ret
 exact ⟨rfl,Below.refl _ _⟩
theorem grmeet_calls {w : World} (va vb : Value) (la lb : List Nat) (ha : NIRow w va la) (hb : NIRow w vb lb) (hla : la.length ≤ 1000000) (hlb : lb.length ≤ 1000000) :
  Calls Tryz.prog 160 #[va,vb] w fun e w' => e = .returned (.bool (la.any fun x => decide (x ∈ lb))) ∧ Below w.heap.size w w' := by
 have hB0 : Below w.heap.size w (w.alloc (.cells #[vb] 147)) := (Below.refl _ w).alloc (Nat.le_refl _) _
 have hv0 : (w.alloc (.cells #[vb] 147)).cell? ⟨w.heap.size,0,none⟩ = some vb := by simp
 have HC := hid1 (containsFuncI_calls (w := w.alloc (.cells #[vb] 147)) va la (ha.below hB0) hla 207 #[.pointer (some ⟨w.heap.size,0,none⟩)] (enters_of Tryz.func207 (by kernel_rfl) rfl) (fun x => decide (x ∈ lb))
  (hid1 fun x _ W g => grmeet1_calls x w.heap.size vb lb (cell_below' hv0 g) ((hb.below hB0).below g) hlb))
 obtain ⟨pa,ca,rfl,-⟩ := ha
 obtain ⟨pb,cb,rfl,-⟩ := hb
 generalize (la.any fun x => decide (x ∈ lb)) = d at *
 go_enter Tryz.func160,Tryz.ntmps160
 go_wp2_with fail
 refine HC.out.mono ?_
 rintro e w1 ⟨rfl,g⟩
 have g1 := below_then hB0 g
 go_wp2
 go_ret
 exact ⟨rfl,g1⟩
def withN (l : List Nat) (x : Nat) : List Nat := if x ∈ l then l else l ++ [x]
theorem withN_mem (l : List Nat) (x y : Nat) : y ∈ withN l x ↔ y ∈ l ∨ y = x := by
 unfold withN
 split
 ·rename_i h
  constructor
  ·exact .inl
  ·rintro (h1 | rfl)
   ·exact h1
   ·exact h
 ·simp
theorem withN_once {l : List Nat} (h : l.Nodup) (x : Nat) : (withN l x).Nodup := by
 unfold withN
 split
 ·exact h
 ·rename_i hx
  rw [List.nodup_append]
  exact ⟨h,by simp,fun a ha b hb => by
   rw [List.mem_singleton.1 hb]
   rintro rfl
   exact hx ha⟩
end Go.Proofs.YtdljhggillgpfaaGreatDoor
namespace Go.Proofs.YtdljhggillgpfaaGreatDoor
open Go.RowKit Go.Shelf Go.Lib
theorem Tryz.infoInts : (Tryz.prog.info? 147).map (fun i => (i.zero,i.size,i.bytes)) = some (some (.slice none 0 0),1,24) := by kernel_rfl
end Go.Proofs.YtdljhggillgpfaaGreatDoor
