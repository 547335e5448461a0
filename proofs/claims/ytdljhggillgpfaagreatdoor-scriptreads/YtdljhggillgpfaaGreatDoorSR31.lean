import Derived.Test.YtdljhggillgpfaaGreatDoorSR30
set_option maxRecDepth 100000
set_option maxHeartbeats 16000000
namespace Go.Proofs.YtdljhggillgpfaaGreatDoor
open Go.RowKit Go.Shelf Go.Lib Go.Maps
theorem Tryz.infoBInput : (Tryz.prog.info? 301).map (fun i => (i.zero,i.size,i.bytes)) = some (some (.agg #[.pointer none,.string ⟨#[]⟩,.bool false]),3,32) := by kernel_rfl
theorem Tryz.infoPStep : (Tryz.prog.info? 262).map (fun i => (i.zero,i.size,i.bytes)) = some (some (.pointer none),1,8) := by kernel_rfl
def MMap (W : World) (mb n : Nat) (fd : List UInt8 → Option Nat) : Prop :=
 ∃ D : DataW Unit,W.ownsMap Tryz.prog 9 stepElem mb n D ∧ (∀ x,has D (.string x) = (fd x).isSome) ∧ ∀ x z,(fd x).isSome = true → D.atKey (.string x) z = .lit (.int .i64 (stepI (fd x)))
theorem MMap.lt {W : World} {mb n : Nat} {fd : List UInt8 → Option Nat} (h : MMap W mb n fd) : mb < W.heap.size := by
 obtain ⟨D,h1,_⟩ := h
 exact h1.lt
theorem MMap.same {W W' : World} {mb n : Nat} {fd : List UInt8 → Option Nat} (h : MMap W mb n fd) (hb : W'.heap[mb]? = W.heap[mb]?) : MMap W' mb n fd := by
 obtain ⟨D,⟨es,clock,h1,F⟩,h2⟩ := h
 exact ⟨D,⟨es,clock,hb.trans h1,F⟩,h2⟩
theorem MMap.made (W : World) : MMap (W.alloc (.map #[] 0)) W.heap.size 0 (fun _ => none) :=
 ⟨.map [],World.ownsMap_made W _ _ _,fun _ => rfl,fun x z h => by cases h⟩
theorem MMap.isMap {W : World} {mb n : Nat} {fd : List UInt8 → Option Nat} (h : MMap W mb n fd) : ∃ a c,W.heap[mb]? = some (.map a c) := by
 obtain ⟨D,⟨es,clock,h1,F⟩,h2⟩ := h
 exact ⟨_,_,h1⟩
theorem SMap.isMap {W : World} {bm n : Nat} {dom : Nat → Prop} {sp : Nat → Nat} (h : SMap W bm n dom sp) : ∃ a c,W.heap[bm]? = some (.map a c) := by
 obtain ⟨D,⟨es,clock,h1,F⟩,h2⟩ := h
 exact ⟨_,_,h1⟩
theorem MMap.look {W : World} {mb n : Nat} {fd : List UInt8 → Option Nat} (h : MMap W mb n fd) (x : List UInt8) (hx : x.length ≤ 1000000) :
  (Instr.lookup 261 (.map (some mb)) (.string (ba x)) true).run Tryz.prog W = .ok (.tuple #[stepP (fd x),.bool (fd x).isSome]) W := by
 obtain ⟨D,h2,h3,h4⟩ := h
 obtain ⟨v,ps,hrun,hv⟩ := h2.look_ok (t := 261) (e := 262) claw Tryz.underlying261 (z := .pointer none) (Tryz.zeroValue262 W) (zd := .lit (.int .i64 (-1))) (zp := []) rfl (ckey x hx)
 obtain ⟨c,rfl⟩ := stepElem_inv _ _ hv
 rw [stepElem_mk] at hv
 have hc : (DataW.lit (.int .i64 (stepI c)) : DataW Unit) = D.atKey (.string x) (.lit (.int .i64 (-1))) := by simpa using congrArg (fun o => o.map Prod.fst) hv
 rw [hrun,h3]
 have : c = fd x := by
  cases hf : (fd x).isSome with
  | true =>
   rw [h4 x _ hf] at hc
   exact stepI_inj (by simpa using hc)
  | false =>
   have hh : has D (.string x) = false := by rw [h3,hf]
   rw [atKey_of_not_has hh] at hc
   have h5 : c = none := stepI_inj (by simpa [stepI] using hc)
   rw [h5]
   cases hfx : fd x with
   | none => rfl
   | some b => rw [hfx] at hf;cases hf
 rw [this]
theorem MMap.laid {W : World} {mb n : Nat} {fd : List UInt8 → Option Nat} (h : MMap W mb n fd) (hn : n < maxLen) (x : List UInt8) (hx : x.length ≤ 1000000) (b : Nat) :
  ∃ w1,(Instr.mapUpdate 261 (.map (some mb)) (.string (ba x)) (Ptr b)).run Tryz.prog W = .ok () w1 ∧ MMap w1 mb (n + 1) (fun y => if y = x then some b else fd y) ∧ W.mapTurned w1 mb := by
 obtain ⟨D,h2,h3,h4⟩ := h
 obtain ⟨w1,hr,ho1,ht⟩ := h2.store (t := 261) (e := 262) claw Tryz.underlying261 hn (ckey x hx) (stepElem_mk (some b))
 have hT := h2.tidy claw
 have hk : WideAt.IsKeyLit (.string x) := by simp [WideAt.IsKeyLit]
 refine ⟨w1,hr,⟨_,ho1,fun y => ?_,fun y z hy => ?_⟩,ht⟩
 ·show _ = (if y = x then some b else fd y).isSome
  by_cases e : y = x
  ·subst e
   rw [if_pos rfl,has_put_same hT.isMap hk]
   rfl
  ·rw [if_neg e,has_put_other (by simpa using e),h3]
 ·replace hy : (if y = x then some b else fd y).isSome = true := hy
  show _ = DataW.lit (.int .i64 (stepI (if y = x then some b else fd y)))
  by_cases e : y = x
  ·subst e
   rw [if_pos rfl,atKey_put_same hT.isMap hk]
  ·rw [if_neg e] at hy ⊢
   rw [atKey_put_other (by simpa using e),h4 y z hy]
theorem SMap.laid {W : World} {bm n : Nat} {dom : Nat → Prop} {sp : Nat → Nat} (h : SMap W bm n dom sp) (hn : n < maxLen) (i b : Nat) (hi : i ≤ 1000000) :
  ∃ w1,(Instr.mapUpdate 222 (.map (some bm)) (.int .i64 (i : Nat)) (Ptr b)).run Tryz.prog W = .ok () w1 ∧ SMap w1 bm (n + 1) (fun k => dom k ∨ k = i) (updN sp i b) ∧ W.mapTurned w1 bm := by
 obtain ⟨D,h2,h3,h4⟩ := h
 obtain ⟨w1,hr,ho1,ht⟩ := h2.store (t := 222) (e := 262) ilaw Tryz.underlying222 hn (ikey (i : Nat) (by omega) (by omega)) (stepElem_mk (some b))
 have hT := h2.tidy ilaw
 have hk : WideAt.IsKeyLit (.int .i64 (i : Nat)) := by simp [WideAt.IsKeyLit]
 refine ⟨w1,hr,⟨_,ho1,fun y => ?_,fun k hd z => ?_⟩,ht⟩
 ·by_cases e : y = (i : Nat)
  ·subst e
   rw [has_put_same hT.isMap hk]
   simp
  ·rw [has_put_other (by simpa using e),h3]
   constructor
   ·rintro ⟨a,c⟩
    exact ⟨a,.inl c⟩
   ·rintro ⟨a,c | c⟩
    ·exact ⟨a,c⟩
    ·omega
 ·by_cases e : k = i
  ·subst e
   rw [atKey_put_same hT.isMap hk,updN_same]
   rfl
  ·rw [atKey_put_other (by simp;omega),updN_other e]
   rcases hd with h5 | h5
   ·exact h4 k h5 z
   ·exact absurd h5 e
def Lay.more (L : Lay) (i b : Nat) : Lay := ⟨updN L.sp i b,updN L.iv i (.slice none 0 0),updN L.uv i (.slice none 0 0),updN L.us i []⟩
theorem Mk.more {es : Nat → Addr} {W0 W W' : World} {dom : Nat → Prop} {L : Lay} {ru : Nat → Ru} {ins : Nat → List Inp} (h : Mk es W0 W dom L ru ins) {i b : Nat} (hi : ¬ dom i) (hb : Below W.heap.size W W') (hz : W.heap.size ≤ b) (hr : W'.heap[b]? = some (.cells (stepC es (ru i) (.slice none 0 0) (.slice none 0 0) .waits) 272)) :
  Mk es W0 W' (fun k => dom k ∨ k = i) (L.more i b) ru (updN ins i []) ∧ ∀ j,SBlk (fun k => dom k ∨ k = i) (L.more i b) j → SBlk dom L j ∨ W.heap.size ≤ j := by
 have hS := h.steps.below hb
 have hlt := h.steps.lt
 have ne : ∀ k,dom k → k ≠ i := fun k hk e => hi (e ▸ hk)
 have hsp : ∀ k,dom k → (L.more i b).sp k = L.sp k := fun k hk => updN_other (ne k hk)
 have hiv : ∀ k,dom k → (L.more i b).iv k = L.iv k := fun k hk => updN_other (ne k hk)
 have huv : ∀ k,dom k → (L.more i b).uv k = L.uv k := fun k hk => updN_other (ne k hk)
 have hus : ∀ k,dom k → (L.more i b).us k = L.us k := fun k hk => updN_other (ne k hk)
 have hin : ∀ k,dom k → updN ins i [] k = ins k := fun k hk => updN_other (ne k hk)
 have hspi : (L.more i b).sp i = b := updN_same _ _ _
 have hivi : (L.more i b).iv i = .slice none 0 0 := updN_same _ _ _
 have huvi : (L.more i b).uv i = .slice none 0 0 := updN_same _ _ _
 have husi : (L.more i b).us i = [] := updN_same _ _ _
 have hini : updN ins i [] i = [] := updN_same _ _ _
 have hblk : ∀ j,SBlk (fun k => dom k ∨ k = i) (L.more i b) j → SBlk dom L j ∨ W.heap.size ≤ j := by
  rintro j ⟨k,hk | rfl,e⟩
  ·rw [hsp k hk,hiv k hk,huv k hk] at e
   exact .inl ⟨k,hk,e⟩
  ·rw [hspi,hivi,huvi] at e
   rcases e with e | e | e
   ·exact .inr (by omega)
   ·cases e
   ·cases e
 refine ⟨⟨below_then h.base hb,⟨?_,?_,?_,?_,?_,?_⟩,?_,?_,?_⟩,hblk⟩
 ·rintro k (hk | rfl)
  ·rw [hsp k hk,hiv k hk,huv k hk]
   exact hS.step k hk
  ·rw [hspi,hivi,huvi]
   exact hr
 ·rintro j k (hj | rfl) (hk | rfl) e
  ·rw [hsp j hj,hsp k hk] at e
   exact hS.inj j k hj hk e
  ·rw [hsp j hj,hspi] at e
   have := hlt _ ⟨j,hj,.inl rfl⟩
   omega
  ·rw [hspi,hsp k hk] at e
   have := hlt _ ⟨k,hk,.inl rfl⟩
   omega
  ·rfl
 ·rintro k (hk | rfl)
  ·rw [hiv k hk,hin k hk,insC_congr (sp' := L.sp) fun j hj => hsp j (hS.insD k hk j hj)]
   exact hS.insR k hk
  ·rw [hivi,hini]
   exact World.ownsRow_nil _ _ _ _
 ·rintro k (hk | rfl)
  ·rw [huv k hk,hus k hk,usC_congr (sp' := L.sp) fun j hj => hsp j (hS.usD k hk j hj)]
   exact hS.usR k hk
  ·rw [huvi,husi]
   exact World.ownsRow_nil _ _ _ _
 ·rintro k (hk | rfl) j hj
  ·rw [hin k hk] at hj
   exact .inl (hS.insD k hk j hj)
  ·rw [hini] at hj
   cases hj
 ·rintro k (hk | rfl) j hj
  ·rw [hus k hk] at hj
   exact .inl (hS.usD k hk j hj)
  ·rw [husi] at hj
   cases hj
 ·intro j hj
  rcases hblk j hj with h1 | h1
  ·exact h.low j h1
  ·have := h.base.size
   omega
 ·rintro j k (hj | rfl) (hk | rfl) hne c hc
  ·rw [huv j hj] at hc
   rw [huv k hk]
   exact h.sepU j k hj hk hne c hc
  ·rw [huvi]
   intro e
   cases e
  ·rw [huvi] at hc
   cases hc
  ·exact absurd rfl hne
 ·rintro j k (hj | rfl) (hk | rfl) hne c hc
  ·rw [hiv j hj] at hc
   rw [hiv k hk]
   exact h.sepI j k hj hk hne c hc
  ·rw [hivi]
   intro e
   cases e
  ·rw [hivi] at hc
   cases hc
  ·exact absurd rfl hne
structure NewS (es : Nat → Addr) (W0 We : World) (dom : Nat → Prop) (L : Lay) (ru : Nat → Ru) (ins : Nat → List Inp) (i sb : Nat) (xs ux : List Inp) (L' : Lay) (wr : World) : Prop where
 made : Mk es W0 wr (fun k => dom k ∨ k = i) L' ru (updN ins i xs)
 sp : L'.sp = updN L.sp i sb
 us : ∀ k,dom k → ∀ j,j ∈ L'.us k ↔ j ∈ L.us k ∨ (j = i ∧ Inp.rule k ∈ ux)
 usi : L'.us i = []
 usl : ∀ k,dom k → (L'.us k).length ≤ (L.us k).length + ux.length
 only : Only (SBlk dom L) We wr
 blk : ∀ j,SBlk (fun k => dom k ∨ k = i) L' j → SBlk dom L j ∨ We.heap.size ≤ j
theorem NewS.below {es : Nat → Addr} {W0 We : World} {dom : Nat → Prop} {L : Lay} {ru : Nat → Ru} {ins : Nat → List Inp} {i sb : Nat} {xs ux : List Inp} {L' : Lay} {wr w' : World} (h : NewS es W0 We dom L ru ins i sb xs ux L' wr) (hb : Below wr.heap.size wr w') : NewS es W0 We dom L ru ins i sb xs ux L' w' :=
 ⟨h.made.below hb,h.sp,h.us,h.usi,h.usl,h.only.trans (Only.of hb) fun _ hj => .inl hj,h.blk⟩
theorem updN_twice {α : Type} (f : Nat → α) (i : Nat) (x y : α) : updN (updN f i x) i y = updN f i y := by
 funext j
 unfold updN
 split <;> rfl
theorem NewS.other {es : Nat → Addr} {W0 We : World} {dom : Nat → Prop} {L : Lay} {ru : Nat → Ru} {ins : Nat → List Inp} {i sb : Nat} {xs ux : List Inp} {L' : Lay} {wr : World} (h : NewS es W0 We dom L ru ins i sb xs ux L' wr) {x : Inp} (hx : ∀ k,x ≠ .rule k) : NewS es W0 We dom L ru ins i sb xs (ux ++ [x]) L' wr := by
 refine ⟨h.made,h.sp,fun k hk j => ?_,h.usi,fun k hk => ?_,h.only,h.blk⟩
 ·rw [h.us k hk,List.mem_append,List.mem_singleton]
  constructor
  ·rintro (h1 | ⟨h1,h2⟩)
   ·exact .inl h1
   ·exact .inr ⟨h1,.inl h2⟩
  ·rintro (h1 | ⟨h1,h2 | h2⟩)
   ·exact .inl h1
   ·exact .inr ⟨h1,h2⟩
   ·exact absurd h2.symm (hx k)
 ·have := h.usl k hk
  rw [List.length_append,List.length_singleton]
  omega
theorem NewS.put {es : Nat → Addr} {W0 We : World} {dom : Nat → Prop} {L : Lay} {ru : Nat → Ru} {ins : Nat → List Inp} {i sb : Nat} {xs ux : List Inp} {L' : Lay} {wr w8 : World} (h : NewS es W0 We dom L ru ins i sb xs ux L' wr) (x : Inp) (hx : ∀ j,x = .rule j → dom j) {o : Obj} {g8 cap8 : Nat} (hown : w8.ownsRow 0 301 3 (.slice (some ⟨g8,0,none⟩) (xs.length + 1) cap8) (xs.length + 1) (insC L'.sp xs ++ x.vals L'.sp)) (hg : (wr.alloc o).grownBy w8 (L'.iv i).ownBlock) (hl : (L'.iv i).ownBlock = some g8 ∨ g8 = (wr.alloc o).heap.size) :
  w8.cell? ⟨sb,2,none⟩ = some (L'.iv i) ∧ w8.frozen? ⟨sb,2,none⟩ = false ∧ sb < w8.heap.size ∧
  NewS es W0 We dom L ru ins i sb (xs ++ [x]) ux (L'.setI i (.slice (some ⟨g8,0,none⟩) (xs.length + 1) cap8)) (w8.setCell ⟨sb,2,none⟩ (.slice (some ⟨g8,0,none⟩) (xs.length + 1) cap8)) := by
 have hspi : L'.sp i = sb := by rw [h.sp,updN_same]
 have hii : updN ins i xs i = xs := updN_same _ _ _
 obtain ⟨q1,q2,q3,q4,q5,q6⟩ := h.made.appI (k := i) (.inr rfl) x (fun j hj => .inl (hx j hj)) (o := o) (g8 := g8) (cap8 := cap8) (w8 := w8) (by rw [hii];exact hown) hg hl
 rw [hspi] at q1 q2 q3
 rw [hspi,hii,updN_twice] at q4
 rw [hspi,hii] at q5
 rw [hii] at q6
 have hz := h.only.size
 refine ⟨q1,q2,q3,q4,h.sp,h.us,h.usi,h.usl,h.only.trans q5 h.blk,fun j hj => ?_⟩
 rcases q6 j hj with h1 | h1
 ·exact h.blk j h1
 ·exact .inr (by omega)
theorem NewS.user {es : Nat → Addr} {W0 We : World} {dom : Nat → Prop} {L : Lay} {ru : Nat → Ru} {ins : Nat → List Inp} {i sb : Nat} {xs ux : List Inp} {L' : Lay} {wr w8 : World} (h : NewS es W0 We dom L ru ins i sb xs ux L' wr) {k : Nat} (hk : dom k) (hi : ¬ dom i) {o : Obj} {g8 cap8 : Nat} (hown : w8.ownsRow 0 262 1 (.slice (some ⟨g8,0,none⟩) ((L'.us k).length + 1) cap8) ((L'.us k).length + 1) (usC L'.sp (L'.us k) ++ [Ptr sb])) (hg : (wr.alloc o).grownBy w8 (L'.uv k).ownBlock) (hl : (L'.uv k).ownBlock = some g8 ∨ g8 = (wr.alloc o).heap.size) :
  w8.cell? ⟨L'.sp k,3,none⟩ = some (L'.uv k) ∧ w8.frozen? ⟨L'.sp k,3,none⟩ = false ∧ L'.sp k < w8.heap.size ∧
  NewS es W0 We dom L ru ins i sb xs (ux ++ [.rule k]) (L'.addU k i (.slice (some ⟨g8,0,none⟩) ((L'.us k).length + 1) cap8)) (w8.setCell ⟨L'.sp k,3,none⟩ (.slice (some ⟨g8,0,none⟩) ((L'.us k).length + 1) cap8)) := by
 have hspi : L'.sp i = sb := by rw [h.sp,updN_same]
 have hki : k ≠ i := fun e => hi (e ▸ hk)
 obtain ⟨q1,q2,q3,q4,q5,q6⟩ := h.made.appU (k := k) (x := i) (.inl hk) (.inr rfl) (o := o) (g8 := g8) (cap8 := cap8) (w8 := w8) (by rw [hspi];exact hown) hg hl
 have hz := h.only.size
 refine ⟨q1,q2,q3,q4,h.sp,fun c hc j => ?_,?_,fun c hc => ?_,h.only.trans q5 h.blk,fun j hj => ?_⟩
 ·by_cases e : c = k
  ·subst e
   rw [show (L'.addU c i (.slice (some ⟨g8,0,none⟩) ((L'.us c).length + 1) cap8)).us c = L'.us c ++ [i] from updN_same _ _ _,List.mem_append,h.us c hc,List.mem_append,List.mem_singleton,List.mem_singleton]
   constructor
   ·rintro ((h1 | ⟨h1,h2⟩) | h1)
    ·exact .inl h1
    ·exact .inr ⟨h1,.inl h2⟩
    ·exact .inr ⟨h1,.inr rfl⟩
   ·rintro (h1 | ⟨h1,_⟩)
    ·exact .inl (.inl h1)
    ·exact .inr h1
  ·rw [show (L'.addU k i (.slice (some ⟨g8,0,none⟩) ((L'.us k).length + 1) cap8)).us c = L'.us c from updN_other e,h.us c hc,List.mem_append,List.mem_singleton]
   constructor
   ·rintro (h1 | ⟨h1,h2⟩)
    ·exact .inl h1
    ·exact .inr ⟨h1,.inl h2⟩
   ·rintro (h1 | ⟨h1,h2 | h2⟩)
    ·exact .inl h1
    ·exact .inr ⟨h1,h2⟩
    ·exact absurd (by simpa using h2) e
 ·rw [show (L'.addU k i (.slice (some ⟨g8,0,none⟩) ((L'.us k).length + 1) cap8)).us i = L'.us i from updN_other fun e => hki e.symm]
  exact h.usi
 ·have h1 := h.usl c hc
  rw [List.length_append,List.length_singleton]
  by_cases e : c = k
  ·subst e
   rw [show (L'.addU c i (.slice (some ⟨g8,0,none⟩) ((L'.us c).length + 1) cap8)).us c = L'.us c ++ [i] from updN_same _ _ _,List.length_append,List.length_singleton]
   omega
  ·rw [show (L'.addU k i (.slice (some ⟨g8,0,none⟩) ((L'.us k).length + 1) cap8)).us c = L'.us c from updN_other e]
   omega
 ·rcases q6 j hj with h1 | h1
  ·exact h.blk j h1
  ·exact .inr (by omega)
theorem hasP_get (fs : Tf.Fs) (p : List UInt8) : Tf.hasP fs p = (Tf.get fs p).isSome := by
 unfold Tf.hasP Tf.get
 rw [Option.isSome_map,Bool.eq_iff_iff,List.find?_isSome,List.any_eq_true]
theorem three_new (W : World) (x y z : Value) (t : TypeId) (n : Nat) (hn : W.heap.size = n) (j : Nat) (u : Value) (h : [x,y,z][j]? = some u) : (W.alloc (.cells #[x,y,z] t)).cell? ((⟨n,0,none⟩ : Addr).add j) = some u := by
 subst hn
 have r := row_new W (.cells #[x,y,z] t)
 match j,h with
 | 0,h => exact cell_of_row (j := 0) r (by simpa using h)
 | 1,h => exact cell_of_row (j := 1) r (by simpa using h)
 | 2,h => exact cell_of_row (j := 2) r (by simpa using h)
 | j + 3,h => simp at h
theorem newStep_calls {es : Nat → Addr} {W0 We : World} {dom : Nat → Prop} {L : Lay} {ru : Nat → Ru} {ins : Nat → List Inp} (h : Mk es W0 We dom L ru ins) {i : Nat} (hi : ¬ dom i) {Bt tb : Nat} {fs : Tf.Fs} {o : Option Nat} (hT : TreeAt Bt W0 tb fs o) (u : Value) (hu : XRow W0 u (ru i).ins) (h12 : (ru i).ins.length ≤ 12) (hxl : ∀ x ∈ (ru i).ins,x.length ≤ 1000000) {mb n : Nat} {fd : List UInt8 → Option Nat} (hm : MMap We mb n fd) (fi : List UInt8 → Inp)
  (hfi : ∀ x ∈ (ru i).ins,(∃ k,fi x = .rule k ∧ dom k ∧ fd x = some (L.sp k)) ∨ (fd x = none ∧ ∃ b,Tf.get fs x = some b ∧ fi x = .file b) ∨ (fd x = none ∧ Tf.get fs x = none ∧ fi x = .gone)) (husl : ∀ k,dom k → (L.us k).length ≤ 1000) :
  Calls Tryz.prog 195 #[Ptr tb,ruV (ru i) u,.map (some mb)] We fun e w' => ∃ sb L',e = .returned (Ptr sb) ∧ We.heap.size ≤ sb ∧ NewS es W0 We dom L ru ins i sb ((ru i).ins.map fi) ((ru i).ins.map fi) L' w' := by
 obtain ⟨iU,hU,hU0,hU1,hU2⟩ := info_parts Tryz.infoPStep
 obtain ⟨iB,hB,hB0,hB1,hB2⟩ := info_parts Tryz.infoBInput
 obtain ⟨pu,cu,rfl,hcu,hnu,hin⟩ := hu
 have HIn := hid1 hin
 have HT := hid1 hT
 have HXl := hid1 hxl
 have HFi := hid1 hfi
 have HUl := hid1 husl
 have HD := hid1 hi
 have gA : Below We.heap.size We ((We.alloc (.cells #[.string (ba (ru i).out),.string (ba (ru i).kind),.string (ba (ru i).word),.slice pu (ru i).ins.length cu] 36)).alloc (.cells #[.string (ba (ru i).kind),.string (ba (ru i).word),.slice none 0 0,.slice none 0 0,.int .i64 0,.string ⟨#[]⟩,.nilIface] 272)) := ((Below.refl _ We).alloc (Nat.le_refl _) _).alloc (by simp) _
 obtain ⟨hmk,hblk⟩ := h.more (i := i) (b := We.heap.size + 1) hi gA (by omega) (heap_alloc2_new We _ _)
 have HS0 : Hid (NewS es W0 We dom L ru ins i (We.heap.size + 1) [] [] (L.more i (We.heap.size + 1)) ((We.alloc (.cells #[.string (ba (ru i).out),.string (ba (ru i).kind),.string (ba (ru i).word),.slice pu (ru i).ins.length cu] 36)).alloc (.cells #[.string (ba (ru i).kind),.string (ba (ru i).word),.slice none 0 0,.slice none 0 0,.int .i64 0,.string ⟨#[]⟩,.nilIface] 272))) := hid1 ⟨hmk,rfl,fun k hk j => by rw [show (L.more i (We.heap.size + 1)).us k = L.us k from updN_other fun e => hi (e ▸ hk)];simp,updN_same _ _ _,fun k hk => by rw [show (L.more i (We.heap.size + 1)).us k = L.us k from updN_other fun e => hi (e ▸ hk)];simp,Only.of gA,hblk⟩
 have HMp : Hid (∀ V,Only (SBlk dom L) We V → ∀ x,x.length ≤ 1000000 → (Instr.lookup 261 (.map (some mb)) (.string (ba x)) true).run Tryz.prog V = .ok (.tuple #[stepP (fd x),.bool (fd x).isSome]) V) := hid1 fun V hV x hx => by
  refine (hm.same (hV.block mb hm.lt ?_)).look x hx
  rintro ⟨k,hk,e⟩
  obtain ⟨a,c,e0⟩ := hm.isMap
  rcases e with e | e | e
  ·rw [e,h.steps.step k hk] at e0
   cases e0
  ·obtain ⟨_,e1⟩ := own_in (h.steps.insR k hk) e
   rw [e1] at e0
   cases e0
  ·obtain ⟨_,e1⟩ := own_in (h.steps.usR k hk) e
   rw [e1] at e0
   cases e0
 have hst : ∀ (a : Addr) (m : Mode) (W : World),Sem.run Tryz.prog (store a (.slice pu (ru i).ins.length cu) m) W = stored Tryz.prog W a (.slice pu (ru i).ins.length cu) m := fun a m W => run_store _ W a _ m rfl
 unfold ruV
 clear h hi hT hxl hm hfi husl hin hmk hblk gA
 go_enter Tryz.func195,Tryz.ntmps195
 go_wp2
 go_loopw [23] (fun iv wr => ∃ (m : Nat) (L' : Lay),m ≤ (ru i).ins.length ∧ iv = .int .i64 m ∧ NewS es W0 We dom L ru ins i (We.heap.size + 1) (((ru i).ins.take m).map fi) (((ru i).ins.take m).map fi) L' wr) (fun iv _ => (ru i).ins.length - (intOf iv).toNat)
 case atStart => exact ⟨0,_,Nat.zero_le _,rfl,HS0.out⟩
 case round =>
  clear HS0
  obtain ⟨m,L',hm,rfl,hN⟩ := hrel
  have HN := hid1 hN
  clear hN
  have m0 : (0 : Int) ≤ (m : Int) := by omega
  by_cases hlt : m < (ru i).ins.length
  ·have m1 : (m : Int) < ((ru i).ins.length : Int) := by omega
   obtain ⟨g,og,rfl,hg,hc⟩ := HIn.out (by intro e;rw [e] at hlt;simp at hlt)
   have d0 := (HN.out.made.base.cell (p := ⟨g,og + m,none⟩) hg).trans (hc m hlt)
   have hmem : (ru i).ins[m] ∈ (ru i).ins := List.getElem_mem hlt
   have htk : ((ru i).ins.take (m + 1)).map fi = ((ru i).ins.take m).map fi ++ [fi (ru i).ins[m]] := by
    rw [List.take_succ_eq_append_getElem hlt,List.map_append]
    rfl
   have hlk := HMp.out wr HN.out.only (ru i).ins[m] (HXl.out _ hmem)
   have HTk := hid1 htk
   have hml : (((ru i).ins.take m).map fi).length = m := by simp;omega
   have HF := HFi.out _ hmem
   have hxm := HXl.out _ hmem
   have HGt := hid1 (Get_calls (HT.out.below HN.out.made.base) (ru i).ins[m] hxm)
   clear hc hmem htk HIn HMp
   generalize (ru i).ins[m] = x at *
   generalize hxs : ((ru i).ins.take m).map fi = xs at *
   clear hxs
   have hivR := HN.out.made.steps.insR i (.inr rfl)
   rw [updN_same] at hivR
   have hspi : L'.sp i = We.heap.size + 1 := by rw [HN.out.sp,updN_same]
   have hAi := HN.out.made.steps.at (i := i) (.inr rfl)
   rw [hspi] at hAi
   obtain ⟨pi,ci,ei⟩ := own_val hivR
   have hxl2 : xs.length + 1 ≤ maxLen := by unfold maxLen;omega
   have hxl3 : (xs.length + 1) * 32 ≤ 140737488355328 := by omega
   have HMl := hid1 hml
   clear hml
   have a2 := hAi.c2
   rcases HF with ⟨k,hfx,hdk,hfd⟩ | ⟨hfd,b,hgx,hfx⟩ | ⟨hfd,hgx,hfx⟩
   ·rw [hfx] at HTk
    rw [hfd] at hlk
    simp only [stepP,Option.isSome_some] at hlk
    have hki : k ≠ i := fun e => HD.out (e ▸ hdk)
    have hspk : L'.sp k = L.sp k := by rw [HN.out.sp,updN_other hki]
    have hAk := HN.out.made.steps.at (i := k) (.inl hdk)
    have huR := HN.out.made.steps.usR k (.inl hdk)
    rw [hspk] at hAk
    obtain ⟨pk,ck,ek⟩ := own_val huR
    have b3 := hAk.c3
    have hul := HN.out.usl k hdk
    have hul0 := HUl.out k hdk
    have hul2 : (L'.us k).length + 1 ≤ maxLen := by have := HMl.out;unfold maxLen;omega
    have hul3 : ((L'.us k).length + 1) * 8 ≤ 140737488355328 := by have := HMl.out;omega
    have HUs := hid1 fun w8 g8 cap8 hown hg hl => HN.out.user (w8 := w8) (o := .cells #[Ptr (We.heap.size + 1)] 262) (g8 := g8) (cap8 := cap8) hdk HD.out hown hg hl
    rw [hspk] at HUs
    have HEi : Hid (L'.iv i = .slice pi xs.length ci) := hid1 ei
    rw [ek] at b3
    rw [ei] at a2
    have huR' := huR
    rw [ek] at huR'
    have HEk := hid1 ek
    have HSp := hid1 hspi
    have HSk := hid1 hspk
    have HAt : Hid (∀ w9 ux v,NewS es W0 We dom L ru ins i (We.heap.size + 1) xs ux (L'.addU k i v) w9 → w9.cell? ⟨We.heap.size + 1,2,none⟩ = some (.slice pi xs.length ci)) := hid1 fun w9 ux v h9 => by
     have := (h9.made.steps.at (i := i) (.inr rfl)).c2
     rw [show (L'.addU k i v).sp i = We.heap.size + 1 from HSp.out,show (L'.addU k i v).iv i = _ from HEi.out] at this
     exact this
    have HIR : Hid (∀ w9 ux v,NewS es W0 We dom L ru ins i (We.heap.size + 1) xs ux (L'.addU k i v) w9 → w9.ownsRow 0 301 3 (.slice pi xs.length ci) xs.length (insC L'.sp xs)) := hid1 fun w9 ux v h9 => by
     have := h9.made.steps.insR i (.inr rfl)
     rw [updN_same,show (L'.addU k i v).iv i = _ from HEi.out] at this
     exact this
    have HPut : Hid (∀ w9 ux v,NewS es W0 We dom L ru ins i (We.heap.size + 1) xs ux (L'.addU k i v) w9 → ∀ (w7 : World) (g7 cap7 : Nat),w7.ownsRow 0 301 3 (.slice (some ⟨g7,0,none⟩) (xs.length + 1) cap7) (xs.length + 1) (insC L'.sp xs ++ [Ptr (L.sp k),.string ⟨#[]⟩,.bool false]) → (w9.alloc (.cells #[Ptr (L.sp k),.string ⟨#[]⟩,.bool false] 301)).grownBy w7 (Value.slice pi xs.length ci).ownBlock → ((Value.slice pi xs.length ci).ownBlock = some g7 ∨ g7 = (w9.alloc (.cells #[Ptr (L.sp k),.string ⟨#[]⟩,.bool false] 301)).heap.size) →
      w7.cell? ⟨We.heap.size + 1,2,none⟩ = some (.slice pi xs.length ci) ∧ w7.frozen? ⟨We.heap.size + 1,2,none⟩ = false ∧ We.heap.size + 1 < w7.heap.size ∧ NewS es W0 We dom L ru ins i (We.heap.size + 1) (xs ++ [.rule k]) ux ((L'.addU k i v).setI i (.slice (some ⟨g7,0,none⟩) (xs.length + 1) cap7)) (w7.setCell ⟨We.heap.size + 1,2,none⟩ (.slice (some ⟨g7,0,none⟩) (xs.length + 1) cap7))) := hid1 fun w9 ux v h9 w7 g7 cap7 ho hg hl => by
     have e1 : (L'.addU k i v).iv i = .slice pi xs.length ci := HEi.out
     have e2 : (Inp.rule k).vals (L'.addU k i v).sp = [Ptr (L.sp k),.string ⟨#[]⟩,.bool false] := by
      show [Ptr (L'.sp k),.string (ba []),.bool false] = _
      rw [HSk.out]
     have := h9.put (.rule k) (fun j hj => by cases hj;exact hdk) (w8 := w7) (g8 := g7) (cap8 := cap7) (o := .cells #[Ptr (L.sp k),.string ⟨#[]⟩,.bool false] 301) (by rw [e2];exact ho) (by rw [e1];exact hg) (by rw [e1];exact hl)
     rwa [e1] at this
    clear hAi hAk huR ei ek hfd hfx HGt hki hivR hspi hspk HXl
    go_wp2_with (first
     | (at_builtin;refine wpList_append_lies _ rfl _ _ 269 rfl 0 262 iU (.pointer none) 1 8 Tryz.underlying269 hU hU0 hU1 hU2 rfl (by decide) _ (L'.us k).length (usC L'.sp (L'.us k)) rfl (huR'.alloc _) ⟨wr.heap.size,0,none⟩ 1 1 [Ptr (We.heap.size + 1)] rfl rfl (one_new _ _ _ _ (by simp)) (by simp [Value.oneCell']) (by decide) hul2 (by simpa using hul3) (Nat.zero_le _) _ rfl ?_;intro g8 cap8 w8 hown8 hgrow8 hlies8 hlt8;rw [← HEk.out] at hgrow8 hlies8;obtain ⟨q1,q2,q3,q4⟩ := HUs.out w8 g8 cap8 hown8 hgrow8 hlies8;rw [HEk.out] at q1;obtain ⟨w9,hw9⟩ : ∃ w9,w8.setCell ⟨L.sp k,3,none⟩ (.slice (some ⟨g8,0,none⟩) ((L'.us k).length + 1) cap8) = w9 := ⟨_,rfl⟩;rw [hw9] at q4;have HN8 := hid1 q4;have e2 := HAt.out _ _ _ q4;have hR8 := HIR.out _ _ _ q4;have HPt := hid1 (HPut.out _ _ _ q4);clear q4 hown8 hgrow8 hlies8)
     | (at_builtin;refine wpList_append_lies _ rfl _ _ 268 rfl 0 301 iB (.agg #[.pointer none,.string ⟨#[]⟩,.bool false]) 3 32 Tryz.underlying268 hB hB0 hB1 hB2 rfl (by decide) _ xs.length (insC L'.sp xs) rfl (hR8.alloc _) _ 1 1 [Ptr (L.sp k),.string ⟨#[]⟩,.bool false] rfl rfl (three_new _ _ _ _ _ _ (by first | rfl | simp)) (by simp [Value.oneCell']) (by decide) hxl2 hxl3 (Nat.zero_le _) _ rfl ?_;intro g7 cap7 w7 hown7 hgrow7 hlies7 hlt7;obtain ⟨r1,r2,r3,r4⟩ := HPt.out w7 g7 cap7 hown7 (by first | exact hgrow7 | simpa using hgrow7) (by first | exact hlies7 | simpa using hlies7);have HN7 := hid1 r4;clear r4 hown7 hgrow7 hlies7)
     | fail)
    exact ⟨⟨m + 1,_,by omega,by go_num,by rw [HTk.out];exact HN7.out⟩,by simp [intOf];omega⟩
   ·rw [hfx] at HTk
    rw [hfd] at hlk
    simp only [stepP,Option.isSome_none] at hlk
    rw [hgx,hasP_get,hgx] at HGt
    simp only [Option.getD_some,Option.isSome_some] at HGt
    have HEi : Hid (L'.iv i = .slice pi xs.length ci) := hid1 ei
    have HSp := hid1 hspi
    have HAt : Hid (∀ w9,Below wr.heap.size wr w9 → w9.cell? ⟨We.heap.size + 1,2,none⟩ = some (.slice pi xs.length ci)) := hid1 fun w9 g9 => by
     have := ((HN.out.below g9).made.steps.at (i := i) (.inr rfl)).c2
     rwa [HSp.out,HEi.out] at this
    have HIR : Hid (∀ w9,Below wr.heap.size wr w9 → w9.ownsRow 0 301 3 (.slice pi xs.length ci) xs.length (insC L'.sp xs)) := hid1 fun w9 g9 => by
     have := (HN.out.below g9).made.steps.insR i (.inr rfl)
     rwa [updN_same,HEi.out] at this
    have HPut : Hid (∀ w9,Below wr.heap.size wr w9 → ∀ (w7 : World) (g7 cap7 : Nat),w7.ownsRow 0 301 3 (.slice (some ⟨g7,0,none⟩) (xs.length + 1) cap7) (xs.length + 1) (insC L'.sp xs ++ [.pointer none,.string (ba b),.bool true]) → (w9.alloc (.cells #[.pointer none,.string (ba b),.bool true] 301)).grownBy w7 (Value.slice pi xs.length ci).ownBlock → ((Value.slice pi xs.length ci).ownBlock = some g7 ∨ g7 = (w9.alloc (.cells #[.pointer none,.string (ba b),.bool true] 301)).heap.size) →
      w7.cell? ⟨We.heap.size + 1,2,none⟩ = some (.slice pi xs.length ci) ∧ w7.frozen? ⟨We.heap.size + 1,2,none⟩ = false ∧ We.heap.size + 1 < w7.heap.size ∧ NewS es W0 We dom L ru ins i (We.heap.size + 1) (xs ++ [.file b]) (xs ++ [.file b]) (L'.setI i (.slice (some ⟨g7,0,none⟩) (xs.length + 1) cap7)) (w7.setCell ⟨We.heap.size + 1,2,none⟩ (.slice (some ⟨g7,0,none⟩) (xs.length + 1) cap7))) := hid1 fun w9 g9 w7 g7 cap7 ho hg hl => by
     obtain ⟨r1,r2,r3,r4⟩ := (HN.out.below g9).put (.file b) (fun j hj => by cases hj) (w8 := w7) (g8 := g7) (cap8 := cap7) (o := .cells #[.pointer none,.string (ba b),.bool true] 301) ho (by rw [HEi.out];exact hg) (by rw [HEi.out];exact hl)
     rw [HEi.out] at r1
     exact ⟨r1,r2,r3,r4.other fun k hk => by cases hk⟩
    clear hAi ei hfd hfx hivR hspi HXl a2
    go_wp2_with fail
    refine HGt.out.mono ?_
    rintro e w5 ⟨rfl,g5⟩
    have e2 := HAt.out w5 g5
    have hR5 := HIR.out w5 g5
    have HPt := hid1 (HPut.out w5 g5)
    clear HGt HAt HIR HPut HN
    go_wp2_with (first
     | (at_builtin;refine wpList_append_lies _ rfl _ _ 268 rfl 0 301 iB (.agg #[.pointer none,.string ⟨#[]⟩,.bool false]) 3 32 Tryz.underlying268 hB hB0 hB1 hB2 rfl (by decide) _ xs.length (insC L'.sp xs) rfl (hR5.alloc _) _ 1 1 [.pointer none,.string (ba b),.bool true] rfl rfl (three_new _ _ _ _ _ _ (by first | rfl | simp)) (by simp [Value.oneCell']) (by decide) hxl2 hxl3 (Nat.zero_le _) _ rfl ?_;intro g7 cap7 w7 hown7 hgrow7 hlies7 hlt7;obtain ⟨r1,r2,r3,r4⟩ := HPt.out w7 g7 cap7 hown7 (by first | exact hgrow7 | simpa using hgrow7) (by first | exact hlies7 | simpa using hlies7);have HN7 := hid1 r4;clear r4 hown7 hgrow7 hlies7)
     | fail)
    exact ⟨⟨m + 1,_,by omega,by go_num,by rw [HTk.out];exact HN7.out⟩,by simp [intOf];omega⟩
   ·rw [hfx] at HTk
    rw [hfd] at hlk
    simp only [stepP,Option.isSome_none] at hlk
    rw [hgx,hasP_get,hgx] at HGt
    simp only [Option.getD_none,Option.isSome_none] at HGt
    have HEi : Hid (L'.iv i = .slice pi xs.length ci) := hid1 ei
    have HSp := hid1 hspi
    have HAt : Hid (∀ w9,Below wr.heap.size wr w9 → w9.cell? ⟨We.heap.size + 1,2,none⟩ = some (.slice pi xs.length ci)) := hid1 fun w9 g9 => by
     have := ((HN.out.below g9).made.steps.at (i := i) (.inr rfl)).c2
     rwa [HSp.out,HEi.out] at this
    have HIR : Hid (∀ w9,Below wr.heap.size wr w9 → w9.ownsRow 0 301 3 (.slice pi xs.length ci) xs.length (insC L'.sp xs)) := hid1 fun w9 g9 => by
     have := (HN.out.below g9).made.steps.insR i (.inr rfl)
     rwa [updN_same,HEi.out] at this
    have HPut : Hid (∀ w9,Below wr.heap.size wr w9 → ∀ (w7 : World) (g7 cap7 : Nat),w7.ownsRow 0 301 3 (.slice (some ⟨g7,0,none⟩) (xs.length + 1) cap7) (xs.length + 1) (insC L'.sp xs ++ [.pointer none,.string (ba []),.bool false]) → (w9.alloc (.cells #[.pointer none,.string (ba []),.bool false] 301)).grownBy w7 (Value.slice pi xs.length ci).ownBlock → ((Value.slice pi xs.length ci).ownBlock = some g7 ∨ g7 = (w9.alloc (.cells #[.pointer none,.string (ba []),.bool false] 301)).heap.size) →
      w7.cell? ⟨We.heap.size + 1,2,none⟩ = some (.slice pi xs.length ci) ∧ w7.frozen? ⟨We.heap.size + 1,2,none⟩ = false ∧ We.heap.size + 1 < w7.heap.size ∧ NewS es W0 We dom L ru ins i (We.heap.size + 1) (xs ++ [.gone]) (xs ++ [.gone]) (L'.setI i (.slice (some ⟨g7,0,none⟩) (xs.length + 1) cap7)) (w7.setCell ⟨We.heap.size + 1,2,none⟩ (.slice (some ⟨g7,0,none⟩) (xs.length + 1) cap7))) := hid1 fun w9 g9 w7 g7 cap7 ho hg hl => by
     obtain ⟨r1,r2,r3,r4⟩ := (HN.out.below g9).put .gone (fun j hj => by cases hj) (w8 := w7) (g8 := g7) (cap8 := cap7) (o := .cells #[.pointer none,.string (ba []),.bool false] 301) ho (by rw [HEi.out];exact hg) (by rw [HEi.out];exact hl)
     rw [HEi.out] at r1
     exact ⟨r1,r2,r3,r4.other fun k hk => by cases hk⟩
    clear hAi ei hfd hfx hivR hspi HXl a2
    go_wp2_with fail
    refine HGt.out.mono ?_
    rintro e w5 ⟨rfl,g5⟩
    have e2 := HAt.out w5 g5
    have hR5 := HIR.out w5 g5
    have HPt := hid1 (HPut.out w5 g5)
    clear HGt HAt HIR HPut HN
    go_wp2_with (first
     | (at_builtin;refine wpList_append_lies _ rfl _ _ 268 rfl 0 301 iB (.agg #[.pointer none,.string ⟨#[]⟩,.bool false]) 3 32 Tryz.underlying268 hB hB0 hB1 hB2 rfl (by decide) _ xs.length (insC L'.sp xs) rfl (hR5.alloc _) _ 1 1 [.pointer none,.string (ba []),.bool false] rfl rfl (three_new _ _ _ _ _ _ (by first | rfl | simp)) (by simp [Value.oneCell']) (by decide) hxl2 hxl3 (Nat.zero_le _) _ rfl ?_;intro g7 cap7 w7 hown7 hgrow7 hlies7 hlt7;obtain ⟨r1,r2,r3,r4⟩ := HPt.out w7 g7 cap7 hown7 (by first | exact hgrow7 | simpa using hgrow7) (by first | exact hlies7 | simpa using hlies7);have HN7 := hid1 r4;clear r4 hown7 hgrow7 hlies7)
     | fail)
    exact ⟨⟨m + 1,_,by omega,by go_num,by rw [HTk.out];exact HN7.out⟩,by simp [intOf];omega⟩
  ·have m1 : ((ru i).ins.length : Int) ≤ (m : Int) := by omega
   have HN2 : Hid (NewS es W0 We dom L ru ins i (We.heap.size + 1) ((ru i).ins.map fi) ((ru i).ins.map fi) L' wr) := hid1 (by
    have := HN.out
    rwa [List.take_of_length_le (by omega)] at this)
   clear HN HIn HMp
   go_wp2
   go_ret
   exact ⟨_,L',rfl,by omega,HN2.out⟩
end Go.Proofs.YtdljhggillgpfaaGreatDoor
