import Derived.Test.YtdljhggillgpfaaGreatDoorSA23
set_option maxRecDepth 100000
set_option maxHeartbeats 16000000
namespace Go.Proofs.YtdljhggillgpfaaGreatDoor
open Go.RowKit Go.Shelf Go.Lib Go.Maps
structure NewS (es : Nat → Addr) (W0 We : World) (dom : Nat → Prop) (L : Lay) (ru : Nat → Ru) (ins : Nat → List Inp) (i sb : Nat) (xs ux : List Inp) (L' : Lay) (wr : World) : Prop where
 made : Mk es W0 wr (fun k => dom k ∨ k = i) L' ru (updN ins i xs)
 sp : L'.sp = updN L.sp i sb
 us : ∀ k,dom k → ∀ j,j ∈ L'.us k ↔ j ∈ L.us k ∨ (j = i ∧ Inp.rule k ∈ ux)
 usi : L'.us i = []
 usl : ∀ k,dom k → (L'.us k).length ≤ (L.us k).length + ux.length
 only : Only (SBlk dom L) We wr
 blk : ∀ j,SBlk (fun k => dom k ∨ k = i) L' j → SBlk dom L j ∨ We.heap.size ≤ j
theorem NewS.below {es : Nat → Addr} {W0 We : World} {dom : Nat → Prop} {L : Lay} {ru : Nat → Ru} {ins : Nat → List Inp} {i sb : Nat} {xs ux : List Inp} {L' : Lay} {wr w' : World} (h : NewS es W0 We dom L ru ins i sb xs ux L' wr) (hb : Below wr.heap.size wr w') : NewS es W0 We dom L ru ins i sb xs ux L' w' :=
 ⟨h.made.below hb,h.sp,h.us,h.usi,h.usl,h.only.trans (Only.of hb) fun _ hj => .inl hj,h.blk⟩
theorem updN_twice {α : Type} (f : Nat → α) (i : Nat) (x y : α) : updN (updN f i x) i y = updN f i y := by
 funext j
 unfold updN
 split <;> rfl
theorem NewS.other {es : Nat → Addr} {W0 We : World} {dom : Nat → Prop} {L : Lay} {ru : Nat → Ru} {ins : Nat → List Inp} {i sb : Nat} {xs ux : List Inp} {L' : Lay} {wr : World} (h : NewS es W0 We dom L ru ins i sb xs ux L' wr) {x : Inp} (hx : ∀ k,x ≠ .rule k) : NewS es W0 We dom L ru ins i sb xs (ux ++ [x]) L' wr := by
 refine ⟨h.made,h.sp,fun k hk j => ?_,h.usi,fun k hk => ?_,h.only,h.blk⟩
 ·rw [h.us k hk,List.mem_append,List.mem_singleton]
  constructor
  ·rintro (h1 | ⟨h1,h2⟩)
   ·exact .inl h1
   ·exact .inr ⟨h1,.inl h2⟩
  ·rintro (h1 | ⟨h1,h2 | h2⟩)
   ·exact .inl h1
   ·exact .inr ⟨h1,h2⟩
   ·exact absurd h2.symm (hx k)
 ·have := h.usl k hk
  rw [List.length_append,List.length_singleton]
  omega
theorem NewS.put {es : Nat → Addr} {W0 We : World} {dom : Nat → Prop} {L : Lay} {ru : Nat → Ru} {ins : Nat → List Inp} {i sb : Nat} {xs ux : List Inp} {L' : Lay} {wr w8 : World} (h : NewS es W0 We dom L ru ins i sb xs ux L' wr) (x : Inp) (hx : ∀ j,x = .rule j → dom j) {o : Obj} {g8 cap8 : Nat} (hown : w8.ownsRow 0 301 3 (.slice (some ⟨g8,0,none⟩) (xs.length + 1) cap8) (xs.length + 1) (insC L'.sp xs ++ x.vals L'.sp)) (hg : (wr.alloc o).grownBy w8 (L'.iv i).ownBlock) (hl : (L'.iv i).ownBlock = some g8 ∨ g8 = (wr.alloc o).heap.size) :
  w8.cell? ⟨sb,2,none⟩ = some (L'.iv i) ∧ w8.frozen? ⟨sb,2,none⟩ = false ∧ sb < w8.heap.size ∧
  NewS es W0 We dom L ru ins i sb (xs ++ [x]) ux (L'.setI i (.slice (some ⟨g8,0,none⟩) (xs.length + 1) cap8)) (w8.setCell ⟨sb,2,none⟩ (.slice (some ⟨g8,0,none⟩) (xs.length + 1) cap8)) := by
 have hspi : L'.sp i = sb := by rw [h.sp,updN_same]
 have hii : updN ins i xs i = xs := updN_same _ _ _
 obtain ⟨q1,q2,q3,q4,q5,q6⟩ := h.made.appI (k := i) (.inr rfl) x (fun j hj => .inl (hx j hj)) (o := o) (g8 := g8) (cap8 := cap8) (w8 := w8) (by rw [hii];exact hown) hg hl
 rw [hspi] at q1 q2 q3
 rw [hspi,hii,updN_twice] at q4
 rw [hspi,hii] at q5
 rw [hii] at q6
 have hz := h.only.size
 refine ⟨q1,q2,q3,q4,h.sp,h.us,h.usi,h.usl,h.only.trans q5 h.blk,fun j hj => ?_⟩
 rcases q6 j hj with h1 | h1
 ·exact h.blk j h1
 ·exact .inr (by omega)
theorem NewS.user {es : Nat → Addr} {W0 We : World} {dom : Nat → Prop} {L : Lay} {ru : Nat → Ru} {ins : Nat → List Inp} {i sb : Nat} {xs ux : List Inp} {L' : Lay} {wr w8 : World} (h : NewS es W0 We dom L ru ins i sb xs ux L' wr) {k : Nat} (hk : dom k) (hi : ¬ dom i) {o : Obj} {g8 cap8 : Nat} (hown : w8.ownsRow 0 262 1 (.slice (some ⟨g8,0,none⟩) ((L'.us k).length + 1) cap8) ((L'.us k).length + 1) (usC L'.sp (L'.us k) ++ [Ptr sb])) (hg : (wr.alloc o).grownBy w8 (L'.uv k).ownBlock) (hl : (L'.uv k).ownBlock = some g8 ∨ g8 = (wr.alloc o).heap.size) :
  w8.cell? ⟨L'.sp k,3,none⟩ = some (L'.uv k) ∧ w8.frozen? ⟨L'.sp k,3,none⟩ = false ∧ L'.sp k < w8.heap.size ∧
  NewS es W0 We dom L ru ins i sb xs (ux ++ [.rule k]) (L'.addU k i (.slice (some ⟨g8,0,none⟩) ((L'.us k).length + 1) cap8)) (w8.setCell ⟨L'.sp k,3,none⟩ (.slice (some ⟨g8,0,none⟩) ((L'.us k).length + 1) cap8)) := by
 have hspi : L'.sp i = sb := by rw [h.sp,updN_same]
 have hki : k ≠ i := fun e => hi (e ▸ hk)
 obtain ⟨q1,q2,q3,q4,q5,q6⟩ := h.made.appU (k := k) (x := i) (.inl hk) (.inr rfl) (o := o) (g8 := g8) (cap8 := cap8) (w8 := w8) (by rw [hspi];exact hown) hg hl
 have hz := h.only.size
 refine ⟨q1,q2,q3,q4,h.sp,fun c hc j => ?_,?_,fun c hc => ?_,h.only.trans q5 h.blk,fun j hj => ?_⟩
 ·by_cases e : c = k
  ·subst e
   rw [show (L'.addU c i (.slice (some ⟨g8,0,none⟩) ((L'.us c).length + 1) cap8)).us c = L'.us c ++ [i] from updN_same _ _ _,List.mem_append,h.us c hc,List.mem_append,List.mem_singleton,List.mem_singleton]
   constructor
   ·rintro ((h1 | ⟨h1,h2⟩) | h1)
    ·exact .inl h1
    ·exact .inr ⟨h1,.inl h2⟩
    ·exact .inr ⟨h1,.inr rfl⟩
   ·rintro (h1 | ⟨h1,_⟩)
    ·exact .inl (.inl h1)
    ·exact .inr h1
  ·rw [show (L'.addU k i (.slice (some ⟨g8,0,none⟩) ((L'.us k).length + 1) cap8)).us c = L'.us c from updN_other e,h.us c hc,List.mem_append,List.mem_singleton]
   constructor
   ·rintro (h1 | ⟨h1,h2⟩)
    ·exact .inl h1
    ·exact .inr ⟨h1,.inl h2⟩
   ·rintro (h1 | ⟨h1,h2 | h2⟩)
    ·exact .inl h1
    ·exact .inr ⟨h1,h2⟩
    ·exact absurd (by simpa using h2) e
 ·rw [show (L'.addU k i (.slice (some ⟨g8,0,none⟩) ((L'.us k).length + 1) cap8)).us i = L'.us i from updN_other fun e => hki e.symm]
  exact h.usi
 ·have h1 := h.usl c hc
  rw [List.length_append,List.length_singleton]
  by_cases e : c = k
  ·subst e
   rw [show (L'.addU c i (.slice (some ⟨g8,0,none⟩) ((L'.us c).length + 1) cap8)).us c = L'.us c ++ [i] from updN_same _ _ _,List.length_append,List.length_singleton]
   omega
  ·rw [show (L'.addU k i (.slice (some ⟨g8,0,none⟩) ((L'.us k).length + 1) cap8)).us c = L'.us c from updN_other e]
   omega
 ·rcases q6 j hj with h1 | h1
  ·exact h.blk j h1
  ·exact .inr (by omega)
theorem hasP_get (fs : Tf.Fs) (p : List UInt8) : Tf.hasP fs p = (Tf.get fs p).isSome := by
 unfold Tf.hasP Tf.get
 rw [Option.isSome_map,Bool.eq_iff_iff,List.find?_isSome,List.any_eq_true]
theorem three_new (W : World) (x y z : Value) (t : TypeId) (n : Nat) (hn : W.heap.size = n) (j : Nat) (u : Value) (h : [x,y,z][j]? = some u) : (W.alloc (.cells #[x,y,z] t)).cell? ((⟨n,0,none⟩ : Addr).add j) = some u := by
 subst hn
 have r := row_new W (.cells #[x,y,z] t)
 match j,h with
 | 0,h => exact cell_of_row (j := 0) r (by simpa using h)
 | 1,h => exact cell_of_row (j := 1) r (by simpa using h)
 | 2,h => exact cell_of_row (j := 2) r (by simpa using h)
 | j + 3,h => simp at h
theorem newStep_calls {es : Nat → Addr} {W0 We : World} {dom : Nat → Prop} {L : Lay} {ru : Nat → Ru} {ins : Nat → List Inp} (h : Mk es W0 We dom L ru ins) {i : Nat} (hi : ¬ dom i) {Bt tb : Nat} {fs : Tf.Fs} {o : Option Nat} (hT : TreeAt Bt W0 tb fs o) (u : Value) (hu : XRow W0 u (ru i).ins) (h12 : (ru i).ins.length ≤ 12) (hxl : ∀ x ∈ (ru i).ins,x.length ≤ 1000000) {mb n : Nat} {fd : List UInt8 → Option Nat} (hm : MMap We mb n fd) (fi : List UInt8 → Inp)
  (hfi : ∀ x ∈ (ru i).ins,(∃ k,fi x = .rule k ∧ dom k ∧ fd x = some (L.sp k)) ∨ (fd x = none ∧ ∃ b,Tf.get fs x = some b ∧ fi x = .file b) ∨ (fd x = none ∧ Tf.get fs x = none ∧ fi x = .gone)) (husl : ∀ k,dom k → (L.us k).length ≤ 1000) :
  Calls Tryz.prog 195 #[Ptr tb,ruV (ru i) u,.map (some mb)] We fun e w' => ∃ sb L',e = .returned (Ptr sb) ∧ We.heap.size ≤ sb ∧ NewS es W0 We dom L ru ins i sb ((ru i).ins.map fi) ((ru i).ins.map fi) L' w' := by
 obtain ⟨iU,hU,hU0,hU1,hU2⟩ := info_parts Tryz.infoPStep
 obtain ⟨iB,hB,hB0,hB1,hB2⟩ := info_parts Tryz.infoBInput
 obtain ⟨pu,cu,rfl,hcu,hnu,hin⟩ := hu
 have HIn := hid1 hin
 have HT := hid1 hT
 have HXl := hid1 hxl
 have HFi := hid1 hfi
 have HUl := hid1 husl
 have HD := hid1 hi
 have gA : Below We.heap.size We ((We.alloc (.cells #[.string (ba (ru i).out),.string (ba (ru i).kind),.string (ba (ru i).word),.slice pu (ru i).ins.length cu] 36)).alloc (.cells #[.string (ba (ru i).kind),.string (ba (ru i).word),.slice none 0 0,.slice none 0 0,.int .i64 0,.string ⟨#[]⟩,.nilIface] 272)) := ((Below.refl _ We).alloc (Nat.le_refl _) _).alloc (by simp) _
 obtain ⟨hmk,hblk⟩ := h.more (i := i) (b := We.heap.size + 1) hi gA (by omega) (heap_alloc2_new We _ _)
 have HS0 : Hid (NewS es W0 We dom L ru ins i (We.heap.size + 1) [] [] (L.more i (We.heap.size + 1)) ((We.alloc (.cells #[.string (ba (ru i).out),.string (ba (ru i).kind),.string (ba (ru i).word),.slice pu (ru i).ins.length cu] 36)).alloc (.cells #[.string (ba (ru i).kind),.string (ba (ru i).word),.slice none 0 0,.slice none 0 0,.int .i64 0,.string ⟨#[]⟩,.nilIface] 272))) := hid1 ⟨hmk,rfl,fun k hk j => by rw [show (L.more i (We.heap.size + 1)).us k = L.us k from updN_other fun e => hi (e ▸ hk)];simp,updN_same _ _ _,fun k hk => by rw [show (L.more i (We.heap.size + 1)).us k = L.us k from updN_other fun e => hi (e ▸ hk)];simp,Only.of gA,hblk⟩
 have HMp : Hid (∀ V,Only (SBlk dom L) We V → ∀ x,x.length ≤ 1000000 → (Instr.lookup 261 (.map (some mb)) (.string (ba x)) true).run Tryz.prog V = .ok (.tuple #[stepP (fd x),.bool (fd x).isSome]) V) := hid1 fun V hV x hx => by
  refine (hm.same (hV.block mb hm.lt ?_)).look x hx
  rintro ⟨k,hk,e⟩
  obtain ⟨a,c,e0⟩ := hm.isMap
  rcases e with e | e | e
  ·rw [e,h.steps.step k hk] at e0
   cases e0
  ·obtain ⟨_,e1⟩ := own_in (h.steps.insR k hk) e
   rw [e1] at e0
   cases e0
  ·obtain ⟨_,e1⟩ := own_in (h.steps.usR k hk) e
   rw [e1] at e0
   cases e0
 have hst : ∀ (a : Addr) (m : Mode) (W : World),Sem.run Tryz.prog (store a (.slice pu (ru i).ins.length cu) m) W = stored Tryz.prog W a (.slice pu (ru i).ins.length cu) m := fun a m W => run_store _ W a _ m rfl
 unfold ruV
 clear h hi hT hxl hm hfi husl hin hmk hblk gA
 go_enter Tryz.func195,Tryz.ntmps195
 go_wp2
 go_loopw [23] (fun iv wr => ∃ (m : Nat) (L' : Lay),m ≤ (ru i).ins.length ∧ iv = .int .i64 m ∧ NewS es W0 We dom L ru ins i (We.heap.size + 1) (((ru i).ins.take m).map fi) (((ru i).ins.take m).map fi) L' wr) (fun iv _ => (ru i).ins.length - (intOf iv).toNat)
 case atStart => exact ⟨0,_,Nat.zero_le _,rfl,HS0.out⟩
 case round =>
  clear HS0
  obtain ⟨m,L',hm,rfl,hN⟩ := hrel
  have HN := hid1 hN
  clear hN
  have m0 : (0 : Int) ≤ (m : Int) := by omega
  by_cases hlt : m < (ru i).ins.length
  ·have m1 : (m : Int) < ((ru i).ins.length : Int) := by omega
   obtain ⟨g,og,rfl,hg,hc⟩ := HIn.out (by intro e;rw [e] at hlt;simp at hlt)
   have d0 := (HN.out.made.base.cell (p := ⟨g,og + m,none⟩) hg).trans (hc m hlt)
   have hmem : (ru i).ins[m] ∈ (ru i).ins := List.getElem_mem hlt
   have htk : ((ru i).ins.take (m + 1)).map fi = ((ru i).ins.take m).map fi ++ [fi (ru i).ins[m]] := by
    rw [List.take_succ_eq_append_getElem hlt,List.map_append]
    rfl
   have hlk := HMp.out wr HN.out.only (ru i).ins[m] (HXl.out _ hmem)
   have HTk := hid1 htk
   have hml : (((ru i).ins.take m).map fi).length = m := by simp;omega
   have HF := HFi.out _ hmem
   have hxm := HXl.out _ hmem
   have HGt := hid1 (Get_calls (HT.out.below HN.out.made.base) (ru i).ins[m] hxm)
   clear hc hmem htk HIn HMp
   generalize (ru i).ins[m] = x at *
   generalize hxs : ((ru i).ins.take m).map fi = xs at *
   clear hxs
   have hivR := HN.out.made.steps.insR i (.inr rfl)
   rw [updN_same] at hivR
   have hspi : L'.sp i = We.heap.size + 1 := by rw [HN.out.sp,updN_same]
   have hAi := HN.out.made.steps.at (i := i) (.inr rfl)
   rw [hspi] at hAi
   obtain ⟨pi,ci,ei⟩ := own_val hivR
   have hxl2 : xs.length + 1 ≤ maxLen := by unfold maxLen;omega
   have hxl3 : (xs.length + 1) * 32 ≤ 140737488355328 := by omega
   have HMl := hid1 hml
   clear hml
   have a2 := hAi.c2
   rcases HF with ⟨k,hfx,hdk,hfd⟩ | ⟨hfd,b,hgx,hfx⟩ | ⟨hfd,hgx,hfx⟩
   ·rw [hfx] at HTk
    rw [hfd] at hlk
    simp only [stepP,Option.isSome_some] at hlk
    have hki : k ≠ i := fun e => HD.out (e ▸ hdk)
    have hspk : L'.sp k = L.sp k := by rw [HN.out.sp,updN_other hki]
    have hAk := HN.out.made.steps.at (i := k) (.inl hdk)
    have huR := HN.out.made.steps.usR k (.inl hdk)
    rw [hspk] at hAk
    obtain ⟨pk,ck,ek⟩ := own_val huR
    have b3 := hAk.c3
    have hul := HN.out.usl k hdk
    have hul0 := HUl.out k hdk
    have hul2 : (L'.us k).length + 1 ≤ maxLen := by have := HMl.out;unfold maxLen;omega
    have hul3 : ((L'.us k).length + 1) * 8 ≤ 140737488355328 := by have := HMl.out;omega
    have HUs := hid1 fun w8 g8 cap8 hown hg hl => HN.out.user (w8 := w8) (o := .cells #[Ptr (We.heap.size + 1)] 262) (g8 := g8) (cap8 := cap8) hdk HD.out hown hg hl
    rw [hspk] at HUs
    have HEi : Hid (L'.iv i = .slice pi xs.length ci) := hid1 ei
    rw [ek] at b3
    rw [ei] at a2
    have huR' := huR
    rw [ek] at huR'
    have HEk := hid1 ek
    have HSp := hid1 hspi
    have HSk := hid1 hspk
    have HAt : Hid (∀ w9 ux v,NewS es W0 We dom L ru ins i (We.heap.size + 1) xs ux (L'.addU k i v) w9 → w9.cell? ⟨We.heap.size + 1,2,none⟩ = some (.slice pi xs.length ci)) := hid1 fun w9 ux v h9 => by
     have := (h9.made.steps.at (i := i) (.inr rfl)).c2
     rw [show (L'.addU k i v).sp i = We.heap.size + 1 from HSp.out,show (L'.addU k i v).iv i = _ from HEi.out] at this
     exact this
    have HIR : Hid (∀ w9 ux v,NewS es W0 We dom L ru ins i (We.heap.size + 1) xs ux (L'.addU k i v) w9 → w9.ownsRow 0 301 3 (.slice pi xs.length ci) xs.length (insC L'.sp xs)) := hid1 fun w9 ux v h9 => by
     have := h9.made.steps.insR i (.inr rfl)
     rw [updN_same,show (L'.addU k i v).iv i = _ from HEi.out] at this
     exact this
    have HPut : Hid (∀ w9 ux v,NewS es W0 We dom L ru ins i (We.heap.size + 1) xs ux (L'.addU k i v) w9 → ∀ (w7 : World) (g7 cap7 : Nat),w7.ownsRow 0 301 3 (.slice (some ⟨g7,0,none⟩) (xs.length + 1) cap7) (xs.length + 1) (insC L'.sp xs ++ [Ptr (L.sp k),.string ⟨#[]⟩,.bool false]) → (w9.alloc (.cells #[Ptr (L.sp k),.string ⟨#[]⟩,.bool false] 301)).grownBy w7 (Value.slice pi xs.length ci).ownBlock → ((Value.slice pi xs.length ci).ownBlock = some g7 ∨ g7 = (w9.alloc (.cells #[Ptr (L.sp k),.string ⟨#[]⟩,.bool false] 301)).heap.size) →
      w7.cell? ⟨We.heap.size + 1,2,none⟩ = some (.slice pi xs.length ci) ∧ w7.frozen? ⟨We.heap.size + 1,2,none⟩ = false ∧ We.heap.size + 1 < w7.heap.size ∧ NewS es W0 We dom L ru ins i (We.heap.size + 1) (xs ++ [.rule k]) ux ((L'.addU k i v).setI i (.slice (some ⟨g7,0,none⟩) (xs.length + 1) cap7)) (w7.setCell ⟨We.heap.size + 1,2,none⟩ (.slice (some ⟨g7,0,none⟩) (xs.length + 1) cap7))) := hid1 fun w9 ux v h9 w7 g7 cap7 ho hg hl => by
     have e1 : (L'.addU k i v).iv i = .slice pi xs.length ci := HEi.out
     have e2 : (Inp.rule k).vals (L'.addU k i v).sp = [Ptr (L.sp k),.string ⟨#[]⟩,.bool false] := by
      show [Ptr (L'.sp k),.string (ba []),.bool false] = _
      rw [HSk.out]
     have := h9.put (.rule k) (fun j hj => by cases hj;exact hdk) (w8 := w7) (g8 := g7) (cap8 := cap7) (o := .cells #[Ptr (L.sp k),.string ⟨#[]⟩,.bool false] 301) (by rw [e2];exact ho) (by rw [e1];exact hg) (by rw [e1];exact hl)
     rwa [e1] at this
    clear hAi hAk huR ei ek hfd hfx HGt hki hivR hspi hspk HXl
    go_wp2_with (first
     | (at_builtin;refine wpList_append_lies _ rfl _ _ 269 rfl 0 262 iU (.pointer none) 1 8 Tryz.underlying269 hU hU0 hU1 hU2 rfl (by decide) _ (L'.us k).length (usC L'.sp (L'.us k)) rfl (huR'.alloc _) ⟨wr.heap.size,0,none⟩ 1 1 [Ptr (We.heap.size + 1)] rfl rfl (one_new _ _ _ _ (by simp)) (by simp [Value.oneCell']) (by decide) hul2 (by simpa using hul3) (Nat.zero_le _) _ rfl ?_;intro g8 cap8 w8 hown8 hgrow8 hlies8 hlt8;rw [← HEk.out] at hgrow8 hlies8;obtain ⟨q1,q2,q3,q4⟩ := HUs.out w8 g8 cap8 hown8 hgrow8 hlies8;rw [HEk.out] at q1;obtain ⟨w9,hw9⟩ : ∃ w9,w8.setCell ⟨L.sp k,3,none⟩ (.slice (some ⟨g8,0,none⟩) ((L'.us k).length + 1) cap8) = w9 := ⟨_,rfl⟩;rw [hw9] at q4;have HN8 := hid1 q4;have e2 := HAt.out _ _ _ q4;have hR8 := HIR.out _ _ _ q4;have HPt := hid1 (HPut.out _ _ _ q4);clear q4 hown8 hgrow8 hlies8)
     | (at_builtin;refine wpList_append_lies _ rfl _ _ 268 rfl 0 301 iB (.agg #[.pointer none,.string ⟨#[]⟩,.bool false]) 3 32 Tryz.underlying268 hB hB0 hB1 hB2 rfl (by decide) _ xs.length (insC L'.sp xs) rfl (hR8.alloc _) _ 1 1 [Ptr (L.sp k),.string ⟨#[]⟩,.bool false] rfl rfl (three_new _ _ _ _ _ _ (by first | rfl | simp)) (by simp [Value.oneCell']) (by decide) hxl2 hxl3 (Nat.zero_le _) _ rfl ?_;intro g7 cap7 w7 hown7 hgrow7 hlies7 hlt7;obtain ⟨r1,r2,r3,r4⟩ := HPt.out w7 g7 cap7 hown7 (by first | exact hgrow7 | simpa using hgrow7) (by first | exact hlies7 | simpa using hlies7);have HN7 := hid1 r4;clear r4 hown7 hgrow7 hlies7)
     | fail)
    exact ⟨⟨m + 1,_,by omega,by go_num,by rw [HTk.out];exact HN7.out⟩,by simp [intOf];omega⟩
   ·rw [hfx] at HTk
    rw [hfd] at hlk
    simp only [stepP,Option.isSome_none] at hlk
    rw [hgx,hasP_get,hgx] at HGt
    simp only [Option.getD_some,Option.isSome_some] at HGt
    have HEi : Hid (L'.iv i = .slice pi xs.length ci) := hid1 ei
    have HSp := hid1 hspi
    have HAt : Hid (∀ w9,Below wr.heap.size wr w9 → w9.cell? ⟨We.heap.size + 1,2,none⟩ = some (.slice pi xs.length ci)) := hid1 fun w9 g9 => by
     have := ((HN.out.below g9).made.steps.at (i := i) (.inr rfl)).c2
     rwa [HSp.out,HEi.out] at this
    have HIR : Hid (∀ w9,Below wr.heap.size wr w9 → w9.ownsRow 0 301 3 (.slice pi xs.length ci) xs.length (insC L'.sp xs)) := hid1 fun w9 g9 => by
     have := (HN.out.below g9).made.steps.insR i (.inr rfl)
     rwa [updN_same,HEi.out] at this
    have HPut : Hid (∀ w9,Below wr.heap.size wr w9 → ∀ (w7 : World) (g7 cap7 : Nat),w7.ownsRow 0 301 3 (.slice (some ⟨g7,0,none⟩) (xs.length + 1) cap7) (xs.length + 1) (insC L'.sp xs ++ [.pointer none,.string (ba b),.bool true]) → (w9.alloc (.cells #[.pointer none,.string (ba b),.bool true] 301)).grownBy w7 (Value.slice pi xs.length ci).ownBlock → ((Value.slice pi xs.length ci).ownBlock = some g7 ∨ g7 = (w9.alloc (.cells #[.pointer none,.string (ba b),.bool true] 301)).heap.size) →
      w7.cell? ⟨We.heap.size + 1,2,none⟩ = some (.slice pi xs.length ci) ∧ w7.frozen? ⟨We.heap.size + 1,2,none⟩ = false ∧ We.heap.size + 1 < w7.heap.size ∧ NewS es W0 We dom L ru ins i (We.heap.size + 1) (xs ++ [.file b]) (xs ++ [.file b]) (L'.setI i (.slice (some ⟨g7,0,none⟩) (xs.length + 1) cap7)) (w7.setCell ⟨We.heap.size + 1,2,none⟩ (.slice (some ⟨g7,0,none⟩) (xs.length + 1) cap7))) := hid1 fun w9 g9 w7 g7 cap7 ho hg hl => by
     obtain ⟨r1,r2,r3,r4⟩ := (HN.out.below g9).put (.file b) (fun j hj => by cases hj) (w8 := w7) (g8 := g7) (cap8 := cap7) (o := .cells #[.pointer none,.string (ba b),.bool true] 301) ho (by rw [HEi.out];exact hg) (by rw [HEi.out];exact hl)
     rw [HEi.out] at r1
     exact ⟨r1,r2,r3,r4.other fun k hk => by cases hk⟩
    clear hAi ei hfd hfx hivR hspi HXl a2
    go_wp2_with fail
    refine HGt.out.mono ?_
    rintro e w5 ⟨rfl,g5⟩
    have e2 := HAt.out w5 g5
    have hR5 := HIR.out w5 g5
    have HPt := hid1 (HPut.out w5 g5)
    clear HGt HAt HIR HPut HN
    go_wp2_with (first
     | (at_builtin;refine wpList_append_lies _ rfl _ _ 268 rfl 0 301 iB (.agg #[.pointer none,.string ⟨#[]⟩,.bool false]) 3 32 Tryz.underlying268 hB hB0 hB1 hB2 rfl (by decide) _ xs.length (insC L'.sp xs) rfl (hR5.alloc _) _ 1 1 [.pointer none,.string (ba b),.bool true] rfl rfl (three_new _ _ _ _ _ _ (by first | rfl | simp)) (by simp [Value.oneCell']) (by decide) hxl2 hxl3 (Nat.zero_le _) _ rfl ?_;intro g7 cap7 w7 hown7 hgrow7 hlies7 hlt7;obtain ⟨r1,r2,r3,r4⟩ := HPt.out w7 g7 cap7 hown7 (by first | exact hgrow7 | simpa using hgrow7) (by first | exact hlies7 | simpa using hlies7);have HN7 := hid1 r4;clear r4 hown7 hgrow7 hlies7)
     | fail)
    exact ⟨⟨m + 1,_,by omega,by go_num,by rw [HTk.out];exact HN7.out⟩,by simp [intOf];omega⟩
   ·rw [hfx] at HTk
    rw [hfd] at hlk
    simp only [stepP,Option.isSome_none] at hlk
    rw [hgx,hasP_get,hgx] at HGt
    simp only [Option.getD_none,Option.isSome_none] at HGt
    have HEi : Hid (L'.iv i = .slice pi xs.length ci) := hid1 ei
    have HSp := hid1 hspi
    have HAt : Hid (∀ w9,Below wr.heap.size wr w9 → w9.cell? ⟨We.heap.size + 1,2,none⟩ = some (.slice pi xs.length ci)) := hid1 fun w9 g9 => by
     have := ((HN.out.below g9).made.steps.at (i := i) (.inr rfl)).c2
     rwa [HSp.out,HEi.out] at this
    have HIR : Hid (∀ w9,Below wr.heap.size wr w9 → w9.ownsRow 0 301 3 (.slice pi xs.length ci) xs.length (insC L'.sp xs)) := hid1 fun w9 g9 => by
     have := (HN.out.below g9).made.steps.insR i (.inr rfl)
     rwa [updN_same,HEi.out] at this
    have HPut : Hid (∀ w9,Below wr.heap.size wr w9 → ∀ (w7 : World) (g7 cap7 : Nat),w7.ownsRow 0 301 3 (.slice (some ⟨g7,0,none⟩) (xs.length + 1) cap7) (xs.length + 1) (insC L'.sp xs ++ [.pointer none,.string (ba []),.bool false]) → (w9.alloc (.cells #[.pointer none,.string (ba []),.bool false] 301)).grownBy w7 (Value.slice pi xs.length ci).ownBlock → ((Value.slice pi xs.length ci).ownBlock = some g7 ∨ g7 = (w9.alloc (.cells #[.pointer none,.string (ba []),.bool false] 301)).heap.size) →
      w7.cell? ⟨We.heap.size + 1,2,none⟩ = some (.slice pi xs.length ci) ∧ w7.frozen? ⟨We.heap.size + 1,2,none⟩ = false ∧ We.heap.size + 1 < w7.heap.size ∧ NewS es W0 We dom L ru ins i (We.heap.size + 1) (xs ++ [.gone]) (xs ++ [.gone]) (L'.setI i (.slice (some ⟨g7,0,none⟩) (xs.length + 1) cap7)) (w7.setCell ⟨We.heap.size + 1,2,none⟩ (.slice (some ⟨g7,0,none⟩) (xs.length + 1) cap7))) := hid1 fun w9 g9 w7 g7 cap7 ho hg hl => by
     obtain ⟨r1,r2,r3,r4⟩ := (HN.out.below g9).put .gone (fun j hj => by cases hj) (w8 := w7) (g8 := g7) (cap8 := cap7) (o := .cells #[.pointer none,.string (ba []),.bool false] 301) ho (by rw [HEi.out];exact hg) (by rw [HEi.out];exact hl)
     rw [HEi.out] at r1
     exact ⟨r1,r2,r3,r4.other fun k hk => by cases hk⟩
    clear hAi ei hfd hfx hivR hspi HXl a2
    go_wp2_with fail
    refine HGt.out.mono ?_
    rintro e w5 ⟨rfl,g5⟩
    have e2 := HAt.out w5 g5
    have hR5 := HIR.out w5 g5
    have HPt := hid1 (HPut.out w5 g5)
    clear HGt HAt HIR HPut HN
    go_wp2_with (first
     | (at_builtin;refine wpList_append_lies _ rfl _ _ 268 rfl 0 301 iB (.agg #[.pointer none,.string ⟨#[]⟩,.bool false]) 3 32 Tryz.underlying268 hB hB0 hB1 hB2 rfl (by decide) _ xs.length (insC L'.sp xs) rfl (hR5.alloc _) _ 1 1 [.pointer none,.string (ba []),.bool false] rfl rfl (three_new _ _ _ _ _ _ (by first | rfl | simp)) (by simp [Value.oneCell']) (by decide) hxl2 hxl3 (Nat.zero_le _) _ rfl ?_;intro g7 cap7 w7 hown7 hgrow7 hlies7 hlt7;obtain ⟨r1,r2,r3,r4⟩ := HPt.out w7 g7 cap7 hown7 (by first | exact hgrow7 | simpa using hgrow7) (by first | exact hlies7 | simpa using hlies7);have HN7 := hid1 r4;clear r4 hown7 hgrow7 hlies7)
     | fail)
    exact ⟨⟨m + 1,_,by omega,by go_num,by rw [HTk.out];exact HN7.out⟩,by simp [intOf];omega⟩
  ·have m1 : ((ru i).ins.length : Int) ≤ (m : Int) := by omega
   have HN2 : Hid (NewS es W0 We dom L ru ins i (We.heap.size + 1) ((ru i).ins.map fi) ((ru i).ins.map fi) L' wr) := hid1 (by
    have := HN.out
    rwa [List.take_of_length_le (by omega)] at this)
   clear HN HIn HMp
   go_wp2
   go_ret
   exact ⟨_,L',rfl,by omega,HN2.out⟩
namespace Ru
theorem orderF_ch {l : List Ru} {some : Nat → Bool} : ∀ {f : Nat} {o r : List Nat},orderF l some f o = Option.some r → (∀ i ∈ o,some i = true) → ∀ i ∈ r,some i = true
 | 0,_,_,h,_ => by cases h
 | f + 1,o,r,h,hb => by
  unfold orderF at h
  split at h
  ·split at h
   ·cases h
   ·rename_i i hi
    have hm := (nextTo_some hi).2
    simp only [may,Bool.and_eq_true] at hm
    refine orderF_ch h fun j hj => ?_
    rcases List.mem_append.1 hj with h1 | h1
    ·exact hb j h1
    ·rw [List.mem_singleton.1 h1];exact hm.1.1
  ·cases h
   exact hb
theorem order_ch {l : List Ru} {some : Nat → Bool} {o : List Nat} (h : order l some = Option.some o) : ∀ i ∈ o,some i = true := orderF_ch h (by simp)
theorem leftTo_congr2 {f g done : Nat → Bool} : ∀ {m : Nat},(∀ k,k < m → f k = g k) → leftTo f done m = leftTo g done m
 | 0,_ => rfl
 | m + 1,h => by
  rw [leftTo_succ,leftTo_succ,leftTo_congr2 fun k hk => h k (by omega),h m (by omega)]
theorem nextTo_congr2 {l : List Ru} {f g done : Nat → Bool} : ∀ {m : Nat},(∀ k,k < m → f k = g k) → nextTo l f done m = nextTo l g done m
 | 0,_ => rfl
 | m + 1,h => by
  have e : may l f done m = may l g done m := by unfold may;rw [h m (by omega)]
  rw [nextTo_succ,nextTo_succ,nextTo_congr2 fun k hk => h k (by omega),e]
theorem orderF_congr2 {l : List Ru} {f g : Nat → Bool} (h : ∀ k,k < l.length → f k = g k) : ∀ (n : Nat) (o : List Nat),orderF l f n o = orderF l g n o
 | 0,_ => rfl
 | n + 1,o => by
  unfold orderF
  rw [leftTo_congr2 h,nextTo_congr2 h]
  split
  ·split
   ·rfl
   ·exact orderF_congr2 h n _
  ·rfl
theorem order_congr2 {l : List Ru} {f g : Nat → Bool} (h : ∀ k,k < l.length → f k = g k) : order l f = order l g := orderF_congr2 h _ _
end Ru
theorem Mk.congrI {es : Nat → Addr} {W0 W : World} {dom dom' : Nat → Prop} {L : Lay} {ru : Nat → Ru} {ins ins' : Nat → List Inp} (h : Mk es W0 W dom L ru ins) (hd : ∀ k,dom k ↔ dom' k) (hi : ∀ k,dom k → ins k = ins' k) : Mk es W0 W dom' L ru ins' := by
 obtain rfl : dom = dom' := funext fun k => propext (hd k)
 have hS := h.steps
 exact ⟨h.base,⟨hS.step,hS.inj,fun i hk => by rw [← hi i hk];exact hS.insR i hk,hS.usR,fun i hk k hm => hS.insD i hk k (by rw [hi i hk];exact hm),hS.usD⟩,h.low,h.sepU,h.sepI⟩
theorem Mk.notMap {es : Nat → Addr} {W0 W : World} {dom : Nat → Prop} {L : Lay} {ru : Nat → Ru} {ins : Nat → List Inp} (h : Mk es W0 W dom L ru ins) {b : Nat} (hb : ∃ a c,W.heap[b]? = some (.map a c)) : ¬ SBlk dom L b := by
 obtain ⟨a,c,e0⟩ := hb
 rintro ⟨k,hk,e | e | e⟩
 ·rw [e,h.steps.step k hk] at e0
  cases e0
 ·obtain ⟨_,e1⟩ := own_in (h.steps.insR k hk) e
  rw [e1] at e0
  cases e0
 ·obtain ⟨_,e1⟩ := own_in (h.steps.usR k hk) e
  rw [e1] at e0
  cases e0
theorem Mk.turned {es : Nat → Addr} {W0 W W' : World} {dom : Nat → Prop} {L : Lay} {ru : Nat → Ru} {ins : Nat → List Inp} (h : Mk es W0 W dom L ru ins) {b : Nat} (hb : ∃ a c,W.heap[b]? = some (.map a c)) (hz : W0.heap.size ≤ b) (ht : W.mapTurned W' b) : Mk es W0 W' dom L ru ins := by
 have hn := h.notMap hb
 have hg := ht.grown
 refine ⟨h.base.grown hg h.base.size fun j e => by cases e;exact hz,h.steps.same fun j hj => hg.block j (h.steps.lt j hj) fun e => hn ?_,h.low,h.sepU,h.sepI⟩
 have : j = b := by simpa using e
 exact this ▸ hj
def mkD (l : List Ru) (ds : List Nat) (sp : Nat → Nat) (x : List UInt8) : Option Nat :=
 match Bf.mkr l x with
 | some j => if j ∈ ds then some (sp j) else none
 | none => none
structure OfS (es : Nat → Addr) (W0 : World) (l : List Ru) (fs : Tf.Fs) (ru : Nat → Ru) (bm mb : Nat) (ds : List Nat) (L : Lay) (wr : World) : Prop where
 made : Mk es W0 wr (fun k => k ∈ ds) L ru (fun k => (ru k).ins.map (inpOf l fs))
 smap : SMap wr bm ds.length (fun k => k ∈ ds) L.sp
 mmap : MMap wr mb ds.length (mkD l ds L.sp)
 us : ∀ k,k ∈ ds → ∀ j,j ∈ L.us k ↔ j ∈ ds ∧ Ru.needs l j k = true
 usl : ∀ k,k ∈ ds → (L.us k).length ≤ 12 * ds.length
 ne : bm ≠ mb
 lb : W0.heap.size ≤ bm
 lm : W0.heap.size ≤ mb
theorem OfS.start (es : Nat → Addr) (W0 : World) (l : List Ru) (fs : Tf.Fs) (ru : Nat → Ru) (L : Lay) : OfS es W0 l fs ru W0.heap.size (W0.heap.size + 1) [] L ((W0.alloc (.map #[] 0)).alloc (.map #[] 0)) := by
 have b1 : Below W0.heap.size W0 (W0.alloc (.map #[] 0)) := (Below.refl _ W0).alloc (Nat.le_refl _) _
 have b2 : Below (W0.alloc (.map #[] 0)).heap.size (W0.alloc (.map #[] 0)) ((W0.alloc (.map #[] 0)).alloc (.map #[] 0)) := (Below.refl _ _).alloc (Nat.le_refl _) _
 have hz : (W0.alloc (.map #[] 0)).heap.size = W0.heap.size + 1 := by simp
 refine ⟨⟨below_then b1 b2,⟨by simp,by simp,by simp,by simp,by simp,by simp⟩,?_,by simp,by simp⟩,?_,?_,by simp,by simp,by omega,by omega,by omega⟩
 ·rintro j ⟨i,hi,_⟩
  cases hi
 ·have := (SMap.made W0 L.sp).same (b2.block W0.heap.size (by omega))
  simpa using this
 ·have := MMap.made (W0.alloc (.map #[] 0))
  rw [hz] at this
  have e : mkD l [] L.sp = fun _ => none := by
   funext x
   unfold mkD
   split <;> simp
  rw [e]
  exact this
theorem OfS.next {es : Nat → Addr} {W0 : World} {l : List Ru} {fs : Tf.Fs} {ru : Nat → Ru} {bm mb : Nat} {ds : List Nat} {L : Lay} {wr w2 : World} (h : OfS es W0 l fs ru bm mb ds L wr) (hru : ∀ k (hk : k < l.length),ru k = l[k]) (hA : Ru.Apart l) {i : Nat} (hi : i < l.length) (hid : i ∉ ds) (hio : (l[i]).out.length ≤ 1000000) (h12 : (l[i]).ins.length ≤ 12) (hil : i ≤ 1000000) (hself : Ru.needs l i i = false) (hds : ∀ k ∈ ds,k < l.length ∧ Ru.needs l k i = false) (hlen : ds.length < 1000000) {sb : Nat} {L' : Lay}
  (hN : NewS es W0 wr (fun k => k ∈ ds) L ru (fun k => (ru k).ins.map (inpOf l fs)) i sb ((ru i).ins.map (inpOf l fs)) ((ru i).ins.map (inpOf l fs)) L' w2) :
  ∃ w3,(Instr.mapUpdate 222 (.map (some bm)) (.int .i64 (i : Nat)) (Ptr sb)).run Tryz.prog w2 = .ok () w3 ∧ Below W0.heap.size W0 w3 ∧ ∃ w4,(Instr.mapUpdate 261 (.map (some mb)) (.string (ba (l[i]).out)) (Ptr sb)).run Tryz.prog w3 = .ok () w4 ∧ OfS es W0 l fs ru bm mb (ds ++ [i]) L' w4 := by
 have hml : ds.length < maxLen := by unfold maxLen;omega
 have hnb := h.made.notMap h.smap.isMap
 have hnm := h.made.notMap h.mmap.isMap
 have s2 := h.smap.same (hN.only.block bm h.smap.lt hnb)
 have m2 := h.mmap.same (hN.only.block mb h.mmap.lt hnm)
 obtain ⟨w3,r3,s3,t3⟩ := s2.laid hml i sb hil
 have m3 := m2.same (t3.grown.block mb m2.lt (by simpa using h.ne.symm))
 have k3 := hN.made.turned s2.isMap h.lb t3
 obtain ⟨w4,r4,m4,t4⟩ := m3.laid hml (l[i]).out hio sb
 have s4 := s3.same (t4.grown.block bm s3.lt (by simpa using h.ne))
 have k4 := k3.turned m3.isMap h.lm t4
 have hmem : ∀ k,(k ∈ ds ∨ k = i) ↔ k ∈ ds ++ [i] := fun k => by simp
 refine ⟨w3,r3,k3.base,w4,r4,?_,?_,?_,?_,?_,h.ne,h.lb,h.lm⟩
 ·refine k4.congrI hmem fun k hk => ?_
  by_cases e : k = i
  ·subst e
   rw [updN_same]
  ·rw [updN_other e]
 ·have e : (fun k => k ∈ ds ∨ k = i) = fun k => k ∈ ds ++ [i] := funext fun k => propext (hmem k)
  rw [List.length_append,List.length_singleton,hN.sp,← e]
  exact s4
 ·have e : (fun y => if y = (l[i]).out then some sb else mkD l ds L.sp y) = mkD l (ds ++ [i]) L'.sp := by
   funext y
   by_cases hy : y = (l[i]).out
   ·rw [if_pos hy]
    unfold mkD
    rw [hy,show Bf.mkr l (l[i]).out = some i from Ru.mkr_eq hA hi]
    simp only [List.mem_append,List.mem_singleton,or_true,if_true]
    rw [hN.sp,updN_same]
   ·rw [if_neg hy]
    unfold mkD
    cases hm : Bf.mkr l y with
    | none => rfl
    | some j =>
     obtain ⟨hj,e1,_⟩ := Ru.mkr_some (show Ru.mkr l y = some j from hm)
     have hji : j ≠ i := fun e => hy (by subst e;exact e1.symm)
     simp only [List.mem_append,List.mem_singleton,hji,or_false]
     rw [hN.sp,updN_other hji]
  rw [List.length_append,List.length_singleton,← e]
  exact m4
 ·intro k hk j
  rcases List.mem_append.1 hk with hk | hk
  ·rw [hN.us k hk,h.us k hk,List.mem_append,List.mem_singleton]
   have hin : Inp.rule k ∈ (ru i).ins.map (inpOf l fs) ↔ Ru.needs l i k = true := by
    have hkl := (hds k hk).1
    rw [Ru.needs_eq hi hkl,hru i hi,List.mem_map]
    constructor
    ·rintro ⟨x,hx,e⟩
     unfold inpOf at e
     split at e
     ·rename_i q hq
      obtain ⟨_,e1,_⟩ := Ru.mkr_some (show Ru.mkr l x = some q from hq)
      have : q = k := by simpa using e
      subst this
      rw [e1]
      simpa using hx
     ·split at e <;> cases e
    ·intro hx
     refine ⟨l[k].out,by simpa using hx,?_⟩
     unfold inpOf
     rw [show Bf.mkr l l[k].out = some k from Ru.mkr_eq hA hkl]
   rw [hin]
   constructor
   ·rintro (⟨h1,h2⟩ | ⟨h1,h2⟩)
    ·exact ⟨.inl h1,h2⟩
    ·exact ⟨.inr h1,by rw [h1];exact h2⟩
   ·rintro ⟨h1 | h1,h2⟩
    ·exact .inl ⟨h1,h2⟩
    ·exact .inr ⟨h1,by rw [h1] at h2;exact h2⟩
  ·obtain rfl := List.mem_singleton.1 hk
   rw [hN.usi]
   constructor
   ·intro h1;cases h1
   ·rintro ⟨h1,h2⟩
    rcases List.mem_append.1 h1 with h1 | h1
    ·rw [(hds j h1).2] at h2
     cases h2
    ·rw [List.mem_singleton.1 h1,hself] at h2
     cases h2
 ·intro k hk
  rw [List.length_append,List.length_singleton]
  rcases List.mem_append.1 hk with hk | hk
  ·have h1 := hN.usl k hk
   have h2 := h.usl k hk
   rw [List.length_map,hru i hi] at h1
   omega
  ·rw [List.mem_singleton.1 hk,hN.usi]
   simp
end Go.Proofs.YtdljhggillgpfaaGreatDoor
namespace Go.Proofs.YtdljhggillgpfaaGreatDoor
namespace Ru
theorem orderF_none2 {l : List Ru} {some : Nat → Bool} (hs : ∀ i k,some i = true → needs l i k = true → some k = true) : ∀ {f : Nat} {o : List Nat},orderF l some f o = none → o.Nodup → (∀ i ∈ o,i < l.length) → l.length < f + o.length → ∃ i t,some i = true ∧ Walk l i i (t + 1)
 | 0,o,_,hd,hb,hf => by have := len_le hd hb;omega
 | f + 1,o,h,hd,hb,hf => by
  unfold orderF at h
  split at h
  ·rename_i hl
   split at h
   ·rename_i hi
    simp only [leftTo,List.any_eq_true,Bool.and_eq_true,Bool.not_eq_true'] at hl
    obtain ⟨i,hil,hsi,hio⟩ := hl
    have hnext : ∀ i,i < l.length ∧ i ∉ o ∧ some i = true → ∃ k,(k < l.length ∧ k ∉ o ∧ some k = true) ∧ needs l i k = true := by
     rintro i ⟨hil,hio,hsi⟩
     have h0 := List.find?_eq_none.1 hi i (List.mem_range.2 hil)
     simp only [may,hsi,Bool.true_and,Bool.and_eq_true,isIn,Bool.not_eq_true',decide_eq_false_iff_not,hio,not_false_eq_true,true_and,freeTo,List.all_eq_true,Bool.or_eq_true] at h0
     simp only [Classical.not_forall] at h0
     obtain ⟨k,hk,hk2⟩ := h0
     simp only [not_or,decide_eq_true_eq] at hk2
     have hn : needs l i k = true := by simpa using hk2.2
     exact ⟨k,⟨List.mem_range.1 hk,hk2.1,hs i k hsi hn⟩,hn⟩
    have hg : ∃ g : Nat → Nat,g 0 = i ∧ ∀ a,(g a < l.length ∧ g a ∉ o ∧ some (g a) = true) ∧ needs l (g a) (g (a + 1)) = true := by
     let nx : {i // i < l.length ∧ i ∉ o ∧ some i = true} → {i // i < l.length ∧ i ∉ o ∧ some i = true} := fun x => ⟨Classical.choose (hnext x.1 x.2),(Classical.choose_spec (hnext x.1 x.2)).1⟩
     let st : {i // i < l.length ∧ i ∉ o ∧ some i = true} := ⟨i,List.mem_range.1 hil,by simpa [isIn] using hio,hsi⟩
     refine ⟨fun a => (Nat.rec st (fun _ x => nx x) a : {i // i < l.length ∧ i ∉ o ∧ some i = true}).1,rfl,fun a => ⟨(Nat.rec st (fun _ x => nx x) a : {i // i < l.length ∧ i ∉ o ∧ some i = true}).2,?_⟩⟩
     exact (Classical.choose_spec (hnext _ (Nat.rec st (fun _ x => nx x) a : {i // i < l.length ∧ i ∉ o ∧ some i = true}).2)).2
    obtain ⟨g,_,hgn⟩ := hg
    obtain ⟨a,b,hab,_,e⟩ := pigeon (n := l.length) (g := g) fun t _ => (hgn t).1.1
    have sub : ∀ (d a : Nat),Walk l (g a) (g (a + d)) d := by
     intro d
     induction d with
     | zero => intro a;exact .zero _
     | succ d ih =>
      intro a
      have := ih (a + 1)
      rw [show a + 1 + d = a + (d + 1) by omega] at this
      exact .step (hgn a).2 this
    have := sub (b - a) a
    rw [show a + (b - a) = b by omega,← e] at this
    exact ⟨g a,b - a - 1,(hgn a).1.2.2,by rw [show b - a - 1 + 1 = b - a by omega];exact this⟩
   ·rename_i i hi
    obtain ⟨hil,hm⟩ := nextTo_some hi
    have hio : i ∉ o := by
     simp only [may,Bool.and_eq_true,Bool.not_eq_true',isIn,decide_eq_false_iff_not] at hm
     exact hm.1.2
    refine orderF_none2 hs h ?_ ?_ ?_
    ·rw [List.nodup_append]
     exact ⟨hd,by simp,fun a ha b hb => by
      rw [List.mem_singleton.1 hb]
      rintro rfl
      exact hio ha⟩
    ·intro j hj
     rcases List.mem_append.1 hj with h1 | h1
     ·exact hb j h1
     ·rw [List.mem_singleton.1 h1];exact hil
    ·rw [List.length_append,List.length_singleton];omega
  ·cases h
theorem order_none2 {l : List Ru} {some : Nat → Bool} (hs : ∀ i k,some i = true → needs l i k = true → some k = true) (h : order l some = none) : ∃ i t,some i = true ∧ Walk l i i (t + 1) :=
 orderF_none2 hs h List.nodup_nil (by simp) (by simp)
def part (l : List Ru) (ns : List Nat) : List Ru := ns.map fun i => l.getD i ⟨[],[],[],[]⟩
theorem part_len (l : List Ru) (ns : List Nat) : (part l ns).length = ns.length := by simp [part]
theorem need_closed (l : List Ru) (outs : List (List UInt8)) (i k : Nat) (hi : Bf.need l outs i = true) (hn : Ru.needs l i k = true) : Bf.need l outs k = true := by
 obtain ⟨g,hg⟩ := needed_is l outs
 obtain ⟨h1,h2⟩ := needs_lt hn
 rw [Bf.need_eq hg h1] at hi
 rw [Bf.need_eq hg h2]
 exact hg.closed i k hi hn
theorem need_lt {l : List Ru} {outs : List (List UInt8)} {i : Nat} (hi : Bf.need l outs i = true) : i < l.length := by
 refine Nat.lt_of_not_le fun h => ?_
 rw [Bf.need_out h] at hi
 cases hi
end Ru
namespace Tf
end Tf
end Go.Proofs.YtdljhggillgpfaaGreatDoor
namespace Go.Proofs.YtdljhggillgpfaaGreatDoor
namespace Bf
def St.ran (s : St) : Bool := s.isDone || s.isFailed
end Bf
end Go.Proofs.YtdljhggillgpfaaGreatDoor
