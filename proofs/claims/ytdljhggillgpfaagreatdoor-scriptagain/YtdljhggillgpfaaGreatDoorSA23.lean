import Derived.Test.YtdljhggillgpfaaGreatDoorSA22
set_option maxRecDepth 100000
set_option maxHeartbeats 8000000
namespace Go.Proofs.YtdljhggillgpfaaGreatDoor
open Go.RowKit Go.Shelf Go.Lib Go.Maps
def inpOf (l : List Ru) (fs : Tf.Fs) (x : List UInt8) : Inp :=
 match Bf.mkr l x with
 | some k => .rule k
 | none => match Tf.get fs x with
  | some b => .file b
  | none => .gone
def insOf (d : Bf.Bd) (i : Nat) : List Inp := (d.rule i).ins.map (inpOf d.l d.fs)
abbrev Bf.Bd.dm (d : Bf.Bd) (k : Nat) : Bool := !(d.st k).isNo
abbrev Bf.Bd.dom (d : Bf.Bd) (k : Nat) : Prop := d.dm k = true
theorem Bf.Bd.dom_no {d : Bf.Bd} {k : Nat} (h : d.dom k) : (d.st k).isNo = false := by simpa using h
theorem Bf.Bd.dom_of {d : Bf.Bd} {k : Nat} (h : (d.st k).isNo = false) : d.dom k := by simpa using h
theorem mem_insOf {d : Bf.Bd} {i k : Nat} (h : Inp.rule k ∈ insOf d i) : ∃ x ∈ (d.rule i).ins,Bf.mkr d.l x = some k := by
 obtain ⟨x,hx,e⟩ := List.mem_map.1 h
 refine ⟨x,hx,?_⟩
 unfold inpOf at e
 split at e
 ·rename_i j hj
  rw [hj]
  simpa using e
 ·split at e <;> cases e
theorem free_insOf {d : Bf.Bd} (hA : Ru.Apart d.l) {i : Nat} (hi : i < d.l.length) : (!(insOf d i).any (Inp.holds d.st)) = Bf.freeTo d.l d.st i d.l.length := by
 have hr : d.rule i = d.l[i] := by unfold Bf.Bd.rule;simp [hi]
 rw [Bool.eq_iff_iff]
 unfold Bf.freeTo
 simp only [Bool.not_eq_true',List.any_eq_false,List.all_eq_true,List.mem_range]
 constructor
 ·intro h k hk
  cases hn : Ru.needs d.l i k with
  | false => rfl
  | true =>
   have hin := hn
   rw [Ru.needs_eq hi hk] at hin
   have hmem : Inp.rule k ∈ insOf d i := by
    refine List.mem_map.2 ⟨d.l[k].out,by rw [hr];simpa using hin,?_⟩
    unfold inpOf
    rw [show Bf.mkr d.l d.l[k].out = some k from Ru.mkr_eq hA hk]
   have := h _ hmem
   simpa [Inp.holds] using this
 ·intro h x hx
  cases x with
  | file b => simp [Inp.holds]
  | gone => simp [Inp.holds]
  | rule k =>
   obtain ⟨y,hy,e⟩ := mem_insOf hx
   obtain ⟨hk,e1,_⟩ := Ru.mkr_some (show Ru.mkr d.l y = some k from e)
   have hn : Ru.needs d.l i k = true := by
    rw [Ru.needs_eq hi hk,e1]
    rw [hr] at hy
    simpa using hy
   have := h k hk
   rw [hn] at this
   simpa [Inp.holds] using this
structure BuM (es : Nat → Addr) (W : World) (bb bm n : Nat) (L : Lay) (cv : Value) (d : Bf.Bd) : Prop where
 c0 : W.cell? ⟨bb,0,none⟩ = some (.map (some bm))
 c1 : W.cell? ⟨bb,1,none⟩ = some cv
 map : SMap W bm n d.dom L.sp
 steps : Steps W es d.dom L d.rule (insOf d) d.st
 us : Bf.UsOk d L.us
 usl : ∀ i,d.dom i → (L.us i).length ≤ 1000
 inv : Bf.Inv d
 apart : Ru.Apart d.l
 few : ∀ i,d.dom i → (insOf d i).length ≤ 1000
def BBlk (bb bm : Nat) (d : Bf.Bd) (L : Lay) (j : Nat) : Prop := j = bb ∨ j = bm ∨ SBlk d.dom L j
def BuAt (es : Nat → Addr) (S : Nat → Prop) (W : World) (v cv : Value) (d : Bf.Bd) : Prop := ∃ bb bm n L,v = Ptr bb ∧ (∃ o,cv = .pointer o) ∧ (∀ j,S j ↔ BBlk bb bm d L j) ∧ BuM es W bb bm n L cv d
theorem BuM.lt {es : Nat → Addr} {W : World} {bb bm n : Nat} {L : Lay} {cv : Value} {d : Bf.Bd} (h : BuM es W bb bm n L cv d) : ∀ j,BBlk bb bm d L j → j < W.heap.size := by
 rintro j (rfl | rfl | hj)
 ·exact lt_of_cell h.c0
 ·exact h.map.lt
 ·exact h.steps.lt j hj
theorem BuM.same {es : Nat → Addr} {W W' : World} {bb bm n : Nat} {L : Lay} {cv : Value} {d : Bf.Bd} (h : BuM es W bb bm n L cv d) (hb : ∀ j,BBlk bb bm d L j → W'.heap[j]? = W.heap[j]?) : BuM es W' bb bm n L cv d := by
 have hc := hb bb (.inl rfl)
 exact ⟨(World.cell?_of_block (a := ⟨bb,0,none⟩) hc).trans h.c0,(World.cell?_of_block (a := ⟨bb,1,none⟩) hc).trans h.c1,h.map.same (hb bm (.inr (.inl rfl))),h.steps.same fun j hj => hb j (.inr (.inr hj)),h.us,h.usl,h.inv,h.apart,h.few⟩
theorem BuM.below {es : Nat → Addr} {W W' : World} {bb bm n : Nat} {L : Lay} {cv : Value} {d : Bf.Bd} (h : BuM es W bb bm n L cv d) (hb : Below W.heap.size W W') : BuM es W' bb bm n L cv d := h.same fun j hj => hb.block j (h.lt j hj)
theorem BuM.lo {es : Nat → Addr} {W : World} {bb bm n : Nat} {L : Lay} {cv : Value} {d : Bf.Bd} (h : BuM es W bb bm n L cv d) {i : Nat} (hi : d.dom i) : i < d.l.length := by
 refine Nat.lt_of_not_le fun e => ?_
 have := Bf.Bd.dom_no hi
 rw [h.inv.out i e] at this
 cases this
theorem BuM.isReady {es : Nat → Addr} {W : World} {bb bm n : Nat} {L : Lay} {cv : Value} {d : Bf.Bd} (h : BuM es W bb bm n L cv d) {i : Nat} (hi : d.dom i) : ((d.st i).isWaits && !(insOf d i).any (Inp.holds d.st)) = d.isReady i := by
 rw [free_insOf h.apart (h.lo hi)]
 rfl
theorem buReady1_calls {es : Nat → Addr} {W : World} {bb bm n : Nat} {L : Lay} {cv : Value} {d : Bf.Bd} (h : BuM es W bb bm n L cv d) {i : Nat} (hi : d.dom i) : Calls Tryz.prog 197 #[Ptr (L.sp i)] W fun e w' => e = .returned (.bool (d.isReady i)) ∧ Below W.heap.size W w' := by
 have HC := stready_calls h.steps i hi (Bf.Bd.dom_no hi) (h.few i hi)
 rw [h.isReady hi] at HC
 have HC := hid1 HC
 go_enter Tryz.func197,Tryz.ntmps197
 go_wp2_with fail
 refine HC.out.mono ?_
 rintro e w1 ⟨rfl,g1⟩
 go_wp2
 go_ret
 exact ⟨rfl,g1⟩
theorem ready_filter {d : Bf.Bd} : ((List.range d.l.length).filter fun k => d.dm k && d.isReady k) = d.ready := by
 unfold Bf.Bd.ready Bf.Bd.readyTo
 refine List.filter_congr fun k _ => ?_
 cases hr : d.isReady k with
 | false => simp
 | true =>
  have := Bf.ready_waits hr
  simp [Bf.Bd.dm,this,Bf.St.isNo]
theorem buReady_calls {es : Nat → Addr} {W : World} {bb bm n : Nat} {L : Lay} {cv : Value} {d : Bf.Bd} (h : BuM es W bb bm n L cv d) (hl : d.l.length ≤ 1000) : Calls Tryz.prog 150 #[Ptr bb] W fun e w' => ∃ u,e = .returned u ∧ NIRow w' u d.ready ∧ Below W.heap.size W w' := by
 have HC := bunumbers_calls h.c0 h.map (fun k hk => h.lo hk) hl 197 #[] (enters_of Tryz.func197 (by kernel_rfl) rfl) d.isReady (hid1 fun k hk V hV => buReady1_calls (h.below hV) hk)
 rw [ready_filter] at HC
 have HC := hid1 HC
 go_enter Tryz.func150,Tryz.ntmps150
 go_wp2_with fail
 refine HC.out.mono ?_
 rintro e w1 ⟨u,rfl,hu,g1⟩
 have HU := hid1 hu
 obtain ⟨p,cap,rfl,-⟩ := HU.out
 go_wp2
 go_ret
 exact ⟨_,rfl,HU.out,g1⟩
theorem bumany1_calls {W : World} {b c n m : Nat} (h : W.cell? ⟨b,4,none⟩ = some (.int .i64 (n : Nat))) (hc : W.cell? ⟨c,0,none⟩ = some (.int .i64 (m : Nat))) : Calls Tryz.prog 234 #[Ptr b,.pointer (some ⟨c,0,none⟩)] W fun e w' => e = .returned (.bool (n == m)) ∧ Below W.heap.size W w' := by
 have z : ((n : Int) == (m : Int)) = (n == m) := by
  rw [Bool.eq_iff_iff]
  simp
  omega
 go_enter Tryz.func234,Tryz.ntmps234
 go_wp2
 go_region
 go_wp2
 go_ret
 exact ⟨rfl,(Below.refl _ W).drew⟩
theorem many_filter (st : Nat → Bf.St) (q : Nat → Bool) (p : Bf.St → Bool) (h : ∀ k,q k = p (st k)) : ∀ N,((List.range N).filter q).length = Bf.many st p N
 | 0 => rfl
 | N + 1 => by
  rw [List.range_succ,List.filter_append,List.length_append,many_filter st q p h N,show Bf.many st p (N + 1) = Bf.many st p N + (if p (st N) = true then 1 else 0) from rfl]
  congr 1
  rw [← h N]
  by_cases e : q N = true
  ·rw [List.filter_cons_of_pos e,if_pos e];rfl
  ·rw [List.filter_cons_of_neg e,if_neg e];rfl
theorem bumany_calls {es : Nat → Addr} {W : World} {bb bm n : Nat} {L : Lay} {cv : Value} {d : Bf.Bd} (h : BuM es W bb bm n L cv d) (hl : d.l.length ≤ 1000) (m : Nat) (p : Bf.St → Bool) (hp : ∀ s : Bf.St,p s = (!s.isNo && (s.num == m))) : Calls Tryz.prog 201 #[Ptr bb,.int .i64 (m : Nat)] W fun e w' => e = .returned (.int .i64 (Bf.many d.st p d.l.length : Nat)) ∧ Below W.heap.size W w' := by
 have gA : Below W.heap.size W (W.alloc (.cells #[.int .i64 (m : Nat)] 270)) := (Below.refl _ W).alloc (Nat.le_refl _) _
 have hA := h.below gA
 have HC := bunumbers_calls hA.c0 hA.map (fun k hk => hA.lo hk) hl 234 #[.pointer (some ⟨W.heap.size,0,none⟩)] (enters_of Tryz.func234 (by kernel_rfl) rfl) (fun k => (d.st k).num == m) (hid1 fun k hk V hV => bumany1_calls ((hA.below hV).steps.at hk).c4 (cell_below' (by simp) hV))
 have HL := hid1 (many_filter d.st (fun k => d.dm k && ((d.st k).num == m)) p (fun k => (hp _).symm) d.l.length)
 have HC := hid1 HC
 generalize Bf.many d.st p d.l.length = M at *
 go_enter Tryz.func201,Tryz.ntmps201
 go_wp2_with fail
 refine HC.out.mono ?_
 rintro e w1 ⟨u,rfl,hu,g1⟩
 obtain ⟨q,cap,rfl,-⟩ := hu
 have g2 := below_then gA g1
 rw [HL.out]
 go_wp2
 go_ret
 exact ⟨rfl,g2⟩
theorem row_new (W : World) (o : Obj) : (W.alloc o).heap[W.heap.size]? = some o := by
 show (W.heap.push _)[W.heap.size]? = _
 simp
theorem count_cells {W : World} {b : Nat} {t : TypeId} {a0 a1 a2 a3 : Value} (h : W.heap[b]? = some (.cells #[a0,a1,a2,a3] t)) (x0 x1 x2 x3 : Value) :
  let V := (((W.setCell ⟨b,0,none⟩ x0).setCell ⟨b,1,none⟩ x1).setCell ⟨b,2,none⟩ x2).setCell ⟨b,3,none⟩ x3
  V.cell? ⟨b,0,none⟩ = some x0 ∧ V.cell? ⟨b,1,none⟩ = some x1 ∧ V.cell? ⟨b,2,none⟩ = some x2 ∧ V.cell? ⟨b,3,none⟩ = some x3 := by
 have r1 := heap_setCell_same W b 0 _ _ x0 h
 have r2 := heap_setCell_same _ b 1 _ _ x1 r1
 have r3 := heap_setCell_same _ b 2 _ _ x2 r2
 have r4 := heap_setCell_same _ b 3 _ _ x3 r3
 exact ⟨cell_of_row (j := 0) r4 rfl,cell_of_row (j := 1) r4 rfl,cell_of_row (j := 2) r4 rfl,cell_of_row (j := 3) r4 rfl⟩
theorem buCount_calls {es : Nat → Addr} {W : World} {bb bm n : Nat} {L : Lay} {cv : Value} {d : Bf.Bd} (h : BuM es W bb bm n L cv d) (hl : d.l.length ≤ 1000) : Calls Tryz.prog 152 #[Ptr bb] W fun e w' => e = .returned (.agg #[.int .i64 (d.ran : Nat),.int .i64 (d.hits : Nat),.int .i64 (d.fails : Nat),.int .i64 (d.lefts : Nat)]) ∧ Below W.heap.size W w' := by
 have H1 := hid1 fun V (g : Below W.heap.size W V) => bumany_calls (h.below g) hl 1 (fun s => s.isDone && !s.hit) fun s => by cases s with | done s b => cases b <;> rfl | _ => rfl
 have H2 := hid1 fun V (g : Below W.heap.size W V) => bumany_calls (h.below g) hl 2 (fun s => s.isDone && s.hit) fun s => by cases s with | done s b => cases b <;> rfl | _ => rfl
 have H3 := hid1 fun V (g : Below W.heap.size W V) => bumany_calls (h.below g) hl 3 Bf.St.isFailed fun s => by cases s with | done s b => cases b <;> rfl | _ => rfl
 have H4 := hid1 fun V (g : Below W.heap.size W V) => bumany_calls (h.below g) hl 4 Bf.St.isLeft fun s => by cases s with | done s b => cases b <;> rfl | _ => rfl
 unfold Bf.Bd.ran Bf.Bd.hits Bf.Bd.fails Bf.Bd.lefts
 generalize Bf.many d.st (fun s => s.isDone && !s.hit) d.l.length = m1 at *
 generalize Bf.many d.st (fun s => s.isDone && s.hit) d.l.length = m2 at *
 generalize Bf.many d.st Bf.St.isFailed d.l.length = m3 at *
 generalize Bf.many d.st Bf.St.isLeft d.l.length = m4 at *
 have gA : Below W.heap.size W (W.alloc (.cells #[.int .i64 0,.int .i64 0,.int .i64 0,.int .i64 0] 137)) := (Below.refl _ W).alloc (Nat.le_refl _) _
 have HR0 : Hid ((W.alloc (.cells #[.int .i64 0,.int .i64 0,.int .i64 0,.int .i64 0] 137)).heap[W.heap.size]? = some (.cells #[.int .i64 0,.int .i64 0,.int .i64 0,.int .i64 0] 137)) := hid1 (row_new _ _)
 have HGA := hid1 gA
 have C1 := hid1 (H1.out _ gA)
 go_enter Tryz.func152,Tryz.ntmps152
 go_wp2_with fail
 refine C1.out.mono ?_
 rintro e w1 ⟨rfl,g1⟩
 have G1 := below_then HGA.out g1
 have X1 := g1
 have C2 := hid1 (H2.out _ G1)
 go_wp2_with fail
 refine C2.out.mono ?_
 rintro e w2 ⟨rfl,g2⟩
 have G2 := below_then G1 g2
 have X2 := below_then X1 g2
 have C3 := hid1 (H3.out _ G2)
 go_wp2_with fail
 refine C3.out.mono ?_
 rintro e w3 ⟨rfl,g3⟩
 have G3 := below_then G2 g3
 have X3 := below_then X2 g3
 have C4 := hid1 (H4.out _ G3)
 go_wp2_with fail
 refine C4.out.mono ?_
 rintro e w4 ⟨rfl,g4⟩
 have G4 := below_then G3 g4
 have X4 := below_then X3 g4
 have rr := row_below HR0.out X4
 have z0 := cell_of_row (j := 0) rr rfl
 have z1 := cell_of_row (j := 1) rr rfl
 have z2 := cell_of_row (j := 2) rr rfl
 have z3 := cell_of_row (j := 3) rr rfl
 have f0 : w4.frozen? ⟨W.heap.size,0,none⟩ = false := by simp [World.frozen?,rr]
 have f1 : w4.frozen? ⟨W.heap.size,1,none⟩ = false := by simp [World.frozen?,rr]
 have f2 : w4.frozen? ⟨W.heap.size,2,none⟩ = false := by simp [World.frozen?,rr]
 have f3 : w4.frozen? ⟨W.heap.size,3,none⟩ = false := by simp [World.frozen?,rr]
 have qq := hid1 (count_cells rr (.int .i64 (m1 : Nat)) (.int .i64 (m2 : Nat)) (.int .i64 (m3 : Nat)) (.int .i64 (m4 : Nat)))
 go_wp2
 refine bodyPost_ret (v := .agg #[.int .i64 (m1 : Nat),.int .i64 (m2 : Nat),.int .i64 (m3 : Nat),.int .i64 (m4 : Nat)]) ?_ rfl ⟨rfl,?_⟩
 ·obtain ⟨q0,q1,q2,q3⟩ := qq.out
  simp [results,Tryz.f152,go_sem,q0,q1,q2,q3]
 ·exact (((G4.setCell (p := ⟨W.heap.size,0,none⟩) (Nat.le_refl _) _).setCell (p := ⟨W.heap.size,1,none⟩) (Nat.le_refl _) _).setCell (p := ⟨W.heap.size,2,none⟩) (Nat.le_refl _) _).setCell (p := ⟨W.heap.size,3,none⟩) (Nat.le_refl _) _
theorem sttext_calls (s : Bf.St) (hs : s.isNo = false) (W : World) : Calls Tryz.prog 203 #[.int .i64 (s.num : Nat)] W fun e w' => e = .returned (.string (ba s.name)) ∧ w' = W := by
 cases s with
 | no => cases hs
 | waits =>
  go_enter Tryz.func203,Tryz.ntmps203
  go_wp2
  go_ret
  exact ⟨rfl,rfl⟩
 | done x b =>
  cases b
  ·go_enter Tryz.func203,Tryz.ntmps203
   go_wp2
   go_ret
   exact ⟨rfl,rfl⟩
  ·go_enter Tryz.func203,Tryz.ntmps203
   go_wp2
   go_ret
   exact ⟨rfl,rfl⟩
 | failed c =>
  go_enter Tryz.func203,Tryz.ntmps203
  go_wp2
  go_ret
  exact ⟨rfl,rfl⟩
 | left =>
  go_enter Tryz.func203,Tryz.ntmps203
  go_wp2
  go_ret
  exact ⟨rfl,rfl⟩
theorem BuM.look {es : Nat → Addr} {W : World} {bb bm n : Nat} {L : Lay} {cv : Value} {d : Bf.Bd} (h : BuM es W bb bm n L cv d) (i : Int) (h0 : -9223372036854775808 ≤ i) (h1 : i ≤ 9223372036854775807) :
  (d.at i = .no ∧ (Instr.lookup 222 (.map (some bm)) (.int .i64 i) true).run Tryz.prog W = .ok (.tuple #[.pointer none,.bool false]) W) ∨
  ∃ k : Nat,i = k ∧ d.dom k ∧ k < d.l.length ∧ d.at i = d.st k ∧ (Instr.lookup 222 (.map (some bm)) (.int .i64 i) true).run Tryz.prog W = .ok (.tuple #[Ptr (L.sp k),.bool true]) W := by
 rcases h.map.look i h0 h1 with ⟨hd,hl⟩ | ⟨hd,hl⟩
 ·have hk := h.lo hd.2
  refine .inr ⟨i.toNat,by omega,hd.2,hk,?_,hl⟩
  unfold Bf.Bd.at
  rw [if_neg (by omega)]
 ·refine .inl ⟨?_,hl⟩
  unfold Bf.Bd.at
  split
  ·rfl
  ·have : (d.st i.toNat).isNo = true := by
    cases e : (d.st i.toNat).isNo with
    | true => rfl
    | false => exact absurd ⟨by omega,Bf.Bd.dom_of e⟩ hd
   cases hs : d.st i.toNat <;> rw [hs] at this <;> first | rfl | cases this
theorem buState_calls {es : Nat → Addr} {W : World} {bb bm n : Nat} {L : Lay} {cv : Value} {d : Bf.Bd} (h : BuM es W bb bm n L cv d) (i : Int) (h0 : -9223372036854775808 ≤ i) (h1 : i ≤ 9223372036854775807) : Calls Tryz.prog 154 #[Ptr bb,.int .i64 i] W fun e w' => e = .returned (.string (ba (d.at i).name)) ∧ Below W.heap.size W w' := by
 have HC := hid1 (buall_calls h.c0)
 rcases h.look i h0 h1 with ⟨e0,hl⟩ | ⟨k,rfl,hk,-,e0,hl⟩
 ·rw [e0]
  go_enter Tryz.func154,Tryz.ntmps154
  go_wp2_with fail
  refine HC.out.mono ?_
  rintro e w1 ⟨rfl,rfl⟩
  go_wp2
  go_ret
  exact ⟨rfl,Below.refl _ _⟩
 ·have c4 := (h.steps.at hk).c4
  have HT := hid1 (sttext_calls (d.st k) (Bf.Bd.dom_no hk))
  rw [e0]
  generalize d.st k = s at *
  go_enter Tryz.func154,Tryz.ntmps154
  go_wp2_with fail
  refine HC.out.mono ?_
  rintro e w1 ⟨rfl,rfl⟩
  go_wp2_with fail
  refine (HT.out _).mono ?_
  rintro e w2 ⟨rfl,rfl⟩
  go_wp2
  go_ret
  exact ⟨rfl,Below.refl _ _⟩
theorem buResult_calls {es : Nat → Addr} {W : World} {bb bm n : Nat} {L : Lay} {cv : Value} {d : Bf.Bd} (h : BuM es W bb bm n L cv d) (i : Int) (h0 : -9223372036854775808 ≤ i) (h1 : i ≤ 9223372036854775807) : Calls Tryz.prog 153 #[Ptr bb,.int .i64 i] W fun e w' => e = .returned (.tuple #[.string (ba (d.at i).out),.bool (d.at i).isDone]) ∧ Below W.heap.size W w' := by
 have HC := hid1 (buall_calls h.c0)
 rcases h.look i h0 h1 with ⟨e0,hl⟩ | ⟨k,rfl,hk,-,e0,hl⟩
 ·rw [e0]
  go_enter Tryz.func153,Tryz.ntmps153
  go_wp2_with fail
  refine HC.out.mono ?_
  rintro e w1 ⟨rfl,rfl⟩
  go_wp2
  go_ret2
  exact ⟨rfl,Below.refl _ _⟩
 ·have c5 := (h.steps.at hk).c5
  have HT := stdone_calls (h.steps.at hk).c4
  rw [← Bf.St.num_done] at HT
  have HT := hid1 HT
  rw [e0]
  have HOut : Hid ((d.st k).isDone = false → (d.st k).out = []) := hid1 fun e => by cases hs : d.st k <;> rw [hs] at e <;> first | rfl | cases e
  generalize d.st k = s at *
  cases hd : s.isDone with
  | false =>
   rw [hd] at HT
   rw [HOut.out hd]
   go_enter Tryz.func153,Tryz.ntmps153
   go_wp2_with fail
   refine HC.out.mono ?_
   rintro e w1 ⟨rfl,rfl⟩
   go_wp2_with fail
   refine HT.out.mono ?_
   rintro e w2 ⟨rfl,rfl⟩
   go_wp2
   go_ret2
   exact ⟨rfl,Below.refl _ _⟩
  | true =>
   rw [hd] at HT
   go_enter Tryz.func153,Tryz.ntmps153
   go_wp2_with fail
   refine HC.out.mono ?_
   rintro e w1 ⟨rfl,rfl⟩
   go_wp2_with fail
   refine HT.out.mono ?_
   rintro e w2 ⟨rfl,rfl⟩
   go_wp2
   go_ret2
   exact ⟨rfl,Below.refl _ _⟩
open Tf (Fs)
abbrev fileV (l : List UInt8) : Value := .agg #[.string (ba l)]
theorem look_file {w : World} {bm : Nat} {fs : Fs} (h : w.ownsMap Tryz.prog 9 fileElem bm fs.length (Tf.datum fs)) (p : List UInt8) (hp : p.length ≤ 1000000) :
  (Instr.lookup 102 (.map (some bm)) (.string (ba p)) true).run Tryz.prog w = .ok (.tuple #[fileV ((Tf.get fs p).getD []),.bool (Tf.hasP fs p)]) w := by
 obtain ⟨v,ps,hrun,hv⟩ := h.look_ok (t := 102) (e := 156) klaw Tryz.underlying102 (z := fileV []) (Tryz.zeroValue156 w) (zd := .lit (.string [])) (zp := []) rfl (kkey p hp)
 obtain ⟨l,rfl,hl⟩ := fileElem_inv hv
 rw [Tf.datum_has] at hrun
 rw [Tf.datum_at] at hl
 have : (Tf.get fs p).getD [] = l := by
  cases hg : Tf.get fs p with
  | none => rw [hg] at hl;simp at hl;simp [hl.1]
  | some b => rw [hg] at hl;simp at hl;simp [hl.1]
 rw [this]
 exact hrun
theorem look_nofile (w : World) (p : List UInt8) (hp : p.length ≤ 1000000) :
  (Instr.lookup 102 (.map none) (.string (ba p)) true).run Tryz.prog w = .ok (.tuple #[fileV [],.bool false]) w := by
 have := Maps.look_nil (w := w) (t := 102) (e := 156) true klaw Tryz.underlying102 (z := fileV []) (Tryz.zeroValue156 w) (kkey p hp)
 simpa using this
theorem look_tree {B : Nat} {w : World} {tb : Nat} {fs : Fs} {o : Option Nat} (h : TreeAt B w tb fs o) (p : List UInt8) (hp : p.length ≤ 1000000) :
  (Instr.lookup 102 (.map o) (.string (ba p)) true).run Tryz.prog w = .ok (.tuple #[fileV ((Tf.get fs p).getD []),.bool (Tf.hasP fs p)]) w := by
 have hm := h.isMap
 cases o with
 | none =>
  obtain rfl : fs = [] := hm
  exact look_nofile w p hp
 | some bm => exact look_file hm.2.2 p hp
theorem Get_calls {B : Nat} {w : World} {tb : Nat} {fs : Fs} {o : Option Nat} (h : TreeAt B w tb fs o) (p : List UInt8) (hp : p.length ≤ 1000000) :
  Calls Tryz.prog 77 #[Ptr tb,.string (ba p)] w fun e w' => e = .returned (.tuple #[.string (ba ((Tf.get fs p).getD [])),.bool (Tf.hasP fs p)]) ∧ Below w.heap.size w w' := by
 have hl := look_tree h p hp
 have HA : Hid (Calls Tryz.prog 88 #[Ptr tb] w fun e w' => e = .returned (.map o) ∧ w' = w) := all_calls tb o w h.cell
 generalize (Tf.get fs p).getD [] = b at *
 generalize Tf.hasP fs p = t at *
 clear h hp
 go_enter Tryz.func77,Tryz.ntmps77
 go_wp2_with fail
 refine HA.out.mono ?_
 rintro e w' ⟨rfl,rfl⟩
 go_wp2
 go_ret2
 exact ⟨rfl,(Below.refl _ _).alloc (Nat.le_refl _) _⟩
theorem Paths_calls {B : Nat} {w : World} {tb : Nat} {fs : Fs} {o : Option Nat} (h : TreeAt B w tb fs o) (hr : Tf.Rises fs) (hn : fs.length ≤ 1000) :
  Calls Tryz.prog 59 #[Ptr tb] w fun e w' => ∃ v,e = .returned v ∧ w'.ownsRow w.heap.size 9 1 v fs.length ((fs.map (·.1)).map encStr) ∧ Below w.heap.size w w' := by
 have HA : Hid (CallsIn Fence.wide 5 Tryz.prog 88 #[Ptr tb] w fun e w' => e = .returned (.map o) ∧ w' = w) := callsIn_wide.2 (all_calls tb o w h.cell)
 have HS : Hid (CallsIn Fence.wide 5 Tryz.prog 86 #[.func (.func 126) #[] #[.pointer (some ⟨w.heap.size,0,none⟩)]] (w.alloc (.cells #[.map o] 102)) fun e w' => ∃ v,e = .returned v ∧ w'.ownsRow w.heap.size 9 1 v fs.length ((fs.map (·.1)).map encStr) ∧ Below w.heap.size w w') := by
  cases o with
  | none =>
   obtain rfl : fs = [] := h.isMap
   refine (Tryz.slices_Sorted_keys_nil_86_87 w).mono ?_
   rintro e w' ⟨v,ss,rfl,rfl,hrow,_,hb⟩
   refine ⟨v,rfl,?_,((Below.refl _ w).alloc (Nat.le_refl _) _).trans (hb.mono (by simp))⟩
   have := ownsRow_base_a hrow (base' := w.heap.size) (by simp)
   simpa using this
  | some bm =>
   refine (Tryz.slices_Sorted_keys_86_87 bm fs.length (Tf.datum fs) fileElem w h.isMap.2.2 (by rw [Tf.datum_size];unfold maxLen;omega) (by rw [Tf.datum_size];omega)).mono ?_
   rintro e w' ⟨v,ss,rfl,hS,hrow,_,hb⟩
   refine ⟨v,rfl,?_,((Below.refl _ w).alloc (Nat.le_refl _) _).trans (hb.mono (by simp))⟩
   rw [Tf.datum_keys] at hS
   have e1 : ss.mergeSort (fun x y => decide (x ≤ y)) = fs.map (·.1) := by
    have := mergeSort_of_perm hS
    exact this.trans hr.sorted
   have e2 : ss.length = fs.length := by rw [hS.length_eq];simp
   rw [e1,e2] at hrow
   exact ownsRow_base_a hrow (by simp)
 refine (callsIn_wide (n := 6)).1 ?_
 have hfA : Fence.wide.fn 88 := trivial
 have hfK : Fence.wide.fn 87 := trivial
 have hfS : Fence.wide.fn 86 := trivial
 clear h hr hn
 refine callsIn_of_wp Tryz.func59 rfl trivial ?_ rfl
 simp only [Tryz.ntmps59,List.size_toArray,List.length_cons,List.length_nil,Nat.reduceAdd,Nat.reduceSub,Array.replicate_succ,Array.replicate_zero,List.push_toArray,List.append_toArray,List.nil_append,List.cons_append]
 gi_wp2_with (first
  | (gi_at_call 88;refine HA.out.mono ?_;rintro e w' ⟨rfl,rfl⟩)
  | (gi_at_call 87;refine (Tryz.maps_Keys_87 _ _).mono ?_;rintro e w' ⟨rfl,rfl⟩)
  | (gi_at_call 86;refine HS.out.mono ?_;rintro e w' ⟨v,rfl,hrow,hb⟩))
 go_ret
 exact ⟨v,rfl,hrow,hb⟩
end Go.Proofs.YtdljhggillgpfaaGreatDoor
namespace Go.Proofs.YtdljhggillgpfaaGreatDoor
open Go.RowKit Go.Shelf Go.Lib Go.Maps
theorem Tryz.infoBInput : (Tryz.prog.info? 301).map (fun i => (i.zero,i.size,i.bytes)) = some (some (.agg #[.pointer none,.string ⟨#[]⟩,.bool false]),3,32) := by kernel_rfl
theorem Tryz.infoPStep : (Tryz.prog.info? 262).map (fun i => (i.zero,i.size,i.bytes)) = some (some (.pointer none),1,8) := by kernel_rfl
def MMap (W : World) (mb n : Nat) (fd : List UInt8 → Option Nat) : Prop :=
 ∃ D : DataW Unit,W.ownsMap Tryz.prog 9 stepElem mb n D ∧ (∀ x,has D (.string x) = (fd x).isSome) ∧ ∀ x z,(fd x).isSome = true → D.atKey (.string x) z = .lit (.int .i64 (stepI (fd x)))
theorem MMap.lt {W : World} {mb n : Nat} {fd : List UInt8 → Option Nat} (h : MMap W mb n fd) : mb < W.heap.size := by
 obtain ⟨D,h1,_⟩ := h
 exact h1.lt
theorem MMap.same {W W' : World} {mb n : Nat} {fd : List UInt8 → Option Nat} (h : MMap W mb n fd) (hb : W'.heap[mb]? = W.heap[mb]?) : MMap W' mb n fd := by
 obtain ⟨D,⟨es,clock,h1,F⟩,h2⟩ := h
 exact ⟨D,⟨es,clock,hb.trans h1,F⟩,h2⟩
theorem MMap.made (W : World) : MMap (W.alloc (.map #[] 0)) W.heap.size 0 (fun _ => none) :=
 ⟨.map [],World.ownsMap_made W _ _ _,fun _ => rfl,fun x z h => by cases h⟩
theorem MMap.isMap {W : World} {mb n : Nat} {fd : List UInt8 → Option Nat} (h : MMap W mb n fd) : ∃ a c,W.heap[mb]? = some (.map a c) := by
 obtain ⟨D,⟨es,clock,h1,F⟩,h2⟩ := h
 exact ⟨_,_,h1⟩
theorem SMap.isMap {W : World} {bm n : Nat} {dom : Nat → Prop} {sp : Nat → Nat} (h : SMap W bm n dom sp) : ∃ a c,W.heap[bm]? = some (.map a c) := by
 obtain ⟨D,⟨es,clock,h1,F⟩,h2⟩ := h
 exact ⟨_,_,h1⟩
theorem MMap.look {W : World} {mb n : Nat} {fd : List UInt8 → Option Nat} (h : MMap W mb n fd) (x : List UInt8) (hx : x.length ≤ 1000000) :
  (Instr.lookup 261 (.map (some mb)) (.string (ba x)) true).run Tryz.prog W = .ok (.tuple #[stepP (fd x),.bool (fd x).isSome]) W := by
 obtain ⟨D,h2,h3,h4⟩ := h
 obtain ⟨v,ps,hrun,hv⟩ := h2.look_ok (t := 261) (e := 262) claw Tryz.underlying261 (z := .pointer none) (Tryz.zeroValue262 W) (zd := .lit (.int .i64 (-1))) (zp := []) rfl (ckey x hx)
 obtain ⟨c,rfl⟩ := stepElem_inv _ _ hv
 rw [stepElem_mk] at hv
 have hc : (DataW.lit (.int .i64 (stepI c)) : DataW Unit) = D.atKey (.string x) (.lit (.int .i64 (-1))) := by simpa using congrArg (fun o => o.map Prod.fst) hv
 rw [hrun,h3]
 have : c = fd x := by
  cases hf : (fd x).isSome with
  | true =>
   rw [h4 x _ hf] at hc
   exact stepI_inj (by simpa using hc)
  | false =>
   have hh : has D (.string x) = false := by rw [h3,hf]
   rw [atKey_of_not_has hh] at hc
   have h5 : c = none := stepI_inj (by simpa [stepI] using hc)
   rw [h5]
   cases hfx : fd x with
   | none => rfl
   | some b => rw [hfx] at hf;cases hf
 rw [this]
theorem MMap.laid {W : World} {mb n : Nat} {fd : List UInt8 → Option Nat} (h : MMap W mb n fd) (hn : n < maxLen) (x : List UInt8) (hx : x.length ≤ 1000000) (b : Nat) :
  ∃ w1,(Instr.mapUpdate 261 (.map (some mb)) (.string (ba x)) (Ptr b)).run Tryz.prog W = .ok () w1 ∧ MMap w1 mb (n + 1) (fun y => if y = x then some b else fd y) ∧ W.mapTurned w1 mb := by
 obtain ⟨D,h2,h3,h4⟩ := h
 obtain ⟨w1,hr,ho1,ht⟩ := h2.store (t := 261) (e := 262) claw Tryz.underlying261 hn (ckey x hx) (stepElem_mk (some b))
 have hT := h2.tidy claw
 have hk : WideAt.IsKeyLit (.string x) := by simp [WideAt.IsKeyLit]
 refine ⟨w1,hr,⟨_,ho1,fun y => ?_,fun y z hy => ?_⟩,ht⟩
 ·show _ = (if y = x then some b else fd y).isSome
  by_cases e : y = x
  ·subst e
   rw [if_pos rfl,has_put_same hT.isMap hk]
   rfl
  ·rw [if_neg e,has_put_other (by simpa using e),h3]
 ·replace hy : (if y = x then some b else fd y).isSome = true := hy
  show _ = DataW.lit (.int .i64 (stepI (if y = x then some b else fd y)))
  by_cases e : y = x
  ·subst e
   rw [if_pos rfl,atKey_put_same hT.isMap hk]
  ·rw [if_neg e] at hy ⊢
   rw [atKey_put_other (by simpa using e),h4 y z hy]
theorem SMap.laid {W : World} {bm n : Nat} {dom : Nat → Prop} {sp : Nat → Nat} (h : SMap W bm n dom sp) (hn : n < maxLen) (i b : Nat) (hi : i ≤ 1000000) :
  ∃ w1,(Instr.mapUpdate 222 (.map (some bm)) (.int .i64 (i : Nat)) (Ptr b)).run Tryz.prog W = .ok () w1 ∧ SMap w1 bm (n + 1) (fun k => dom k ∨ k = i) (updN sp i b) ∧ W.mapTurned w1 bm := by
 obtain ⟨D,h2,h3,h4⟩ := h
 obtain ⟨w1,hr,ho1,ht⟩ := h2.store (t := 222) (e := 262) ilaw Tryz.underlying222 hn (ikey (i : Nat) (by omega) (by omega)) (stepElem_mk (some b))
 have hT := h2.tidy ilaw
 have hk : WideAt.IsKeyLit (.int .i64 (i : Nat)) := by simp [WideAt.IsKeyLit]
 refine ⟨w1,hr,⟨_,ho1,fun y => ?_,fun k hd z => ?_⟩,ht⟩
 ·by_cases e : y = (i : Nat)
  ·subst e
   rw [has_put_same hT.isMap hk]
   simp
  ·rw [has_put_other (by simpa using e),h3]
   constructor
   ·rintro ⟨a,c⟩
    exact ⟨a,.inl c⟩
   ·rintro ⟨a,c | c⟩
    ·exact ⟨a,c⟩
    ·omega
 ·by_cases e : k = i
  ·subst e
   rw [atKey_put_same hT.isMap hk,updN_same]
   rfl
  ·rw [atKey_put_other (by simp;omega),updN_other e]
   rcases hd with h5 | h5
   ·exact h4 k h5 z
   ·exact absurd h5 e
def Lay.more (L : Lay) (i b : Nat) : Lay := ⟨updN L.sp i b,updN L.iv i (.slice none 0 0),updN L.uv i (.slice none 0 0),updN L.us i []⟩
theorem Mk.more {es : Nat → Addr} {W0 W W' : World} {dom : Nat → Prop} {L : Lay} {ru : Nat → Ru} {ins : Nat → List Inp} (h : Mk es W0 W dom L ru ins) {i b : Nat} (hi : ¬ dom i) (hb : Below W.heap.size W W') (hz : W.heap.size ≤ b) (hr : W'.heap[b]? = some (.cells (stepC es (ru i) (.slice none 0 0) (.slice none 0 0) .waits) 272)) :
  Mk es W0 W' (fun k => dom k ∨ k = i) (L.more i b) ru (updN ins i []) ∧ ∀ j,SBlk (fun k => dom k ∨ k = i) (L.more i b) j → SBlk dom L j ∨ W.heap.size ≤ j := by
 have hS := h.steps.below hb
 have hlt := h.steps.lt
 have ne : ∀ k,dom k → k ≠ i := fun k hk e => hi (e ▸ hk)
 have hsp : ∀ k,dom k → (L.more i b).sp k = L.sp k := fun k hk => updN_other (ne k hk)
 have hiv : ∀ k,dom k → (L.more i b).iv k = L.iv k := fun k hk => updN_other (ne k hk)
 have huv : ∀ k,dom k → (L.more i b).uv k = L.uv k := fun k hk => updN_other (ne k hk)
 have hus : ∀ k,dom k → (L.more i b).us k = L.us k := fun k hk => updN_other (ne k hk)
 have hin : ∀ k,dom k → updN ins i [] k = ins k := fun k hk => updN_other (ne k hk)
 have hspi : (L.more i b).sp i = b := updN_same _ _ _
 have hivi : (L.more i b).iv i = .slice none 0 0 := updN_same _ _ _
 have huvi : (L.more i b).uv i = .slice none 0 0 := updN_same _ _ _
 have husi : (L.more i b).us i = [] := updN_same _ _ _
 have hini : updN ins i [] i = [] := updN_same _ _ _
 have hblk : ∀ j,SBlk (fun k => dom k ∨ k = i) (L.more i b) j → SBlk dom L j ∨ W.heap.size ≤ j := by
  rintro j ⟨k,hk | rfl,e⟩
  ·rw [hsp k hk,hiv k hk,huv k hk] at e
   exact .inl ⟨k,hk,e⟩
  ·rw [hspi,hivi,huvi] at e
   rcases e with e | e | e
   ·exact .inr (by omega)
   ·cases e
   ·cases e
 refine ⟨⟨below_then h.base hb,⟨?_,?_,?_,?_,?_,?_⟩,?_,?_,?_⟩,hblk⟩
 ·rintro k (hk | rfl)
  ·rw [hsp k hk,hiv k hk,huv k hk]
   exact hS.step k hk
  ·rw [hspi,hivi,huvi]
   exact hr
 ·rintro j k (hj | rfl) (hk | rfl) e
  ·rw [hsp j hj,hsp k hk] at e
   exact hS.inj j k hj hk e
  ·rw [hsp j hj,hspi] at e
   have := hlt _ ⟨j,hj,.inl rfl⟩
   omega
  ·rw [hspi,hsp k hk] at e
   have := hlt _ ⟨k,hk,.inl rfl⟩
   omega
  ·rfl
 ·rintro k (hk | rfl)
  ·rw [hiv k hk,hin k hk,insC_congr (sp' := L.sp) fun j hj => hsp j (hS.insD k hk j hj)]
   exact hS.insR k hk
  ·rw [hivi,hini]
   exact World.ownsRow_nil _ _ _ _
 ·rintro k (hk | rfl)
  ·rw [huv k hk,hus k hk,usC_congr (sp' := L.sp) fun j hj => hsp j (hS.usD k hk j hj)]
   exact hS.usR k hk
  ·rw [huvi,husi]
   exact World.ownsRow_nil _ _ _ _
 ·rintro k (hk | rfl) j hj
  ·rw [hin k hk] at hj
   exact .inl (hS.insD k hk j hj)
  ·rw [hini] at hj
   cases hj
 ·rintro k (hk | rfl) j hj
  ·rw [hus k hk] at hj
   exact .inl (hS.usD k hk j hj)
  ·rw [husi] at hj
   cases hj
 ·intro j hj
  rcases hblk j hj with h1 | h1
  ·exact h.low j h1
  ·have := h.base.size
   omega
 ·rintro j k (hj | rfl) (hk | rfl) hne c hc
  ·rw [huv j hj] at hc
   rw [huv k hk]
   exact h.sepU j k hj hk hne c hc
  ·rw [huvi]
   intro e
   cases e
  ·rw [huvi] at hc
   cases hc
  ·exact absurd rfl hne
 ·rintro j k (hj | rfl) (hk | rfl) hne c hc
  ·rw [hiv j hj] at hc
   rw [hiv k hk]
   exact h.sepI j k hj hk hne c hc
  ·rw [hivi]
   intro e
   cases e
  ·rw [hivi] at hc
   cases hc
  ·exact absurd rfl hne
end Go.Proofs.YtdljhggillgpfaaGreatDoor
