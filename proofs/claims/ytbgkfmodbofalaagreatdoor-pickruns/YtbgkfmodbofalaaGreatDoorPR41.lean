import Derived.Test.YtbgkfmodbofalaaGreatDoorPR37
import Derived.Test.YtbgkfmodbofalaaGreatDoorPR40
import Derived.Laws.Tables
namespace Go.Proofs.YtbgkfmodbofalaaGreatDoor
open Go.RowKit Go.Shelf Go.Lib
abbrev SL (g n : Nat) : Value := .slice (some ⟨g,0,none⟩) n n
def NFr (tbv lv vo cv : Value) (n : Nat) (v10 v16 v17 v18 v19 v20 v21 v22 v23 v24 v25 v26 v27 v28 v29 : Value) : Act :=
 { tmps := #[tbv,lv,vo,cv,undef,undef,undef,undef,.pointer none,.int .i64 n,v10,undef,undef,undef,lv,.int .i64 n,v16,v17,v18,v19,v20,v21,v22,v23,v24,v25,v26,v27,v28,v29,undef,undef,undef,undef,undef,undef,undef,undef,undef,undef,undef,undef,undef,undef,undef,undef,undef,undef,undef,undef,undef,undef],defers := [] }
theorem RTreeAt.mono {B B' : Nat} {w : World} {tb : Nat} {fs : Tf.Fs} {v : Value} (h : RTreeAt B w tb fs v) (hB : B' <= B) : RTreeAt B' w tb fs v := by
 refine ⟨Nat.le_trans hB h.low,h.cell,h.free,⟨h.row.1,?_⟩,h.apart,h.nil⟩;rcases h.row.2 with h1 | ⟨g,cap,cur,e,h0,hg,h2⟩
 ·exact .inl h1
 ·exact .inr ⟨g,cap,cur,e,Nat.le_trans hB h0,hg,h2⟩
theorem PlRow.made {W : World} {B g n : Nat} {e : TypeId} {z : Value} (h : W.ownsRow B e 1 (.slice (some ⟨g,0,none⟩) n n) n (madeCells #[z] (n * 1)).toList) : PlRow W g n (fun _ => z) := by
 rw [Nat.mul_one,toList_madeCells_one] at h;rcases h.2 with ⟨e0,_⟩ | ⟨g',cap,cur,e0,_,hg,_⟩
 ·cases e0
 ·cases e0
  refine ⟨(Array.getElem?_eq_some_iff.1 hg).1,fun j hj => ⟨?_,by simp [World.frozen?,hg]⟩⟩
  have := h.cells (g := g) rfl j z (by simp [hj])
  rw [Zct,Nat.zero_add] at this;exact this
section
variable {P : Program} {ops : Array Oper} {Q : Exit -> Act -> World -> Prop} {K : Act -> World -> Prop} {a : Act} {w : World}
theorem Zao {i : Nat} {o : Oper} (ho : ops[i]? = some o) (hg : o.guard = none) (h : o.wp P a w K Q) : wpOp P ops Q i K a w := by
 unfold wpOp;rw [ho];simp only [Region.wanted,hg];exact .inl h
theorem wp_mv {o : Oper} {x : Operand} (ho : o.op = .move x \/ o.op = .assign x) (h : K (a.put o.dst (a.eval x)) w) : o.wp P a w K Q := by
 unfold Oper.wp;have : (execOp a.eval o).run P w = .ok (.value (a.eval x)) w := by
  rcases ho with ho | ho <;> simp [execOp,ho]
 rw [this];exact h
theorem wp_mk {o : Oper} {l : Operand} {t e : TypeId} {z : Value} {i : TypeInfo} {B n : Nat} (ho : o.op = .makeSlice t l l) (h1 : P.underlying t = some (.slice e)) (h2 : P.info? e = some i) (h3 : i.zero = some z) (h4 : i.size = 1) (hz : z.cells = #[z]) (hl : a.eval l = .int .i64 n) (b2 : i.bytes * n <= 281474976710656) (b3 : n <= maxLen) (b4 : B <= w.heap.size)
  (h : ∀ w',PlRow w' w.heap.size n (fun _ => z) -> Below w.heap.size w w' -> w.heap.size < w'.heap.size -> K (a.put o.dst (SL w.heap.size n)) w') : o.wp P a w K Q := by
 obtain ⟨w',hrun,r1,r2⟩ := run_make_full (P := P) w B t e i z 1 h1 h2 h3 h4 .i64 .i64 n b2 b3 b4;rw [hz] at r1;have hp := PlRow.made r1;unfold Oper.wp;simp [execOp,ho,hl,hrun,Result.andThen];exact h w' hp ⟨r2.os,r2.tape,r2.output,r2.size,fun j hj => r2.block j hj (by simp)⟩ hp.1
theorem wp_fn {o : Oper} {f : FuncId} {x : Operand} {ts : Array TypeId} {R : Ending -> World -> Prop} (ho : o.op = .call { callee := .value (.func f),args := #[x],argTypes := ts }) (hen : Enters P f) (hc : Calls P f #[a.eval x] w R) (h : ∀ e w',R e w' -> ∃ v,e = .returned v /\ K (a.put o.dst v) w') : o.wp P a w K Q := by
 unfold Oper.wp;have hr : (execOp a.eval o).run P w = .ok (.enter f #[a.eval x]) w := by
  simp [execOp,ho,resolve,invoke,Act.eval];exact hen _ _
 rw [hr,Oper.upon_enter];refine hc.mono fun e w' he => ?_
 obtain ⟨v,rfl,hk⟩ := h e w' he;exact hk
theorem wp_bd {o : Oper} {t : TypeId} {parts : Array (Nat × Operand)} {cells : Array Value} (ho : o.op = .build t parts) (hb : P.built t (parts.map fun q => (q.1,a.eval q.2)).toList = some cells) (h : K (a.put o.dst (.agg cells)) w) : o.wp P a w K Q := by
 unfold Oper.wp;have hr := run_build (P := P) w t (parts.map fun q => (q.1,a.eval q.2)) cells hb
 have : (execOp a.eval o).run P w = .ok (.value (.agg cells)) w := by
  simp only [execOp,ho];first
   | (simp only [Sem.run_bind,hr,Result.andThen_ok,Sem.run_pure])
   | (simp [hr])
 rw [this];exact h
theorem wp_bx {o : Oper} {t : TypeId} {x : Operand} {cells : Array Value} (ho : o.op = .box t x) (hx : a.eval x = .agg cells) (hr : (Instr.box t (.agg cells)).run P w = .ok (.pointer (some ⟨w.heap.size,0,none⟩)) (w.alloc (.cells cells t))) (h : K (a.put o.dst (.pointer (some ⟨w.heap.size,0,none⟩))) (w.alloc (.cells cells t))) : o.wp P a w K Q := by
 unfold Oper.wp;have : (execOp a.eval o).run P w = .ok (.value (.pointer (some ⟨w.heap.size,0,none⟩))) (w.alloc (.cells cells t)) := by
  simp only [execOp,ho,hx];first
   | (simp only [Sem.run_bind,hr,Result.andThen_ok,Sem.run_pure])
   | (simp [hr])
 rw [this];exact h
end
structure NB (w0 : World) (tb : Nat) (fs : Tf.Fs) (p : Option Addr) (cap : Nat) (cp : Option Addr) (n : Nat) (F : Nat -> Bool) (w : World) (tb' : Nat) (tv' : Value) (gs go gh gw mb : Nat) (v10 v16 v17 v18 v19 v20 v21 v22 v23 v24 v25 v26 v27 v28 v29 : Value) : Prop where
 base : Below w0.heap.size w0 w
 a16 : F 0 = true -> v16 = Ptr tb
 a18 : F 2 = true -> v18 = .slice p n cap
 a19 : F 3 = true -> v19 = .int .i64 n
 a21 : F 5 = true -> v21 = .int .i64 n
 a23 : F 7 = true -> v23 = .int .i64 n
 a25 : F 9 = true -> v25 = .int .i64 n
 a27 : F 11 = true -> v27 = .pointer cp
 tr : F 1 = true -> v17 = Ptr tb' /\ RTreeAt w0.heap.size w tb' fs tv'
 s : F 4 = true -> v20 = SL gs n /\ w0.heap.size <= gs /\ PlRow w gs n (fun _ => .string ⟨#[]⟩)
 o : F 6 = true -> v22 = SL go n /\ w0.heap.size <= go /\ PlRow w go n (fun _ => .string ⟨#[]⟩)
 h : F 8 = true -> v24 = SL gh n /\ w0.heap.size <= gh /\ PlRow w gh n (fun _ => .bool false)
 y : F 10 = true -> v26 = SL gw n /\ w0.heap.size <= gw /\ PlRow w gw n (fun _ => .int .i64 0)
 d1 : F 4 = true -> F 6 = true -> gs ≠ go
 d2 : F 4 = true -> F 8 = true -> gs ≠ gh
 d3 : F 4 = true -> F 10 = true -> gs ≠ gw
 d4 : F 6 = true -> F 8 = true -> go ≠ gh
 d5 : F 6 = true -> F 10 = true -> go ≠ gw
 d6 : F 8 = true -> F 10 = true -> gh ≠ gw
 e1 : F 1 = true -> F 4 = true -> ∀ j,(j = tb' \/ some j = tv'.ownBlock) -> j ≠ gs
 e2 : F 1 = true -> F 6 = true -> ∀ j,(j = tb' \/ some j = tv'.ownBlock) -> j ≠ go
 e3 : F 1 = true -> F 8 = true -> ∀ j,(j = tb' \/ some j = tv'.ownBlock) -> j ≠ gh
 e4 : F 1 = true -> F 10 = true -> ∀ j,(j = tb' \/ some j = tv'.ownBlock) -> j ≠ gw
 c12 : F 12 = true -> F 1 = true /\ F 2 = true /\ F 4 = true /\ F 6 = true /\ F 8 = true /\ F 10 = true /\ F 11 = true
 c13 : F 13 = true -> F 12 = true
 c14 : F 14 = true -> F 13 = true
 b : F 12 = true -> v28 = .agg #[v17,v18,v20,v22,v24,v26,v27]
 x : F 13 = true -> v29 = .pointer (some ⟨mb,0,none⟩) /\ w0.heap.size <= mb /\ mb < w.heap.size /\ (w.cell? ⟨mb,0,none⟩ = some v17 /\ w.cell? ⟨mb,1,none⟩ = some v18 /\ w.cell? ⟨mb,2,none⟩ = some v20 /\ w.cell? ⟨mb,3,none⟩ = some v22 /\ w.cell? ⟨mb,4,none⟩ = some v24 /\ w.cell? ⟨mb,5,none⟩ = some v26 /\ w.cell? ⟨mb,6,none⟩ = some v27) /\ mb ≠ gs /\ mb ≠ go /\ mb ≠ gh /\ mb ≠ gw
 z : F 14 = true -> v10 = v29
section
variable {w0 : World} {tb : Nat} {fs : Tf.Fs} {p : Option Addr} {cap : Nat} {cp : Option Addr} {n : Nat} {F : Nat -> Bool} {w w' : World} {tb' : Nat} {tv' : Value} {gs go gh gw mb : Nat} {v10 v16 v17 v18 v19 v20 v21 v22 v23 v24 v25 v26 v27 v28 v29 : Value}
theorem NB.world (h : NB w0 tb fs p cap cp n F w tb' tv' gs go gh gw mb v10 v16 v17 v18 v19 v20 v21 v22 v23 v24 v25 v26 v27 v28 v29) (hb : Below w.heap.size w w') : NB w0 tb fs p cap cp n F w' tb' tv' gs go gh gw mb v10 v16 v17 v18 v19 v20 v21 v22 v23 v24 v25 v26 v27 v28 v29 :=
 { h with
  base := h.base.trans (hb.mono h.base.size)
  tr := fun f => ⟨(h.tr f).1,(h.tr f).2.below hb⟩
  s := fun f => ⟨(h.s f).1,(h.s f).2.1,(h.s f).2.2.same hb.size (hb.block _ (h.s f).2.2.1)⟩
  o := fun f => ⟨(h.o f).1,(h.o f).2.1,(h.o f).2.2.same hb.size (hb.block _ (h.o f).2.2.1)⟩
  h := fun f => ⟨(h.h f).1,(h.h f).2.1,(h.h f).2.2.same hb.size (hb.block _ (h.h f).2.2.1)⟩
  y := fun f => ⟨(h.y f).1,(h.y f).2.1,(h.y f).2.2.same hb.size (hb.block _ (h.y f).2.2.1)⟩
  x := fun f => by
   obtain ⟨h1,h2,h3,⟨c0,c1,c2,c3,c4,c5,c6⟩,h4⟩ := h.x f;exact ⟨h1,h2,Nat.lt_of_lt_of_le h3 hb.size,⟨Zaa c0 hb,Zaa c1 hb,Zaa c2 hb,Zaa c3 hb,Zaa c4 hb,Zaa c5 hb,Zaa c6 hb⟩,h4⟩ }
theorem NB.step0 (h : NB w0 tb fs p cap cp n F w tb' tv' gs go gh gw mb v10 v16 v17 v18 v19 v20 v21 v22 v23 v24 v25 v26 v27 v28 v29) : NB w0 tb fs p cap cp n (setF F 0) w tb' tv' gs go gh gw mb v10 (Ptr tb) v17 v18 v19 v20 v21 v22 v23 v24 v25 v26 v27 v28 v29 := by
 exact {
  base := h.base
  a16 := fun _ => rfl
  a18 := h.a18
  a19 := h.a19
  a21 := h.a21
  a23 := h.a23
  a25 := h.a25
  a27 := h.a27
  tr := h.tr
  s := h.s
  o := h.o
  h := h.h
  y := h.y
  d1 := h.d1
  d2 := h.d2
  d3 := h.d3
  d4 := h.d4
  d5 := h.d5
  d6 := h.d6
  e1 := h.e1
  e2 := h.e2
  e3 := h.e3
  e4 := h.e4
  c12 := h.c12
  c13 := h.c13
  c14 := h.c14
  b := h.b
  x := h.x
  z := h.z
 }
theorem NB.step3 (h : NB w0 tb fs p cap cp n F w tb' tv' gs go gh gw mb v10 v16 v17 v18 v19 v20 v21 v22 v23 v24 v25 v26 v27 v28 v29) : NB w0 tb fs p cap cp n (setF F 3) w tb' tv' gs go gh gw mb v10 v16 v17 v18 (.int .i64 n) v20 v21 v22 v23 v24 v25 v26 v27 v28 v29 := by
 exact {
  base := h.base
  a16 := h.a16
  a18 := h.a18
  a19 := fun _ => rfl
  a21 := h.a21
  a23 := h.a23
  a25 := h.a25
  a27 := h.a27
  tr := h.tr
  s := h.s
  o := h.o
  h := h.h
  y := h.y
  d1 := h.d1
  d2 := h.d2
  d3 := h.d3
  d4 := h.d4
  d5 := h.d5
  d6 := h.d6
  e1 := h.e1
  e2 := h.e2
  e3 := h.e3
  e4 := h.e4
  c12 := h.c12
  c13 := h.c13
  c14 := h.c14
  b := h.b
  x := h.x
  z := h.z
 }
theorem NB.step5 (h : NB w0 tb fs p cap cp n F w tb' tv' gs go gh gw mb v10 v16 v17 v18 v19 v20 v21 v22 v23 v24 v25 v26 v27 v28 v29) : NB w0 tb fs p cap cp n (setF F 5) w tb' tv' gs go gh gw mb v10 v16 v17 v18 v19 v20 (.int .i64 n) v22 v23 v24 v25 v26 v27 v28 v29 := by
 exact {
  base := h.base
  a16 := h.a16
  a18 := h.a18
  a19 := h.a19
  a21 := fun _ => rfl
  a23 := h.a23
  a25 := h.a25
  a27 := h.a27
  tr := h.tr
  s := h.s
  o := h.o
  h := h.h
  y := h.y
  d1 := h.d1
  d2 := h.d2
  d3 := h.d3
  d4 := h.d4
  d5 := h.d5
  d6 := h.d6
  e1 := h.e1
  e2 := h.e2
  e3 := h.e3
  e4 := h.e4
  c12 := h.c12
  c13 := h.c13
  c14 := h.c14
  b := h.b
  x := h.x
  z := h.z
 }
theorem NB.step7 (h : NB w0 tb fs p cap cp n F w tb' tv' gs go gh gw mb v10 v16 v17 v18 v19 v20 v21 v22 v23 v24 v25 v26 v27 v28 v29) : NB w0 tb fs p cap cp n (setF F 7) w tb' tv' gs go gh gw mb v10 v16 v17 v18 v19 v20 v21 v22 (.int .i64 n) v24 v25 v26 v27 v28 v29 := by
 exact {
  base := h.base
  a16 := h.a16
  a18 := h.a18
  a19 := h.a19
  a21 := h.a21
  a23 := fun _ => rfl
  a25 := h.a25
  a27 := h.a27
  tr := h.tr
  s := h.s
  o := h.o
  h := h.h
  y := h.y
  d1 := h.d1
  d2 := h.d2
  d3 := h.d3
  d4 := h.d4
  d5 := h.d5
  d6 := h.d6
  e1 := h.e1
  e2 := h.e2
  e3 := h.e3
  e4 := h.e4
  c12 := h.c12
  c13 := h.c13
  c14 := h.c14
  b := h.b
  x := h.x
  z := h.z
 }
theorem NB.step9 (h : NB w0 tb fs p cap cp n F w tb' tv' gs go gh gw mb v10 v16 v17 v18 v19 v20 v21 v22 v23 v24 v25 v26 v27 v28 v29) : NB w0 tb fs p cap cp n (setF F 9) w tb' tv' gs go gh gw mb v10 v16 v17 v18 v19 v20 v21 v22 v23 v24 (.int .i64 n) v26 v27 v28 v29 := by
 exact {
  base := h.base
  a16 := h.a16
  a18 := h.a18
  a19 := h.a19
  a21 := h.a21
  a23 := h.a23
  a25 := fun _ => rfl
  a27 := h.a27
  tr := h.tr
  s := h.s
  o := h.o
  h := h.h
  y := h.y
  d1 := h.d1
  d2 := h.d2
  d3 := h.d3
  d4 := h.d4
  d5 := h.d5
  d6 := h.d6
  e1 := h.e1
  e2 := h.e2
  e3 := h.e3
  e4 := h.e4
  c12 := h.c12
  c13 := h.c13
  c14 := h.c14
  b := h.b
  x := h.x
  z := h.z
 }
theorem NB.step2 (h : NB w0 tb fs p cap cp n F w tb' tv' gs go gh gw mb v10 v16 v17 v18 v19 v20 v21 v22 v23 v24 v25 v26 v27 v28 v29) (hF : F 2 = false) : NB w0 tb fs p cap cp n (setF F 2) w tb' tv' gs go gh gw mb v10 v16 v17 (.slice p n cap) v19 v20 v21 v22 v23 v24 v25 v26 v27 v28 v29 := by
 have no12 : ∀ {k : Nat},(k = 1 \/ k = 2 \/ k = 4 \/ k = 6 \/ k = 8 \/ k = 10 \/ k = 11) -> F k = false -> F 12 = true -> False := fun {k} hk hf h12 => by
  obtain ⟨a1,a2,a3,a4,a5,a6,a7⟩ := h.c12 h12;rcases hk with rfl | rfl | rfl | rfl | rfl | rfl | rfl <;> simp_all
 exact {
  base := h.base
  a16 := h.a16
  a18 := fun _ => rfl
  a19 := h.a19
  a21 := h.a21
  a23 := h.a23
  a25 := h.a25
  a27 := h.a27
  tr := h.tr
  s := h.s
  o := h.o
  h := h.h
  y := h.y
  d1 := h.d1
  d2 := h.d2
  d3 := h.d3
  d4 := h.d4
  d5 := h.d5
  d6 := h.d6
  e1 := h.e1
  e2 := h.e2
  e3 := h.e3
  e4 := h.e4
  c12 := fun f => (no12 (k := 2) (by simp) hF f).elim
  c13 := h.c13
  c14 := h.c14
  b := fun f => (no12 (k := 2) (by simp) hF f).elim
  x := fun f => (no12 (k := 2) (by simp) hF (h.c13 f)).elim
  z := h.z
 }
theorem NB.step11 (h : NB w0 tb fs p cap cp n F w tb' tv' gs go gh gw mb v10 v16 v17 v18 v19 v20 v21 v22 v23 v24 v25 v26 v27 v28 v29) (hF : F 11 = false) : NB w0 tb fs p cap cp n (setF F 11) w tb' tv' gs go gh gw mb v10 v16 v17 v18 v19 v20 v21 v22 v23 v24 v25 v26 (.pointer cp) v28 v29 := by
 have no12 : ∀ {k : Nat},(k = 1 \/ k = 2 \/ k = 4 \/ k = 6 \/ k = 8 \/ k = 10 \/ k = 11) -> F k = false -> F 12 = true -> False := fun {k} hk hf h12 => by
  obtain ⟨a1,a2,a3,a4,a5,a6,a7⟩ := h.c12 h12;rcases hk with rfl | rfl | rfl | rfl | rfl | rfl | rfl <;> simp_all
 exact {
  base := h.base
  a16 := h.a16
  a18 := h.a18
  a19 := h.a19
  a21 := h.a21
  a23 := h.a23
  a25 := h.a25
  a27 := fun _ => rfl
  tr := h.tr
  s := h.s
  o := h.o
  h := h.h
  y := h.y
  d1 := h.d1
  d2 := h.d2
  d3 := h.d3
  d4 := h.d4
  d5 := h.d5
  d6 := h.d6
  e1 := h.e1
  e2 := h.e2
  e3 := h.e3
  e4 := h.e4
  c12 := fun f => (no12 (k := 11) (by simp) hF f).elim
  c13 := h.c13
  c14 := h.c14
  b := fun f => (no12 (k := 11) (by simp) hF f).elim
  x := fun f => (no12 (k := 11) (by simp) hF (h.c13 f)).elim
  z := h.z
 }
theorem NB.step4 (h : NB w0 tb fs p cap cp n F w tb' tv' gs go gh gw mb v10 v16 v17 v18 v19 v20 v21 v22 v23 v24 v25 v26 v27 v28 v29) (hF : F 4 = false) {w1 : World} (hb : Below w.heap.size w w1) (hp : PlRow w1 w.heap.size n (fun _ => .string ⟨#[]⟩)) : NB w0 tb fs p cap cp n (setF F 4) w1 tb' tv' w.heap.size go gh gw mb v10 v16 v17 v18 v19 (SL w.heap.size n) v21 v22 v23 v24 v25 v26 v27 v28 v29 := by
 have no12 : ∀ {k : Nat},(k = 1 \/ k = 2 \/ k = 4 \/ k = 6 \/ k = 8 \/ k = 10 \/ k = 11) -> F k = false -> F 12 = true -> False := fun {k} hk hf h12 => by
  obtain ⟨a1,a2,a3,a4,a5,a6,a7⟩ := h.c12 h12;rcases hk with rfl | rfl | rfl | rfl | rfl | rfl | rfl <;> simp_all
 have h0 := h;replace h := h.world hb
 exact {
  base := h.base
  a16 := h.a16
  a18 := h.a18
  a19 := h.a19
  a21 := h.a21
  a23 := h.a23
  a25 := h.a25
  a27 := h.a27
  tr := h.tr
  s := fun _ => ⟨rfl,Nat.le_trans h0.base.size (Nat.le_refl _),hp⟩
  o := h.o
  h := h.h
  y := h.y
  d1 := fun _ f e => by have := (h0.o f).2.2.1;omega
  d2 := fun _ f e => by have := (h0.h f).2.2.1;omega
  d3 := fun _ f e => by have := (h0.y f).2.2.1;omega
  d4 := h.d4
  d5 := h.d5
  d6 := h.d6
  e1 := fun f _ j hj e => by
   have := (h0.tr f).2.lt;rcases hj with h1 | h1
   ·omega
   ·have := ((h0.tr f).2.row.lt j h1.symm).2;omega
  e2 := h.e2
  e3 := h.e3
  e4 := h.e4
  c12 := fun f => (no12 (k := 4) (by simp) hF f).elim
  c13 := h.c13
  c14 := h.c14
  b := fun f => (no12 (k := 4) (by simp) hF f).elim
  x := fun f => (no12 (k := 4) (by simp) hF (h.c13 f)).elim
  z := h.z
 }
theorem NB.step6 (h : NB w0 tb fs p cap cp n F w tb' tv' gs go gh gw mb v10 v16 v17 v18 v19 v20 v21 v22 v23 v24 v25 v26 v27 v28 v29) (hF : F 6 = false) {w1 : World} (hb : Below w.heap.size w w1) (hp : PlRow w1 w.heap.size n (fun _ => .string ⟨#[]⟩)) : NB w0 tb fs p cap cp n (setF F 6) w1 tb' tv' gs w.heap.size gh gw mb v10 v16 v17 v18 v19 v20 v21 (SL w.heap.size n) v23 v24 v25 v26 v27 v28 v29 := by
 have no12 : ∀ {k : Nat},(k = 1 \/ k = 2 \/ k = 4 \/ k = 6 \/ k = 8 \/ k = 10 \/ k = 11) -> F k = false -> F 12 = true -> False := fun {k} hk hf h12 => by
  obtain ⟨a1,a2,a3,a4,a5,a6,a7⟩ := h.c12 h12;rcases hk with rfl | rfl | rfl | rfl | rfl | rfl | rfl <;> simp_all
 have h0 := h;replace h := h.world hb
 exact {
  base := h.base
  a16 := h.a16
  a18 := h.a18
  a19 := h.a19
  a21 := h.a21
  a23 := h.a23
  a25 := h.a25
  a27 := h.a27
  tr := h.tr
  s := h.s
  o := fun _ => ⟨rfl,Nat.le_trans h0.base.size (Nat.le_refl _),hp⟩
  h := h.h
  y := h.y
  d1 := fun f _ e => by have := (h0.s f).2.2.1;omega
  d2 := h.d2
  d3 := h.d3
  d4 := fun _ f e => by have := (h0.h f).2.2.1;omega
  d5 := fun _ f e => by have := (h0.y f).2.2.1;omega
  d6 := h.d6
  e1 := h.e1
  e2 := fun f _ j hj e => by
   have := (h0.tr f).2.lt;rcases hj with h1 | h1
   ·omega
   ·have := ((h0.tr f).2.row.lt j h1.symm).2;omega
  e3 := h.e3
  e4 := h.e4
  c12 := fun f => (no12 (k := 6) (by simp) hF f).elim
  c13 := h.c13
  c14 := h.c14
  b := fun f => (no12 (k := 6) (by simp) hF f).elim
  x := fun f => (no12 (k := 6) (by simp) hF (h.c13 f)).elim
  z := h.z
 }
theorem NB.step8 (h : NB w0 tb fs p cap cp n F w tb' tv' gs go gh gw mb v10 v16 v17 v18 v19 v20 v21 v22 v23 v24 v25 v26 v27 v28 v29) (hF : F 8 = false) {w1 : World} (hb : Below w.heap.size w w1) (hp : PlRow w1 w.heap.size n (fun _ => .bool false)) : NB w0 tb fs p cap cp n (setF F 8) w1 tb' tv' gs go w.heap.size gw mb v10 v16 v17 v18 v19 v20 v21 v22 v23 (SL w.heap.size n) v25 v26 v27 v28 v29 := by
 have no12 : ∀ {k : Nat},(k = 1 \/ k = 2 \/ k = 4 \/ k = 6 \/ k = 8 \/ k = 10 \/ k = 11) -> F k = false -> F 12 = true -> False := fun {k} hk hf h12 => by
  obtain ⟨a1,a2,a3,a4,a5,a6,a7⟩ := h.c12 h12;rcases hk with rfl | rfl | rfl | rfl | rfl | rfl | rfl <;> simp_all
 have h0 := h;replace h := h.world hb
 exact {
  base := h.base
  a16 := h.a16
  a18 := h.a18
  a19 := h.a19
  a21 := h.a21
  a23 := h.a23
  a25 := h.a25
  a27 := h.a27
  tr := h.tr
  s := h.s
  o := h.o
  h := fun _ => ⟨rfl,Nat.le_trans h0.base.size (Nat.le_refl _),hp⟩
  y := h.y
  d1 := h.d1
  d2 := fun f _ e => by have := (h0.s f).2.2.1;omega
  d3 := h.d3
  d4 := fun f _ e => by have := (h0.o f).2.2.1;omega
  d5 := h.d5
  d6 := fun _ f e => by have := (h0.y f).2.2.1;omega
  e1 := h.e1
  e2 := h.e2
  e3 := fun f _ j hj e => by
   have := (h0.tr f).2.lt;rcases hj with h1 | h1
   ·omega
   ·have := ((h0.tr f).2.row.lt j h1.symm).2;omega
  e4 := h.e4
  c12 := fun f => (no12 (k := 8) (by simp) hF f).elim
  c13 := h.c13
  c14 := h.c14
  b := fun f => (no12 (k := 8) (by simp) hF f).elim
  x := fun f => (no12 (k := 8) (by simp) hF (h.c13 f)).elim
  z := h.z
 }
theorem NB.step10 (h : NB w0 tb fs p cap cp n F w tb' tv' gs go gh gw mb v10 v16 v17 v18 v19 v20 v21 v22 v23 v24 v25 v26 v27 v28 v29) (hF : F 10 = false) {w1 : World} (hb : Below w.heap.size w w1) (hp : PlRow w1 w.heap.size n (fun _ => .int .i64 0)) : NB w0 tb fs p cap cp n (setF F 10) w1 tb' tv' gs go gh w.heap.size mb v10 v16 v17 v18 v19 v20 v21 v22 v23 v24 v25 (SL w.heap.size n) v27 v28 v29 := by
 have no12 : ∀ {k : Nat},(k = 1 \/ k = 2 \/ k = 4 \/ k = 6 \/ k = 8 \/ k = 10 \/ k = 11) -> F k = false -> F 12 = true -> False := fun {k} hk hf h12 => by
  obtain ⟨a1,a2,a3,a4,a5,a6,a7⟩ := h.c12 h12;rcases hk with rfl | rfl | rfl | rfl | rfl | rfl | rfl <;> simp_all
 have h0 := h;replace h := h.world hb
 exact {
  base := h.base
  a16 := h.a16
  a18 := h.a18
  a19 := h.a19
  a21 := h.a21
  a23 := h.a23
  a25 := h.a25
  a27 := h.a27
  tr := h.tr
  s := h.s
  o := h.o
  h := h.h
  y := fun _ => ⟨rfl,Nat.le_trans h0.base.size (Nat.le_refl _),hp⟩
  d1 := h.d1
  d2 := h.d2
  d3 := fun f _ e => by have := (h0.s f).2.2.1;omega
  d4 := h.d4
  d5 := fun f _ e => by have := (h0.o f).2.2.1;omega
  d6 := fun f _ e => by have := (h0.h f).2.2.1;omega
  e1 := h.e1
  e2 := h.e2
  e3 := h.e3
  e4 := fun f _ j hj e => by
   have := (h0.tr f).2.lt;rcases hj with h1 | h1
   ·omega
   ·have := ((h0.tr f).2.row.lt j h1.symm).2;omega
  c12 := fun f => (no12 (k := 10) (by simp) hF f).elim
  c13 := h.c13
  c14 := h.c14
  b := fun f => (no12 (k := 10) (by simp) hF f).elim
  x := fun f => (no12 (k := 10) (by simp) hF (h.c13 f)).elim
  z := h.z
 }
theorem NB.step1 (h : NB w0 tb fs p cap cp n F w tb' tv' gs go gh gw mb v10 v16 v17 v18 v19 v20 v21 v22 v23 v24 v25 v26 v27 v28 v29) (hF : F 1 = false) {w1 : World} (hb : Below w.heap.size w w1) {tv1 : Value} (ht : RTreeAt w.heap.size w1 w.heap.size fs tv1) : NB w0 tb fs p cap cp n (setF F 1) w1 w.heap.size tv1 gs go gh gw mb v10 v16 (Ptr w.heap.size) v18 v19 v20 v21 v22 v23 v24 v25 v26 v27 v28 v29 := by
 have no12 : ∀ {k : Nat},(k = 1 \/ k = 2 \/ k = 4 \/ k = 6 \/ k = 8 \/ k = 10 \/ k = 11) -> F k = false -> F 12 = true -> False := fun {k} hk hf h12 => by
  obtain ⟨a1,a2,a3,a4,a5,a6,a7⟩ := h.c12 h12;rcases hk with rfl | rfl | rfl | rfl | rfl | rfl | rfl <;> simp_all
 have h0 := h;replace h := h.world hb
 exact {
  base := h.base
  a16 := h.a16
  a18 := h.a18
  a19 := h.a19
  a21 := h.a21
  a23 := h.a23
  a25 := h.a25
  a27 := h.a27
  tr := fun _ => ⟨rfl,ht.mono h0.base.size⟩
  s := h.s
  o := h.o
  h := h.h
  y := h.y
  d1 := h.d1
  d2 := h.d2
  d3 := h.d3
  d4 := h.d4
  d5 := h.d5
  d6 := h.d6
  e1 := fun _ f j hj e => by
   have := (h0.s f).2.2.1;rcases hj with h1 | h1
   ·omega
   ·have := (ht.row.lt j h1.symm).1;omega
  e2 := fun _ f j hj e => by
   have := (h0.o f).2.2.1;rcases hj with h1 | h1
   ·omega
   ·have := (ht.row.lt j h1.symm).1;omega
  e3 := fun _ f j hj e => by
   have := (h0.h f).2.2.1;rcases hj with h1 | h1
   ·omega
   ·have := (ht.row.lt j h1.symm).1;omega
  e4 := fun _ f j hj e => by
   have := (h0.y f).2.2.1;rcases hj with h1 | h1
   ·omega
   ·have := (ht.row.lt j h1.symm).1;omega
  c12 := fun f => (no12 (k := 1) (by simp) hF f).elim
  c13 := h.c13
  c14 := h.c14
  b := fun f => (no12 (k := 1) (by simp) hF f).elim
  x := fun f => (no12 (k := 1) (by simp) hF (h.c13 f)).elim
  z := h.z
 }
theorem NB.step12 (h : NB w0 tb fs p cap cp n F w tb' tv' gs go gh gw mb v10 v16 v17 v18 v19 v20 v21 v22 v23 v24 v25 v26 v27 v28 v29) (hd : F 1 = true /\ F 2 = true /\ F 4 = true /\ F 6 = true /\ F 8 = true /\ F 10 = true /\ F 11 = true) : NB w0 tb fs p cap cp n (setF F 12) w tb' tv' gs go gh gw mb v10 v16 v17 v18 v19 v20 v21 v22 v23 v24 v25 v26 v27 (.agg #[v17,v18,v20,v22,v24,v26,v27]) v29 := by
 exact {
  base := h.base
  a16 := h.a16
  a18 := h.a18
  a19 := h.a19
  a21 := h.a21
  a23 := h.a23
  a25 := h.a25
  a27 := h.a27
  tr := h.tr
  s := h.s
  o := h.o
  h := h.h
  y := h.y
  d1 := h.d1
  d2 := h.d2
  d3 := h.d3
  d4 := h.d4
  d5 := h.d5
  d6 := h.d6
  e1 := h.e1
  e2 := h.e2
  e3 := h.e3
  e4 := h.e4
  c12 := fun _ => hd
  c13 := fun _ => by unfold setF;rw [if_pos rfl]
  c14 := h.c14
  b := fun _ => rfl
  x := h.x
  z := h.z
 }
theorem NB.step13 (h : NB w0 tb fs p cap cp n F w tb' tv' gs go gh gw mb v10 v16 v17 v18 v19 v20 v21 v22 v23 v24 v25 v26 v27 v28 v29) (hF : F 13 = false) {w1 : World} (hb : Below w.heap.size w w1) (hl : w.heap.size < w1.heap.size) (h12 : F 12 = true) (hc : w1.cell? ⟨w.heap.size,0,none⟩ = some v17 /\ w1.cell? ⟨w.heap.size,1,none⟩ = some v18 /\ w1.cell? ⟨w.heap.size,2,none⟩ = some v20 /\ w1.cell? ⟨w.heap.size,3,none⟩ = some v22 /\ w1.cell? ⟨w.heap.size,4,none⟩ = some v24 /\ w1.cell? ⟨w.heap.size,5,none⟩ = some v26 /\ w1.cell? ⟨w.heap.size,6,none⟩ = some v27) : NB w0 tb fs p cap cp n (setF F 13) w1 tb' tv' gs go gh gw w.heap.size v10 v16 v17 v18 v19 v20 v21 v22 v23 v24 v25 v26 v27 v28 (.pointer (some ⟨w.heap.size,0,none⟩)) := by
 have h0 := h;replace h := h.world hb
 exact {
  base := h.base
  a16 := h.a16
  a18 := h.a18
  a19 := h.a19
  a21 := h.a21
  a23 := h.a23
  a25 := h.a25
  a27 := h.a27
  tr := h.tr
  s := h.s
  o := h.o
  h := h.h
  y := h.y
  d1 := h.d1
  d2 := h.d2
  d3 := h.d3
  d4 := h.d4
  d5 := h.d5
  d6 := h.d6
  e1 := h.e1
  e2 := h.e2
  e3 := h.e3
  e4 := h.e4
  c12 := h.c12
  c13 := fun _ => h12
  c14 := fun _ => by unfold setF;rw [if_pos rfl]
  b := h.b
  x := fun _ => by
   obtain ⟨a1,a2,a3,a4,a5,a6,a7⟩ := h0.c12 h12;have l1 := (h0.s a3).2.2.1;have l2 := (h0.o a4).2.2.1;have l3 := (h0.h a5).2.2.1;have l4 := (h0.y a6).2.2.1;exact ⟨rfl,h0.base.size,hl,hc,by omega,by omega,by omega,by omega⟩
  z := fun f => by have := h.c14 f;rw [hF] at this;cases this
 }
theorem NB.step14 (h : NB w0 tb fs p cap cp n F w tb' tv' gs go gh gw mb v10 v16 v17 v18 v19 v20 v21 v22 v23 v24 v25 v26 v27 v28 v29) (h13 : F 13 = true) : NB w0 tb fs p cap cp n (setF F 14) w tb' tv' gs go gh gw mb v29 v16 v17 v18 v19 v20 v21 v22 v23 v24 v25 v26 v27 v28 v29 := by
 exact {
  base := h.base
  a16 := h.a16
  a18 := h.a18
  a19 := h.a19
  a21 := h.a21
  a23 := h.a23
  a25 := h.a25
  a27 := h.a27
  tr := h.tr
  s := h.s
  o := h.o
  h := h.h
  y := h.y
  d1 := h.d1
  d2 := h.d2
  d3 := h.d3
  d4 := h.d4
  d5 := h.d5
  d6 := h.d6
  e1 := h.e1
  e2 := h.e2
  e3 := h.e3
  e4 := h.e4
  c12 := h.c12
  c13 := h.c13
  c14 := fun _ => h13
  b := h.b
  x := h.x
  z := fun _ => rfl
 }
end
end Go.Proofs.YtbgkfmodbofalaaGreatDoor
