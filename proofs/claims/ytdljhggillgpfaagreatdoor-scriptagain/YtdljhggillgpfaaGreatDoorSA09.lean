import Derived.WideMake
import Derived.Maps.Own
import Derived.Deep.Draws
import Derived.Test.YtdljhggillgpfaaGreatDoorSA03
import Derived.Test.YtdljhggillgpfaaGreatDoorSA08
set_option maxRecDepth 100000
set_option maxHeartbeats 4000000
namespace Go.Proofs.YtdljhggillgpfaaGreatDoor
open Go.RowKit Go.Shelf Go.Lib
theorem run_insert {P : Program} {w : World} (t kt et : TypeId) (r clock : Nat) (es : List MapEntry) (s : ByteArray) (val : Value) (hm : P.underlying t = some (.map kt et)) (hk : P.underlying kt = some .string) (hb : w.heap[r]? = some (.map es.toArray clock))
  (hnew : Instr.findNow .string (.string s) es 0 = some none) :
  (Instr.mapUpdate t (.map (some r)) (.string s) val).run P w = .ok () { w with heap := w.heap.setIfInBounds r (.map (es ++ [({ key := .string s,val := val,born := clock } : MapEntry)]).toArray (clock + 1)) } := by
 have hc : (Instr.checkKey false 10000 kt (.string s)).run P w = .ok () w := MapKept.run_checkKey (k := .string s) hk (by simp [MapKept.IsKey]) false 9999
 simp [Instr.mapUpdate,run_underlying hm,MapKept.run_getObj_map hb,hc,MapKept.run_findKey hk hnew,MapKept.run_setObj_map _ hb,Result.andThen]
theorem run_look {P : Program} {w : World} (t kt et : TypeId) (r clock : Nat) (es : List MapEntry) (s : ByteArray) (hm : P.underlying t = some (.map kt et)) (hk : P.underlying kt = some .string) (hb : w.heap[r]? = some (.map es.toArray clock))
  (i : Nat) (v : Value) (hf : Instr.findNow .string (.string s) es 0 = some (some (i,v))) :
  (Instr.lookup t (.map (some r)) (.string s) true).run P w = .ok (.tuple #[v,.bool true]) w := by
 have hc : ∀ b,(Instr.checkKey b 10000 kt (.string s)).run P w = .ok () w := fun b => MapKept.run_checkKey (k := .string s) hk (by simp [MapKept.IsKey]) b 9999
 simp [Instr.lookup,run_underlying hm,MapKept.run_getObj_map hb,hc,MapKept.run_findKey hk hf,Result.andThen]
theorem run_look_none {P : Program} {w : World} (t kt et : TypeId) (r clock : Nat) (es : List MapEntry) (s : ByteArray) (hm : P.underlying t = some (.map kt et)) (hk : P.underlying kt = some .string) (hb : w.heap[r]? = some (.map es.toArray clock))
  (z : Value) (hz : (zeroValue et).run P w = .ok z w) (hf : Instr.findNow .string (.string s) es 0 = some none) :
  (Instr.lookup t (.map (some r)) (.string s) true).run P w = .ok (.tuple #[z,.bool false]) w := by
 have hc : ∀ b,(Instr.checkKey b 10000 kt (.string s)).run P w = .ok () w := fun b => MapKept.run_checkKey (k := .string s) hk (by simp [MapKept.IsKey]) b 9999
 simp [Instr.lookup,run_underlying hm,MapKept.run_getObj_map hb,hc,MapKept.run_findKey hk hf,hz,Result.andThen]
structure KS (w0 W : World) (B : Nat) (es : List MapEntry) (l : List Obj) : Prop where
 map : W.heap[B]? = some (.map es.toArray es.length)
 below : Below B w0 W
 size : W.heap.size = B + 1 + l.length
 objs : ∀ i (h : i < l.length),W.heap[B + 1 + i]? = some l[i]
theorem KS.start (w : World) : KS w (w.alloc (.map #[] 0)) w.heap.size [] [] :=
 ⟨by show (w.heap.push _)[w.heap.size]? = _;simp,(Below.refl _ w).alloc (Nat.le_refl _) _,by show (w.heap.push _).size = _;simp,fun i h => by simp at h⟩
theorem KS.alloc {w0 W : World} {B : Nat} {es : List MapEntry} {l : List Obj} (h : KS w0 W B es l) (o : Obj) : KS w0 (W.alloc o) B es (l ++ [o]) := by
 have hs := h.size
 refine ⟨?_,h.below.alloc (by omega) _,by show (W.heap.push o).size = _;simp [hs];omega,fun i hi => ?_⟩
 ·have : B < W.heap.size := by omega
  show (W.heap.push o)[_]? = _
  rw [Array.getElem?_push_lt this,← Array.getElem?_eq_getElem]
  exact h.map
 ·simp only [List.length_append,List.length_cons,List.length_nil] at hi
  by_cases hl : i < l.length
  ·have : B + 1 + i < W.heap.size := by omega
   show (W.heap.push o)[_]? = _
   rw [Array.getElem?_push_lt this,← Array.getElem?_eq_getElem,h.objs i hl,List.getElem_append_left hl]
  ·have : B + 1 + i = W.heap.size := by omega
   show (W.heap.push o)[_]? = _
   rw [this,Array.getElem?_push_size,List.getElem_append_right (by omega)]
   simp
theorem wpList_insert_k {P : Program} (w : World) {ops : Array Oper} {rest : List Oper} {o : Oper} {a : Act} {Q : Exit → Act → World → Prop}
  (hg : o.guard = none) (m x v : Operand) (t : TypeId) (hop : o.op = Op.insert t m x v)
  (k e : TypeId) (ht : P.underlying t = some (.map k e)) (hk : P.underlying k = some .string) {w0 : World} {b : Nat} {es : List MapEntry} {l : List Obj} (hS : KS w0 w b es l)
  (hm : a.eval m = .map (some b)) (key : ByteArray) (val : Value) (hx : a.eval x = .string key) (hv : a.eval v = val)
  (hnew : Instr.findNow .string (.string key) es 0 = some none)
  (hK : ∀ w',KS w0 w' b (es ++ [({ key := .string key,val := val,born := es.length } : MapEntry)]) l → wpList P ops Q rest (a.put o.dst undef) w') :
  wpList P ops Q (o :: rest) a w := by
 refine wpList_plain hg fun K' hK' => ?_
 have hrun := run_insert t k e b es.length es key val ht hk hS.map hnew
 have hs := hS.size
 have hr : b < w.heap.size := by omega
 unfold Oper.wp
 simp [execOp,hop,hm,hx,hv,hrun,Result.andThen]
 refine hK' _ _ (hK _ ⟨?_,⟨hS.below.os,hS.below.tape,hS.below.output,by simpa using hS.below.size,?_⟩,by simpa using hs,?_⟩)
 ·simp [hr]
 ·intro j hj
  have : b ≠ j := by omega
  simp [this]
  exact hS.below.block j hj
 ·intro i hi
  have : b ≠ b + 1 + i := by omega
  simp [this]
  exact hS.objs i hi
theorem among_k {w0 W : World} {B : Nat} {es : List MapEntry} {l : List Obj} (h : KS w0 W B es l) (o : Obj) (n c : Nat) :
  Calls Tryz.prog 268 #[.slice (some ⟨W.heap.size,0,none⟩) n c] (W.alloc o) fun e w' => e = .returned (.func (.func 286) #[] #[.pointer (some ⟨B + 1 + (l.length + 1),0,none⟩)]) ∧ KS w0 w' B es (l ++ [o,.cells #[.slice (some ⟨B + 1 + l.length,0,none⟩) n c] 22]) := by
 have hs := h.size
 have h2 := (h.alloc o).alloc (.cells #[.slice (some ⟨W.heap.size,0,none⟩) n c] 22)
 rw [List.append_assoc,hs] at h2
 rw [hs]
 have hs2 := (h.alloc o).size
 simp only [List.length_append,List.length_cons,List.length_nil] at hs2
 generalize W.alloc o = W2 at *
 go_enter Tryz.func268,Tryz.ntmps268
 go_wp2
 go_ret
 exact ⟨rfl,h2⟩
theorem ofOne_k {w0 W : World} {B : Nat} {es : List MapEntry} {l : List Obj} (h : KS w0 W B es l) (f : Nat) :
  Calls Tryz.prog 269 #[.func (.func f) #[] #[]] W fun e w' => e = .returned (.func (.func 287) #[] #[.pointer (some ⟨B + 1 + l.length,0,none⟩)]) ∧ KS w0 w' B es (l ++ [.cells #[.func (.func f) #[] #[]] 337]) := by
 have hs := h.size
 have h2 := h.alloc (.cells #[.func (.func f) #[] #[]] 337)
 go_enter Tryz.func269,Tryz.ntmps269
 go_wp2
 go_ret
 exact ⟨rfl,h2⟩
abbrev fn (g : Nat) : Value := .func (.func g) #[] #[]
abbrev cl (g B i : Nat) : Value := .func (.func g) #[] #[.pointer (some ⟨B + 1 + i,0,none⟩)]
abbrev kd (a b : Int) (t r : Value) : Value := .agg #[.int .i64 a,.int .i64 b,t,r]
abbrev txtv (l : List UInt8) : Value := .string ⟨l.toArray⟩
abbrev ent (n : List UInt8) (v : Value) (i : Nat) : MapEntry := { key := txtv n,val := v,born := i }
abbrev sl1 (B i n : Nat) : Value := .slice (some ⟨B + 1 + i,0,none⟩) n n
def kindsE (B : Nat) : List MapEntry :=
 [ent [119,114,105,116,101] (kd 0 0 (fn 265) (fn 266)) 0,ent [106,111,105,110] (kd 1 8 (fn 265) (fn 267)) 1,
  ent [117,112,112,101,114] (kd 1 1 (cl 286 B 1) (cl 287 B 2)) 2,ent [108,105,110,101,115] (kd 1 1 (fn 265) (cl 287 B 3)) 3,
  ent [115,111,114,116] (kd 1 8 (cl 286 B 5) (fn 273)) 4,ent [99,111,117,110,116] (kd 1 8 (cl 286 B 7) (fn 274)) 5,
  ent [115,119,97,112] (kd 1 1 (fn 276) (cl 287 B 8)) 6,ent [104,101,97,100] (kd 1 1 (fn 278) (cl 287 B 9)) 7]
def kindsO (B : Nat) : List Obj :=
 [.cells #[txtv []] 9,.cells #[sl1 B 0 1] 22,.cells #[fn 270] 337,.cells #[fn 272] 337,.cells #[txtv [],txtv [111,110,99,101]] 9,.cells #[sl1 B 4 2] 22,.cells #[txtv []] 9,.cells #[sl1 B 6 1] 22,.cells #[fn 277] 337,.cells #[fn 279] 337]
theorem kinds_calls (w : World) : Calls Tryz.prog 250 #[] w fun e w' => e = .returned (.map (some w.heap.size)) ∧ KS w w' w.heap.size (kindsE w.heap.size) (kindsO w.heap.size) := by
 have hmm := @run_makeMap Tryz.prog
 have hk := KS.start w
 go_enter Tryz.func250,Tryz.ntmps250
 go_wp2_with (refine wpList_insert_k _ rfl _ _ _ 321 rfl 9 297 Tryz.underlying321 Tryz.underlying9 hk rfl _ _ rfl rfl (by rfl) ?_;intro w1 hk;simp [Act.eval] at hk)
 refine (among_k hk _ _ _).mono ?_
 rintro e w1 ⟨rfl,hk⟩
 simp at hk
 go_wp2_with (refine wpList_insert_k _ rfl _ _ _ 321 rfl 9 297 Tryz.underlying321 Tryz.underlying9 hk rfl _ _ rfl rfl (by rfl) ?_;intro w1 hk;simp [Act.eval] at hk)
 refine (ofOne_k hk _).mono ?_
 rintro e w1 ⟨rfl,hk⟩
 simp at hk
 go_wp2_with (refine wpList_insert_k _ rfl _ _ _ 321 rfl 9 297 Tryz.underlying321 Tryz.underlying9 hk rfl _ _ rfl rfl (by rfl) ?_;intro w1 hk;simp [Act.eval] at hk)
 refine (ofOne_k hk _).mono ?_
 rintro e w1 ⟨rfl,hk⟩
 simp at hk
 go_wp2_with (refine wpList_insert_k _ rfl _ _ _ 321 rfl 9 297 Tryz.underlying321 Tryz.underlying9 hk rfl _ _ rfl rfl (by rfl) ?_;intro w1 hk;simp [Act.eval] at hk)
 refine (among_k hk _ _ _).mono ?_
 rintro e w1 ⟨rfl,hk⟩
 simp at hk
 go_wp2_with (refine wpList_insert_k _ rfl _ _ _ 321 rfl 9 297 Tryz.underlying321 Tryz.underlying9 hk rfl _ _ rfl rfl (by rfl) ?_;intro w1 hk;simp [Act.eval] at hk)
 refine (among_k hk _ _ _).mono ?_
 rintro e w1 ⟨rfl,hk⟩
 simp at hk
 go_wp2_with (refine wpList_insert_k _ rfl _ _ _ 321 rfl 9 297 Tryz.underlying321 Tryz.underlying9 hk rfl _ _ rfl rfl (by rfl) ?_;intro w1 hk;simp [Act.eval] at hk)
 refine (ofOne_k hk _).mono ?_
 rintro e w1 ⟨rfl,hk⟩
 simp at hk
 go_wp2_with (refine wpList_insert_k _ rfl _ _ _ 321 rfl 9 297 Tryz.underlying321 Tryz.underlying9 hk rfl _ _ rfl rfl (by rfl) ?_;intro w1 hk;simp [Act.eval] at hk)
 refine (ofOne_k hk _).mono ?_
 rintro e w1 ⟨rfl,hk⟩
 simp at hk
 go_wp2_with (refine wpList_insert_k _ rfl _ _ _ 321 rfl 9 297 Tryz.underlying321 Tryz.underlying9 hk rfl _ _ rfl rfl (by rfl) ?_;intro w1 hk;simp [Act.eval] at hk)
 go_ret
 exact ⟨rfl,hk⟩
abbrev zkd : Value := .agg #[.int .i64 0,.int .i64 0,.nilFunc,.nilFunc]
theorem four_cells {W : World} {b : Nat} {x0 x1 x2 x3 : Value} (e0 : W.cell? ⟨b,0,none⟩ = some x0) (e1 : W.cell? ⟨b,1,none⟩ = some x1) (e2 : W.cell? ⟨b,2,none⟩ = some x2) (e3 : W.cell? ⟨b,3,none⟩ = some x3) (y0 y1 y2 y3 : Value) :
  let W' := (((W.setCell ⟨b,0,none⟩ y0).setCell ⟨b,1,none⟩ y1).setCell ⟨b,2,none⟩ y2).setCell ⟨b,3,none⟩ y3
  W'.cell? ⟨b,0,none⟩ = some y0 ∧ W'.cell? ⟨b,1,none⟩ = some y1 ∧ W'.cell? ⟨b,2,none⟩ = some y2 ∧ W'.cell? ⟨b,3,none⟩ = some y3 := by
 have o (V : World) (i j : Nat) (h : i ≠ j) (y : Value) : (V.setCell ⟨b,j,none⟩ y).cell? ⟨b,i,none⟩ = V.cell? ⟨b,i,none⟩ := World.cell?_setCell_other _ _ _ _ (fun e => h (by cases e;rfl))
 have t (V : World) (i : Nat) (x : Value) (h : V.cell? ⟨b,i,none⟩ = some x) (y : Value) : (V.setCell ⟨b,i,none⟩ y).cell? ⟨b,i,none⟩ = some y := World.cell?_setCell_same' _ _ _ (by rw [h];rfl)
 refine ⟨?_,?_,?_,?_⟩
 ·rw [o _ 0 3 (by decide),o _ 0 2 (by decide),o _ 0 1 (by decide)]
  exact t _ 0 x0 e0 _
 ·rw [o _ 1 3 (by decide),o _ 1 2 (by decide)]
  exact t _ 1 x1 (by rw [o _ 1 0 (by decide)];exact e1) _
 ·rw [o _ 2 3 (by decide)]
  exact t _ 2 x2 (by rw [o _ 2 1 (by decide),o _ 2 0 (by decide)];exact e2) _
 ·exact t _ 3 x3 (by rw [o _ 3 2 (by decide),o _ 3 1 (by decide),o _ 3 0 (by decide)];exact e3) _
theorem find_none (nm word : ByteArray) (n : Int) (ek : Value) (w : World) (hk : w.cell? ⟨4,0,none⟩ = some ek) (h6 : 4 < w.heap.size)
  (hf : ∀ B,Instr.findNow .string (.string nm) (kindsE B) 0 = some none) :
  Calls Tryz.prog 223 #[.string nm,.string word,.int .i64 n] w fun e w' => e = .returned (.tuple #[zkd,ek]) ∧ Below w.heap.size w w' := by
 have g0 : Below w.heap.size w (w.alloc (.cells #[.int .i64 0,.int .i64 0,.nilFunc,.nilFunc] 297)) := (Below.refl _ w).alloc (Nat.le_refl _) _
 have hkin := kinds_calls (w.alloc (.cells #[.int .i64 0,.int .i64 0,.nilFunc,.nilFunc] 297))
 go_enter Tryz.func223,Tryz.ntmps223
 go_wp2_with fail
 refine hkin.mono ?_
 rintro e w1 ⟨rfl,hks⟩
 have hL := run_look_none (P := Tryz.prog) (w := w1) 321 9 297 _ _ _ nm Tryz.underlying321 Tryz.underlying9 hks.map zkd (by kernel_rfl) (hf _)
 have hb1 := hks.below
 have hs1 := hks.size
 have hk1 : w1.cell? ⟨4,0,none⟩ = some ek := by
  rw [cell_below2 hb1 (by simp;omega),cell_below2 g0 h6]
  exact hk
 have g1 : Below w.heap.size w w1 := ⟨hb1.os.trans g0.os,hb1.tape.trans g0.tape,hb1.output.trans g0.output,by have := hb1.size;simp at this;omega,fun i hi => (hb1.block i (by simp;omega)).trans (g0.block i hi)⟩
 have hsz : (w.alloc (.cells #[.int .i64 0,.int .i64 0,.nilFunc,.nilFunc] 297)).heap.size = w.heap.size + 1 := by simp
 rw [hsz] at hL hs1
 have hcA : ∀ j,w1.cell? ⟨w.heap.size,j,none⟩ = (#[.int .i64 0,.int .i64 0,.nilFunc,.nilFunc] : Array Value)[j]? := fun j => by
  rw [cell_below2 hb1 (j := j) (by simp),World.cell?_alloc_at _ _ _ _ rfl]
 have hA0 := hcA 0
 have hA1 := hcA 1
 have hA2 := hcA 2
 have hA3 := hcA 3
 have hfA : ∀ j,w1.frozen? ⟨w.heap.size,j,none⟩ = false := fun j => by
  rw [World.frozen?_of_block (hb1.block w.heap.size (by simp))]
  show (match (w.heap.push _)[w.heap.size]? with | some (Obj.cells _ _ (lo,hi)) => _ | _ => _) = _
  simp
 have hsA : w.heap.size < w1.heap.size := by rw [hs1];omega
 have hnf : ∀ (a : Addr) (m : Mode) (W : World),Sem.run Tryz.prog (store a .nilFunc m) W = stored Tryz.prog W a .nilFunc m := fun a m W => run_store _ W a _ m rfl
 go_wp2
 have gC : Below w1.heap.size w1 (w1.alloc (.cells #[.int .i64 0,.int .i64 0,.nilFunc,.nilFunc] 297)) := (Below.refl _ w1).alloc (Nat.le_refl _) _
 have hk2 := (cell_below2 gC (j := 0) (show 4 < w1.heap.size by omega)).trans hk1
 have hB0 := (cell_below2 gC (j := 0) hsA).trans hA0
 have hB1 := (cell_below2 gC (j := 1) hsA).trans hA1
 have hB2 := (cell_below2 gC (j := 2) hsA).trans hA2
 have hB3 := (cell_below2 gC (j := 3) hsA).trans hA3
 have hG : ∀ j,(w1.alloc (.cells #[.int .i64 0,.int .i64 0,.nilFunc,.nilFunc] 297)).frozen? ⟨w.heap.size,j,none⟩ = false := fun j => (World.frozen?_of_block (gC.block w.heap.size hsA)).trans (hfA j)
 have hG0 := hG 0
 have hG1 := hG 1
 have hG2 := hG 2
 have hG3 := hG 3
 have g2 : Below w.heap.size w (w1.alloc (.cells #[.int .i64 0,.int .i64 0,.nilFunc,.nilFunc] 297)) := g1.alloc (by omega) _
 generalize w1.alloc (.cells #[.int .i64 0,.int .i64 0,.nilFunc,.nilFunc] 297) = W at *
 go_region
 all_goals go_wp2
 have e0 : W.cell? ⟨w.heap.size,0,none⟩ = some (.int .i64 0) := hB0
 have e1 : W.cell? ⟨w.heap.size,1,none⟩ = some (.int .i64 0) := hB1
 have e2 : W.cell? ⟨w.heap.size,2,none⟩ = some .nilFunc := hB2
 have e3 : W.cell? ⟨w.heap.size,3,none⟩ = some .nilFunc := hB3
 refine bodyPost_ret (v := .tuple #[zkd,ek]) ?_ rfl ⟨rfl,?_⟩
 ·have k0 := four_cells e0 e1 e2 e3 (.int .i64 0) (.int .i64 0) .nilFunc .nilFunc
  obtain ⟨k0,k1,k2,k3⟩ := k0
  simp [results,Tryz.f223,go_sem,k0,k1,k2,k3]
 ·exact below_draws ((((g2.setCell (p := ⟨w.heap.size,0,none⟩) (Nat.le_refl _) _).setCell (p := ⟨w.heap.size,1,none⟩) (Nat.le_refl _) _).setCell (p := ⟨w.heap.size,2,none⟩) (Nat.le_refl _) _).setCell (p := ⟨w.heap.size,3,none⟩) (Nat.le_refl _) _) 1
def Objs (W : World) (B : Nat) : Prop := ∀ i (h : i < (kindsO B).length),W.heap[B + 1 + i]? = some (kindsO B)[i]
abbrev tfn (g : Nat) (c : Array Value) : Value := .func (.func g) #[] c
theorem find_cells {w w1 : World} (hb1 : Below (w.heap.size + 1) (w.alloc (.cells #[.int .i64 0,.int .i64 0,.nilFunc,.nilFunc] 297)) w1) :
  w1.heap[w.heap.size]? = some (.cells #[.int .i64 0,.int .i64 0,.nilFunc,.nilFunc] 297 (0,0)) := by
 rw [hb1.block w.heap.size (by omega)]
 show (w.heap.push _)[w.heap.size]? = _
 simp
structure FindW (w w1 W : World) (c : Array Value) : Prop where
 below : Below w.heap.size w W
 objs : Objs W (w.heap.size + 1)
 res : W.heap[w.heap.size]? = some (.cells #[.int .i64 0,.int .i64 0,.nilFunc,.nilFunc] 297 (0,0))
 kind : W.heap[w1.heap.size]? = some (.cells c 297 (0,0))
 size : w.heap.size + 12 < W.heap.size
 first : w1.heap.size = w.heap.size + 12
theorem find_w {w w1 : World} {c : Array Value} (g1 : Below w.heap.size w w1) (hO : Objs w1 (w.heap.size + 1)) (hC : w1.heap[w.heap.size]? = some (.cells #[.int .i64 0,.int .i64 0,.nilFunc,.nilFunc] 297 (0,0)))
  (hs : w1.heap.size = w.heap.size + 1 + 1 + 10) : FindW w w1 (w1.alloc (.cells c 297)) c := by
 have gC : Below w1.heap.size w1 (w1.alloc (.cells c 297)) := (Below.refl _ w1).alloc (Nat.le_refl _) _
 refine ⟨g1.alloc (by omega) _,fun i h => ?_,?_,?_,?_,by omega⟩
 ·have hl : (kindsO (w.heap.size + 1)).length = 10 := rfl
  rw [gC.block _ (by omega)]
  exact hO i h
 ·rw [gC.block _ (by omega)]
  exact hC
 ·show (w1.heap.push _)[w1.heap.size]? = _
  simp
 ·show _ < (w1.heap.push _).size
  simp;omega
theorem FindW.stays {w w1 W W' : World} {c : Array Value} (h : FindW w w1 W c) (hb : Below W.heap.size W W') : FindW w w1 W' c := by
 have h1 := h.size
 have h2 := h.first
 have h3 := hb.size
 refine ⟨⟨hb.os.trans h.below.os,hb.tape.trans h.below.tape,hb.output.trans h.below.output,by omega,fun i hi => (hb.block i (by omega)).trans (h.below.block i hi)⟩,fun i hi => ?_,?_,?_,by omega,h2⟩
 ·have hl : (kindsO (w.heap.size + 1)).length = 10 := rfl
  rw [hb.block _ (by omega)]
  exact h.objs i hi
 ·rw [hb.block _ (by omega)]
  exact h.res
 ·rw [hb.block _ (by omega)]
  exact h.kind
theorem FindW.resCells {w w1 W : World} {c : Array Value} (h : FindW w w1 W c) : W.cell? ⟨w.heap.size,0,none⟩ = some (.int .i64 0) ∧ W.cell? ⟨w.heap.size,1,none⟩ = some (.int .i64 0) ∧ W.cell? ⟨w.heap.size,2,none⟩ = some .nilFunc ∧ W.cell? ⟨w.heap.size,3,none⟩ = some .nilFunc :=
 ⟨by simp [World.cell?,h.res],by simp [World.cell?,h.res],by simp [World.cell?,h.res],by simp [World.cell?,h.res]⟩
theorem FindW.resFree {w w1 W : World} {c : Array Value} (h : FindW w w1 W c) (j : Nat) : W.frozen? ⟨w.heap.size,j,none⟩ = false := by simp [World.frozen?,h.res]
theorem FindW.old {w w1 W : World} {c : Array Value} (h : FindW w w1 W c) {k j : Nat} {x : Value} (hk : k < w.heap.size) (hx : w.cell? ⟨k,j,none⟩ = some x) : W.cell? ⟨k,j,none⟩ = some x := (cell_below2 h.below hk).trans hx
theorem FindW.done {w w1 W : World} {c : Array Value} (h : FindW w w1 W c) (y0 y1 y2 y3 : Value) (q : Nat) :
  let W' := ((((W.setCell ⟨w.heap.size,0,none⟩ y0).setCell ⟨w.heap.size,1,none⟩ y1).setCell ⟨w.heap.size,2,none⟩ y2).setCell ⟨w.heap.size,3,none⟩ y3).drewN q
  Below w.heap.size w W' ∧ Objs W' (w.heap.size + 1) := by
 refine ⟨below_draws ((((h.below.setCell (p := ⟨w.heap.size,0,none⟩) (Nat.le_refl _) _).setCell (p := ⟨w.heap.size,1,none⟩) (Nat.le_refl _) _).setCell (p := ⟨w.heap.size,2,none⟩) (Nat.le_refl _) _).setCell (p := ⟨w.heap.size,3,none⟩) (Nat.le_refl _) _) q,fun i hi => ?_⟩
 have o (V : World) (j : Nat) (y : Value) : (V.setCell ⟨w.heap.size,j,none⟩ y).heap[w.heap.size + 1 + 1 + i]? = V.heap[w.heap.size + 1 + 1 + i]? := Below.heap_setCell _ _ _ _ (by show _ ≠ w.heap.size;omega)
 show (((((W.setCell ⟨w.heap.size,0,none⟩ y0).setCell ⟨w.heap.size,1,none⟩ y1).setCell ⟨w.heap.size,2,none⟩ y2).setCell ⟨w.heap.size,3,none⟩ y3).drewN q).heap[_]? = _
 rw [show (((((W.setCell ⟨w.heap.size,0,none⟩ y0).setCell ⟨w.heap.size,1,none⟩ y1).setCell ⟨w.heap.size,2,none⟩ y2).setCell ⟨w.heap.size,3,none⟩ y3).drewN q).heap = ((((W.setCell ⟨w.heap.size,0,none⟩ y0).setCell ⟨w.heap.size,1,none⟩ y1).setCell ⟨w.heap.size,2,none⟩ y2).setCell ⟨w.heap.size,3,none⟩ y3).heap from rfl,o,o,o,o]
 exact h.objs i hi
theorem find_good (nm word : ByteArray) (n a b : Int) (gt gr : Nat) (ct cr : Array Value) (tk : Bool) (es el : Value) (w : World)
  (_hes : w.cell? ⟨2,0,none⟩ = some es) (_hel : w.cell? ⟨9,0,none⟩ = some el) (_h6 : 20 < w.heap.size)
  (i : Nat) (hf : Instr.findNow .string (.string nm) (kindsE (w.heap.size + 1)) 0 = some (some (i,kd a b (tfn gt ct) (tfn gr cr))))
  (eg : ∀ args w,(callFunc gt args).run Tryz.prog w = .ok (.enter gt args) w)
  (HT : Hid (∀ W,Below w.heap.size w W → Objs W (w.heap.size + 1) → Calls Tryz.prog gt (#[.string word] ++ ct) W fun e w' => e = .returned (.bool tk) ∧ Below W.heap.size W w'))
  (he : a ≤ n ∧ n ≤ b ∧ tk = true ∧ word.size ≤ 100) :
  Calls Tryz.prog 223 #[.string nm,.string word,.int .i64 n] w fun e w' => e = .returned (.tuple #[kd a b (tfn gt ct) (tfn gr cr),.nilIface]) ∧ Below w.heap.size w w' ∧ Objs w' (w.heap.size + 1) := by
 have g0 : Below w.heap.size w (w.alloc (.cells #[.int .i64 0,.int .i64 0,.nilFunc,.nilFunc] 297)) := (Below.refl _ w).alloc (Nat.le_refl _) _
 have hkin := kinds_calls (w.alloc (.cells #[.int .i64 0,.int .i64 0,.nilFunc,.nilFunc] 297))
 have hsz : (w.alloc (.cells #[.int .i64 0,.int .i64 0,.nilFunc,.nilFunc] 297)).heap.size = w.heap.size + 1 := by simp
 rw [hsz] at hkin
 go_enter Tryz.func223,Tryz.ntmps223
 go_wp2_with fail
 refine hkin.mono ?_
 rintro e w1 ⟨rfl,hks⟩
 have hL := run_look (P := Tryz.prog) (w := w1) 321 9 297 _ _ _ nm Tryz.underlying321 Tryz.underlying9 hks.map i _ hf
 have hb1 := hks.below
 have hs1 := hks.size
 have hnt : ∀ (a : Addr) (m : Mode) (W : World),Sem.run Tryz.prog (store a (tfn gt ct) m) W = stored Tryz.prog W a (tfn gt ct) m := fun a m W => run_store _ W a _ m rfl
 have hnr : ∀ (a : Addr) (m : Mode) (W : World),Sem.run Tryz.prog (store a (tfn gr cr) m) W = stored Tryz.prog W a (tfn gr cr) m := fun a m W => run_store _ W a _ m rfl
 have g1 : Below w.heap.size w w1 := ⟨hb1.os.trans g0.os,hb1.tape.trans g0.tape,hb1.output.trans g0.output,by have := hb1.size;simp at this;omega,fun i hi => (hb1.block i (by omega)).trans (g0.block i hi)⟩
 have hO1 : Objs w1 (w.heap.size + 1) := hks.objs
 have hC1 := find_cells hb1
 have hlen : (kindsO (w.heap.size + 1)).length = 10 := rfl
 rw [hlen] at hs1
 have F : FindW w w1 (w1.alloc (.cells #[.int .i64 a,.int .i64 b,tfn gt ct,tfn gr cr] 297)) #[.int .i64 a,.int .i64 b,tfn gt ct,tfn gr cr] := find_w g1 hO1 hC1 hs1
 obtain ⟨ha,hb,htk,hw⟩ := he
 have d1 : decide (n < a) = false := by simp;omega
 have d2 : decide (b < n) = false := by simp;omega
 have d3 : decide ((100 : Int) < (word.size : Int)) = false := by simp;omega
 have HC := HT.out _ F.below F.objs
 rw [htk] at HC
 go_wp2_with fail
 refine HC.mono ?_
 rintro e w3 ⟨rfl,hb3⟩
 have F3 := F.stays hb3
 obtain ⟨k0,k1,k2,k3⟩ := F3.resCells
 have f0 := F3.resFree 0
 have f1 := F3.resFree 1
 have f2 := F3.resFree 2
 have f3 := F3.resFree 3
 have c0 : w3.cell? ⟨w1.heap.size,0,none⟩ = some (.int .i64 a) := by simp [World.cell?,F3.kind]
 have c1 : w3.cell? ⟨w1.heap.size,1,none⟩ = some (.int .i64 b) := by simp [World.cell?,F3.kind]
 have c2 : w3.cell? ⟨w1.heap.size,2,none⟩ = some (tfn gt ct) := by simp [World.cell?,F3.kind]
 have c3 : w3.cell? ⟨w1.heap.size,3,none⟩ = some (tfn gr cr) := by simp [World.cell?,F3.kind]
 rw [hs1] at c0 c1 c2 c3
 go_wp2
 refine bodyPost_ret (v := .tuple #[kd a b (tfn gt ct) (tfn gr cr),.nilIface]) ?_ rfl ⟨rfl,F3.done _ _ _ _ 0⟩
 obtain ⟨q0,q1,q2,q3⟩ := four_cells k0 k1 k2 k3 (.int .i64 a) (.int .i64 b) (tfn gt ct) (tfn gr cr)
 simp [results,Tryz.f223,go_sem,q0,q1,q2,q3]
theorem find_low (nm word : ByteArray) (n a b : Int) (gt gr : Nat) (ct cr : Array Value) (tk : Bool) (es el : Value) (w : World)
  (hes : w.cell? ⟨2,0,none⟩ = some es) (_hel : w.cell? ⟨9,0,none⟩ = some el) (_h6 : 20 < w.heap.size)
  (i : Nat) (hf : Instr.findNow .string (.string nm) (kindsE (w.heap.size + 1)) 0 = some (some (i,kd a b (tfn gt ct) (tfn gr cr))))
  (_eg : ∀ args w,(callFunc gt args).run Tryz.prog w = .ok (.enter gt args) w)
  (_HT : Hid (∀ W,Below w.heap.size w W → Objs W (w.heap.size + 1) → Calls Tryz.prog gt (#[.string word] ++ ct) W fun e w' => e = .returned (.bool tk) ∧ Below W.heap.size W w'))
  (he : n < a) :
  Calls Tryz.prog 223 #[.string nm,.string word,.int .i64 n] w fun e w' => e = .returned (.tuple #[zkd,es]) ∧ Below w.heap.size w w' ∧ Objs w' (w.heap.size + 1) := by
 have g0 : Below w.heap.size w (w.alloc (.cells #[.int .i64 0,.int .i64 0,.nilFunc,.nilFunc] 297)) := (Below.refl _ w).alloc (Nat.le_refl _) _
 have hkin := kinds_calls (w.alloc (.cells #[.int .i64 0,.int .i64 0,.nilFunc,.nilFunc] 297))
 have hsz : (w.alloc (.cells #[.int .i64 0,.int .i64 0,.nilFunc,.nilFunc] 297)).heap.size = w.heap.size + 1 := by simp
 rw [hsz] at hkin
 go_enter Tryz.func223,Tryz.ntmps223
 go_wp2_with fail
 refine hkin.mono ?_
 rintro e w1 ⟨rfl,hks⟩
 have hL := run_look (P := Tryz.prog) (w := w1) 321 9 297 _ _ _ nm Tryz.underlying321 Tryz.underlying9 hks.map i _ hf
 have hb1 := hks.below
 have hs1 := hks.size
 have hnf : ∀ (a : Addr) (m : Mode) (W : World),Sem.run Tryz.prog (store a .nilFunc m) W = stored Tryz.prog W a .nilFunc m := fun a m W => run_store _ W a _ m rfl
 have hnt : ∀ (a : Addr) (m : Mode) (W : World),Sem.run Tryz.prog (store a (tfn gt ct) m) W = stored Tryz.prog W a (tfn gt ct) m := fun a m W => run_store _ W a _ m rfl
 have hnr : ∀ (a : Addr) (m : Mode) (W : World),Sem.run Tryz.prog (store a (tfn gr cr) m) W = stored Tryz.prog W a (tfn gr cr) m := fun a m W => run_store _ W a _ m rfl
 have g1 : Below w.heap.size w w1 := ⟨hb1.os.trans g0.os,hb1.tape.trans g0.tape,hb1.output.trans g0.output,by have := hb1.size;simp at this;omega,fun i hi => (hb1.block i (by omega)).trans (g0.block i hi)⟩
 have hO1 : Objs w1 (w.heap.size + 1) := hks.objs
 have hC1 := find_cells hb1
 have hlen : (kindsO (w.heap.size + 1)).length = 10 := rfl
 rw [hlen] at hs1
 have F : FindW w w1 (w1.alloc (.cells #[.int .i64 a,.int .i64 b,tfn gt ct,tfn gr cr] 297)) #[.int .i64 a,.int .i64 b,tfn gt ct,tfn gr cr] := find_w g1 hO1 hC1 hs1
 go_wp2
 have F3 := F
 generalize w1.alloc (.cells #[.int .i64 a,.int .i64 b,tfn gt ct,tfn gr cr] 297) = w3 at *
 obtain ⟨k0,k1,k2,k3⟩ := F3.resCells
 have f0 := F3.resFree 0
 have f1 := F3.resFree 1
 have f2 := F3.resFree 2
 have f3 := F3.resFree 3
 have ke := F3.old (show 2 < w.heap.size by omega) hes
 go_region
 all_goals go_wp2
 refine bodyPost_ret (v := .tuple #[zkd,es]) ?_ rfl ⟨rfl,F3.done _ _ _ _ 1⟩
 obtain ⟨q0,q1,q2,q3⟩ := four_cells k0 k1 k2 k3 (.int .i64 0) (.int .i64 0) .nilFunc .nilFunc
 simp [results,Tryz.f223,go_sem,q0,q1,q2,q3]
theorem find_high (nm word : ByteArray) (n a b : Int) (gt gr : Nat) (ct cr : Array Value) (tk : Bool) (es el : Value) (w : World)
  (hes : w.cell? ⟨2,0,none⟩ = some es) (_hel : w.cell? ⟨9,0,none⟩ = some el) (_h6 : 20 < w.heap.size)
  (i : Nat) (hf : Instr.findNow .string (.string nm) (kindsE (w.heap.size + 1)) 0 = some (some (i,kd a b (tfn gt ct) (tfn gr cr))))
  (_eg : ∀ args w,(callFunc gt args).run Tryz.prog w = .ok (.enter gt args) w)
  (_HT : Hid (∀ W,Below w.heap.size w W → Objs W (w.heap.size + 1) → Calls Tryz.prog gt (#[.string word] ++ ct) W fun e w' => e = .returned (.bool tk) ∧ Below W.heap.size W w'))
  (he : a ≤ n ∧ b < n) :
  Calls Tryz.prog 223 #[.string nm,.string word,.int .i64 n] w fun e w' => e = .returned (.tuple #[zkd,es]) ∧ Below w.heap.size w w' ∧ Objs w' (w.heap.size + 1) := by
 have g0 : Below w.heap.size w (w.alloc (.cells #[.int .i64 0,.int .i64 0,.nilFunc,.nilFunc] 297)) := (Below.refl _ w).alloc (Nat.le_refl _) _
 have hkin := kinds_calls (w.alloc (.cells #[.int .i64 0,.int .i64 0,.nilFunc,.nilFunc] 297))
 have hsz : (w.alloc (.cells #[.int .i64 0,.int .i64 0,.nilFunc,.nilFunc] 297)).heap.size = w.heap.size + 1 := by simp
 rw [hsz] at hkin
 go_enter Tryz.func223,Tryz.ntmps223
 go_wp2_with fail
 refine hkin.mono ?_
 rintro e w1 ⟨rfl,hks⟩
 have hL := run_look (P := Tryz.prog) (w := w1) 321 9 297 _ _ _ nm Tryz.underlying321 Tryz.underlying9 hks.map i _ hf
 have hb1 := hks.below
 have hs1 := hks.size
 have hnf : ∀ (a : Addr) (m : Mode) (W : World),Sem.run Tryz.prog (store a .nilFunc m) W = stored Tryz.prog W a .nilFunc m := fun a m W => run_store _ W a _ m rfl
 have hnt : ∀ (a : Addr) (m : Mode) (W : World),Sem.run Tryz.prog (store a (tfn gt ct) m) W = stored Tryz.prog W a (tfn gt ct) m := fun a m W => run_store _ W a _ m rfl
 have hnr : ∀ (a : Addr) (m : Mode) (W : World),Sem.run Tryz.prog (store a (tfn gr cr) m) W = stored Tryz.prog W a (tfn gr cr) m := fun a m W => run_store _ W a _ m rfl
 have g1 : Below w.heap.size w w1 := ⟨hb1.os.trans g0.os,hb1.tape.trans g0.tape,hb1.output.trans g0.output,by have := hb1.size;simp at this;omega,fun i hi => (hb1.block i (by omega)).trans (g0.block i hi)⟩
 have hO1 : Objs w1 (w.heap.size + 1) := hks.objs
 have hC1 := find_cells hb1
 have hlen : (kindsO (w.heap.size + 1)).length = 10 := rfl
 rw [hlen] at hs1
 have F : FindW w w1 (w1.alloc (.cells #[.int .i64 a,.int .i64 b,tfn gt ct,tfn gr cr] 297)) #[.int .i64 a,.int .i64 b,tfn gt ct,tfn gr cr] := find_w g1 hO1 hC1 hs1
 have d1 : decide (n < a) = false := by simp;omega
 go_wp2
 have F3 := F
 generalize w1.alloc (.cells #[.int .i64 a,.int .i64 b,tfn gt ct,tfn gr cr] 297) = w3 at *
 obtain ⟨k0,k1,k2,k3⟩ := F3.resCells
 have f0 := F3.resFree 0
 have f1 := F3.resFree 1
 have f2 := F3.resFree 2
 have f3 := F3.resFree 3
 have ke := F3.old (show 2 < w.heap.size by omega) hes
 go_region
 all_goals go_wp2
 refine bodyPost_ret (v := .tuple #[zkd,es]) ?_ rfl ⟨rfl,F3.done _ _ _ _ 1⟩
 obtain ⟨q0,q1,q2,q3⟩ := four_cells k0 k1 k2 k3 (.int .i64 0) (.int .i64 0) .nilFunc .nilFunc
 simp [results,Tryz.f223,go_sem,q0,q1,q2,q3]
theorem find_no (nm word : ByteArray) (n a b : Int) (gt gr : Nat) (ct cr : Array Value) (tk : Bool) (es el : Value) (w : World)
  (hes : w.cell? ⟨2,0,none⟩ = some es) (_hel : w.cell? ⟨9,0,none⟩ = some el) (_h6 : 20 < w.heap.size)
  (i : Nat) (hf : Instr.findNow .string (.string nm) (kindsE (w.heap.size + 1)) 0 = some (some (i,kd a b (tfn gt ct) (tfn gr cr))))
  (eg : ∀ args w,(callFunc gt args).run Tryz.prog w = .ok (.enter gt args) w)
  (HT : Hid (∀ W,Below w.heap.size w W → Objs W (w.heap.size + 1) → Calls Tryz.prog gt (#[.string word] ++ ct) W fun e w' => e = .returned (.bool tk) ∧ Below W.heap.size W w'))
  (he : a ≤ n ∧ n ≤ b ∧ tk = false) :
  Calls Tryz.prog 223 #[.string nm,.string word,.int .i64 n] w fun e w' => e = .returned (.tuple #[zkd,es]) ∧ Below w.heap.size w w' ∧ Objs w' (w.heap.size + 1) := by
 have g0 : Below w.heap.size w (w.alloc (.cells #[.int .i64 0,.int .i64 0,.nilFunc,.nilFunc] 297)) := (Below.refl _ w).alloc (Nat.le_refl _) _
 have hkin := kinds_calls (w.alloc (.cells #[.int .i64 0,.int .i64 0,.nilFunc,.nilFunc] 297))
 have hsz : (w.alloc (.cells #[.int .i64 0,.int .i64 0,.nilFunc,.nilFunc] 297)).heap.size = w.heap.size + 1 := by simp
 rw [hsz] at hkin
 go_enter Tryz.func223,Tryz.ntmps223
 go_wp2_with fail
 refine hkin.mono ?_
 rintro e w1 ⟨rfl,hks⟩
 have hL := run_look (P := Tryz.prog) (w := w1) 321 9 297 _ _ _ nm Tryz.underlying321 Tryz.underlying9 hks.map i _ hf
 have hb1 := hks.below
 have hs1 := hks.size
 have hnf : ∀ (a : Addr) (m : Mode) (W : World),Sem.run Tryz.prog (store a .nilFunc m) W = stored Tryz.prog W a .nilFunc m := fun a m W => run_store _ W a _ m rfl
 have hnt : ∀ (a : Addr) (m : Mode) (W : World),Sem.run Tryz.prog (store a (tfn gt ct) m) W = stored Tryz.prog W a (tfn gt ct) m := fun a m W => run_store _ W a _ m rfl
 have hnr : ∀ (a : Addr) (m : Mode) (W : World),Sem.run Tryz.prog (store a (tfn gr cr) m) W = stored Tryz.prog W a (tfn gr cr) m := fun a m W => run_store _ W a _ m rfl
 have g1 : Below w.heap.size w w1 := ⟨hb1.os.trans g0.os,hb1.tape.trans g0.tape,hb1.output.trans g0.output,by have := hb1.size;simp at this;omega,fun i hi => (hb1.block i (by omega)).trans (g0.block i hi)⟩
 have hO1 : Objs w1 (w.heap.size + 1) := hks.objs
 have hC1 := find_cells hb1
 have hlen : (kindsO (w.heap.size + 1)).length = 10 := rfl
 rw [hlen] at hs1
 have F : FindW w w1 (w1.alloc (.cells #[.int .i64 a,.int .i64 b,tfn gt ct,tfn gr cr] 297)) #[.int .i64 a,.int .i64 b,tfn gt ct,tfn gr cr] := find_w g1 hO1 hC1 hs1
 obtain ⟨ha,hb,htk⟩ := he
 have d1 : decide (n < a) = false := by simp;omega
 have d2 : decide (b < n) = false := by simp;omega
 have HC := HT.out _ F.below F.objs
 rw [htk] at HC
 go_wp2_with fail
 refine HC.mono ?_
 rintro e w3 ⟨rfl,hb3⟩
 have F3 := F.stays hb3
 obtain ⟨k0,k1,k2,k3⟩ := F3.resCells
 have f0 := F3.resFree 0
 have f1 := F3.resFree 1
 have f2 := F3.resFree 2
 have f3 := F3.resFree 3
 have ke := F3.old (show 2 < w.heap.size by omega) hes
 go_wp2
 go_region
 all_goals go_wp2
 refine bodyPost_ret (v := .tuple #[zkd,es]) ?_ rfl ⟨rfl,F3.done _ _ _ _ 1⟩
 obtain ⟨q0,q1,q2,q3⟩ := four_cells k0 k1 k2 k3 (.int .i64 0) (.int .i64 0) .nilFunc .nilFunc
 simp [results,Tryz.f223,go_sem,q0,q1,q2,q3]
theorem find_long (nm word : ByteArray) (n a b : Int) (gt gr : Nat) (ct cr : Array Value) (tk : Bool) (es el : Value) (w : World)
  (_hes : w.cell? ⟨2,0,none⟩ = some es) (hel : w.cell? ⟨9,0,none⟩ = some el) (_h6 : 20 < w.heap.size)
  (i : Nat) (hf : Instr.findNow .string (.string nm) (kindsE (w.heap.size + 1)) 0 = some (some (i,kd a b (tfn gt ct) (tfn gr cr))))
  (eg : ∀ args w,(callFunc gt args).run Tryz.prog w = .ok (.enter gt args) w)
  (HT : Hid (∀ W,Below w.heap.size w W → Objs W (w.heap.size + 1) → Calls Tryz.prog gt (#[.string word] ++ ct) W fun e w' => e = .returned (.bool tk) ∧ Below W.heap.size W w'))
  (he : a ≤ n ∧ n ≤ b ∧ tk = true ∧ 100 < word.size) :
  Calls Tryz.prog 223 #[.string nm,.string word,.int .i64 n] w fun e w' => e = .returned (.tuple #[zkd,el]) ∧ Below w.heap.size w w' ∧ Objs w' (w.heap.size + 1) := by
 have g0 : Below w.heap.size w (w.alloc (.cells #[.int .i64 0,.int .i64 0,.nilFunc,.nilFunc] 297)) := (Below.refl _ w).alloc (Nat.le_refl _) _
 have hkin := kinds_calls (w.alloc (.cells #[.int .i64 0,.int .i64 0,.nilFunc,.nilFunc] 297))
 have hsz : (w.alloc (.cells #[.int .i64 0,.int .i64 0,.nilFunc,.nilFunc] 297)).heap.size = w.heap.size + 1 := by simp
 rw [hsz] at hkin
 go_enter Tryz.func223,Tryz.ntmps223
 go_wp2_with fail
 refine hkin.mono ?_
 rintro e w1 ⟨rfl,hks⟩
 have hL := run_look (P := Tryz.prog) (w := w1) 321 9 297 _ _ _ nm Tryz.underlying321 Tryz.underlying9 hks.map i _ hf
 have hb1 := hks.below
 have hs1 := hks.size
 have hnf : ∀ (a : Addr) (m : Mode) (W : World),Sem.run Tryz.prog (store a .nilFunc m) W = stored Tryz.prog W a .nilFunc m := fun a m W => run_store _ W a _ m rfl
 have hnt : ∀ (a : Addr) (m : Mode) (W : World),Sem.run Tryz.prog (store a (tfn gt ct) m) W = stored Tryz.prog W a (tfn gt ct) m := fun a m W => run_store _ W a _ m rfl
 have hnr : ∀ (a : Addr) (m : Mode) (W : World),Sem.run Tryz.prog (store a (tfn gr cr) m) W = stored Tryz.prog W a (tfn gr cr) m := fun a m W => run_store _ W a _ m rfl
 have g1 : Below w.heap.size w w1 := ⟨hb1.os.trans g0.os,hb1.tape.trans g0.tape,hb1.output.trans g0.output,by have := hb1.size;simp at this;omega,fun i hi => (hb1.block i (by omega)).trans (g0.block i hi)⟩
 have hO1 : Objs w1 (w.heap.size + 1) := hks.objs
 have hC1 := find_cells hb1
 have hlen : (kindsO (w.heap.size + 1)).length = 10 := rfl
 rw [hlen] at hs1
 have F : FindW w w1 (w1.alloc (.cells #[.int .i64 a,.int .i64 b,tfn gt ct,tfn gr cr] 297)) #[.int .i64 a,.int .i64 b,tfn gt ct,tfn gr cr] := find_w g1 hO1 hC1 hs1
 obtain ⟨ha,hb,htk,hw⟩ := he
 have d1 : decide (n < a) = false := by simp;omega
 have d2 : decide (b < n) = false := by simp;omega
 have d3 : decide ((100 : Int) < (word.size : Int)) = true := by simp;omega
 have HC := HT.out _ F.below F.objs
 rw [htk] at HC
 go_wp2_with fail
 refine HC.mono ?_
 rintro e w3 ⟨rfl,hb3⟩
 have F3 := F.stays hb3
 obtain ⟨k0,k1,k2,k3⟩ := F3.resCells
 have f0 := F3.resFree 0
 have f1 := F3.resFree 1
 have f2 := F3.resFree 2
 have f3 := F3.resFree 3
 have ke := F3.old (show 9 < w.heap.size by omega) hel
 go_wp2
 go_region
 all_goals go_wp2
 refine bodyPost_ret (v := .tuple #[zkd,el]) ?_ rfl ⟨rfl,F3.done _ _ _ _ 1⟩
 obtain ⟨q0,q1,q2,q3⟩ := four_cells k0 k1 k2 k3 (.int .i64 0) (.int .i64 0) .nilFunc .nilFunc
 simp [results,Tryz.f223,go_sem,q0,q1,q2,q3]
theorem Objs.stays {W W' : World} {B : Nat} (h : Objs W B) (hb : Below W.heap.size W W') : Objs W' B := fun i hi => by
 have h1 := h i hi
 rw [hb.block _ (Array.getElem?_eq_some_iff.1 h1).1]
 exact h1
theorem Check_calls (nm word : ByteArray) (n : Int) (k0 k1 : Int) (k2 k3 : Value) (er : Value) (w : World) (h2 : k2.oneCell' = true) (h3 : k3.oneCell' = true)
  (hfind : Hid (Calls Tryz.prog 223 #[.string nm,.string word,.int .i64 n] w fun e w' => e = .returned (.tuple #[.agg #[.int .i64 k0,.int .i64 k1,k2,k3],er]) ∧ Below w.heap.size w w')) :
  Calls Tryz.prog 185 #[.string nm,.string word,.int .i64 n] w fun e w' => e = .returned er ∧ Below w.heap.size w w' := by
 have hnf : ∀ (a : Addr) (m : Mode) (W : World),Sem.run Tryz.prog (store a k2 m) W = stored Tryz.prog W a k2 m := fun a m W => run_store _ W a _ m h2
 have hnr : ∀ (a : Addr) (m : Mode) (W : World),Sem.run Tryz.prog (store a k3 m) W = stored Tryz.prog W a k3 m := fun a m W => run_store _ W a _ m h3
 go_enter Tryz.func185,Tryz.ntmps185
 go_wp2_with fail
 refine hfind.out.mono ?_
 rintro e w2 ⟨rfl,hb2⟩
 have g3 := hb2.alloc hb2.size (.cells #[.int .i64 k0,.int .i64 k1,k2,k3] 297)
 go_wp2
 go_ret
 exact ⟨rfl,g3⟩
end Go.Proofs.YtdljhggillgpfaaGreatDoor
