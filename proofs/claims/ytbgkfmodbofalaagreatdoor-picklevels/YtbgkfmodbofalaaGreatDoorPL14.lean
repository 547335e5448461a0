import Derived.WideMake
import Derived.Maps.Own
import Derived.Deep.Draws
import Derived.Test.YtbgkfmodbofalaaGreatDoorPL04
import Derived.Test.YtbgkfmodbofalaaGreatDoorPL13
namespace Go.Proofs.YtbgkfmodbofalaaGreatDoor
open Go.RowKit Go.Shelf Go.Lib
theorem run_insert {P : Program} {w : World} (t kt et : TypeId) (r clock : Nat) (es : List MapEntry) (s : ByteArray) (val : Value) (hm : P.underlying t = some (.map kt et)) (hk : P.underlying kt = some .string) (hb : w.heap[r]? = some (.map es.toArray clock))
    (hnew : Instr.findNow .string (.string s) es 0 = some none) :
    (Instr.mapUpdate t (.map (some r)) (.string s) val).run P w = .ok () { w with heap := w.heap.setIfInBounds r (.map (es ++ [({ key := .string s, val := val, born := clock } : MapEntry)]).toArray (clock + 1)) } := by
  have hc : (Instr.checkKey false 10000 kt (.string s)).run P w = .ok () w := MapKept.run_checkKey (k := .string s) hk (by simp [MapKept.IsKey]) false 9999
  simp [Instr.mapUpdate, run_underlying hm, MapKept.run_getObj_map hb, hc, MapKept.run_findKey hk hnew, MapKept.run_setObj_map _ hb, Result.andThen]
theorem run_look {P : Program} {w : World} (t kt et : TypeId) (r clock : Nat) (es : List MapEntry) (s : ByteArray) (hm : P.underlying t = some (.map kt et)) (hk : P.underlying kt = some .string) (hb : w.heap[r]? = some (.map es.toArray clock))
    (i : Nat) (v : Value) (hf : Instr.findNow .string (.string s) es 0 = some (some (i, v))) :
    (Instr.lookup t (.map (some r)) (.string s) true).run P w = .ok (.tuple #[v, .bool true]) w := by
  have hc : ∀ b, (Instr.checkKey b 10000 kt (.string s)).run P w = .ok () w := fun b => MapKept.run_checkKey (k := .string s) hk (by simp [MapKept.IsKey]) b 9999
  simp [Instr.lookup, run_underlying hm, MapKept.run_getObj_map hb, hc, MapKept.run_findKey hk hf, Result.andThen]
theorem run_look_none {P : Program} {w : World} (t kt et : TypeId) (r clock : Nat) (es : List MapEntry) (s : ByteArray) (hm : P.underlying t = some (.map kt et)) (hk : P.underlying kt = some .string) (hb : w.heap[r]? = some (.map es.toArray clock))
    (z : Value) (hz : (zeroValue et).run P w = .ok z w) (hf : Instr.findNow .string (.string s) es 0 = some none) :
    (Instr.lookup t (.map (some r)) (.string s) true).run P w = .ok (.tuple #[z, .bool false]) w := by
  have hc : ∀ b, (Instr.checkKey b 10000 kt (.string s)).run P w = .ok () w := fun b => MapKept.run_checkKey (k := .string s) hk (by simp [MapKept.IsKey]) b 9999
  simp [Instr.lookup, run_underlying hm, MapKept.run_getObj_map hb, hc, MapKept.run_findKey hk hf, hz, Result.andThen]
structure KS (w0 W : World) (B : Nat) (es : List MapEntry) (l : List Obj) : Prop where
  map : W.heap[B]? = some (.map es.toArray es.length)
  below : Below B w0 W
  size : W.heap.size = B + 1 + l.length
  objs : ∀ i (h : i < l.length), W.heap[B + 1 + i]? = some l[i]
theorem KS.start (w : World) : KS w (w.alloc (.map #[] 0)) w.heap.size [] [] :=
  ⟨by show (w.heap.push _)[w.heap.size]? = _; simp, (Below.refl _ w).alloc (Nat.le_refl _) _, by show (w.heap.push _).size = _; simp, fun i h => by simp at h⟩
theorem KS.alloc {w0 W : World} {B : Nat} {es : List MapEntry} {l : List Obj} (h : KS w0 W B es l) (o : Obj) : KS w0 (W.alloc o) B es (l ++ [o]) := by
  have hs := h.size
  refine ⟨?_, h.below.alloc (by omega) _, by show (W.heap.push o).size = _; simp [hs]; omega, fun i hi => ?_⟩
  · have : B < W.heap.size := by omega
    show (W.heap.push o)[_]? = _
    rw [Array.getElem?_push_lt this, ← Array.getElem?_eq_getElem]
    exact h.map
  · simp only [List.length_append, List.length_cons, List.length_nil] at hi
    by_cases hl : i < l.length
    · have : B + 1 + i < W.heap.size := by omega
      show (W.heap.push o)[_]? = _
      rw [Array.getElem?_push_lt this, ← Array.getElem?_eq_getElem, h.objs i hl, List.getElem_append_left hl]
    · have : B + 1 + i = W.heap.size := by omega
      show (W.heap.push o)[_]? = _
      rw [this, Array.getElem?_push_size, List.getElem_append_right (by omega)]
      simp
theorem wpList_insert_k {P : Program} (w : World) {ops : Array Oper} {rest : List Oper} {o : Oper} {a : Act} {Q : Exit → Act → World → Prop}
    (hg : o.guard = none) (m x v : Operand) (t : TypeId) (hop : o.op = Op.insert t m x v)
    (k e : TypeId) (ht : P.underlying t = some (.map k e)) (hk : P.underlying k = some .string) {w0 : World} {b : Nat} {es : List MapEntry} {l : List Obj} (hS : KS w0 w b es l)
    (hm : a.eval m = .map (some b)) (key : ByteArray) (val : Value) (hx : a.eval x = .string key) (hv : a.eval v = val)
    (hnew : Instr.findNow .string (.string key) es 0 = some none)
    (hK : ∀ w', KS w0 w' b (es ++ [({ key := .string key, val := val, born := es.length } : MapEntry)]) l → wpList P ops Q rest (a.put o.dst undef) w') :
    wpList P ops Q (o :: rest) a w := by
  refine wpList_plain hg fun K' hK' => ?_
  have hrun := run_insert t k e b es.length es key val ht hk hS.map hnew
  have hs := hS.size
  have hr : b < w.heap.size := by omega
  unfold Oper.wp
  simp [execOp, hop, hm, hx, hv, hrun, Result.andThen]
  refine hK' _ _ (hK _ ⟨?_, ⟨hS.below.os, hS.below.tape, hS.below.output, by simpa using hS.below.size, ?_⟩, by simpa using hs, ?_⟩)
  · simp [hr]
  · intro j hj
    have : b ≠ j := by omega
    simp [this]
    exact hS.below.block j hj
  · intro i hi
    have : b ≠ b + 1 + i := by omega
    simp [this]
    exact hS.objs i hi
set_option maxHeartbeats 1000000 in
theorem among_k {w0 W : World} {B : Nat} {es : List MapEntry} {l : List Obj} (h : KS w0 W B es l) (o : Obj) (n c : Nat) :
    Calls Tryz.prog 223 #[.slice (some ⟨W.heap.size, 0, none⟩) n c] (W.alloc o) fun e w' => e = .returned (.func (.func 291) #[] #[.pointer (some ⟨B + 1 + (l.length + 1), 0, none⟩)]) ∧ KS w0 w' B es (l ++ [o, .cells #[.slice (some ⟨B + 1 + l.length, 0, none⟩) n c] 45]) := by
  have hs := h.size
  have h2 := (h.alloc o).alloc (.cells #[.slice (some ⟨W.heap.size, 0, none⟩) n c] 45)
  rw [List.append_assoc, hs] at h2
  rw [hs]
  have hs2 := (h.alloc o).size
  simp only [List.length_append, List.length_cons, List.length_nil] at hs2
  generalize W.alloc o = W2 at *
  go_enter Tryz.func223, Tryz.ntmps223
  go_wp2
  go_ret
  exact ⟨rfl, h2⟩
set_option maxHeartbeats 1000000 in
theorem ofOne_k {w0 W : World} {B : Nat} {es : List MapEntry} {l : List Obj} (h : KS w0 W B es l) (f : Nat) :
    Calls Tryz.prog 224 #[.func (.func f) #[] #[]] W fun e w' => e = .returned (.func (.func 292) #[] #[.pointer (some ⟨B + 1 + l.length, 0, none⟩)]) ∧ KS w0 w' B es (l ++ [.cells #[.func (.func f) #[] #[]] 302]) := by
  have hs := h.size
  have h2 := h.alloc (.cells #[.func (.func f) #[] #[]] 302)
  go_enter Tryz.func224, Tryz.ntmps224
  go_wp2
  go_ret
  exact ⟨rfl, h2⟩
abbrev fn (g : Nat) : Value := .func (.func g) #[] #[]
abbrev cl (g B i : Nat) : Value := .func (.func g) #[] #[.pointer (some ⟨B + 1 + i, 0, none⟩)]
abbrev kd (a b : Int) (t r : Value) : Value := .agg #[.int .i64 a, .int .i64 b, t, r]
abbrev txtv (l : List UInt8) : Value := .string ⟨l.toArray⟩
abbrev ent (n : List UInt8) (v : Value) (i : Nat) : MapEntry := { key := txtv n, val := v, born := i }
abbrev sl1 (B i n : Nat) : Value := .slice (some ⟨B + 1 + i, 0, none⟩) n n
def kindsE (B : Nat) : List MapEntry :=
  [ent [119, 114, 105, 116, 101] (kd 0 0 (fn 219) (fn 220)) 0, ent [106, 111, 105, 110] (kd 1 8 (fn 219) (fn 221)) 1,
   ent [117, 112, 112, 101, 114] (kd 1 1 (cl 291 B 1) (cl 292 B 2)) 2, ent [108, 105, 110, 101, 115] (kd 1 1 (fn 219) (cl 292 B 3)) 3,
   ent [115, 111, 114, 116] (kd 1 8 (cl 291 B 5) (fn 228)) 4, ent [99, 111, 117, 110, 116] (kd 1 8 (cl 291 B 7) (fn 229)) 5,
   ent [115, 119, 97, 112] (kd 1 1 (fn 231) (cl 292 B 8)) 6, ent [104, 101, 97, 100] (kd 1 1 (fn 233) (cl 292 B 9)) 7]
def kindsO (B : Nat) : List Obj :=
  [.cells #[txtv []] 9, .cells #[sl1 B 0 1] 45, .cells #[fn 225] 302, .cells #[fn 227] 302, .cells #[txtv [], txtv [111, 110, 99, 101]] 9, .cells #[sl1 B 4 2] 45, .cells #[txtv []] 9, .cells #[sl1 B 6 1] 45, .cells #[fn 232] 302, .cells #[fn 234] 302]
set_option maxRecDepth 100000 in
set_option maxHeartbeats 4000000 in
theorem kinds_calls (w : World) : Calls Tryz.prog 164 #[] w fun e w' => e = .returned (.map (some w.heap.size)) ∧ KS w w' w.heap.size (kindsE w.heap.size) (kindsO w.heap.size) := by
  have hmm := @run_makeMap Tryz.prog
  have hk := KS.start w
  go_enter Tryz.func164, Tryz.ntmps164
  go_wp2_with (refine wpList_insert_k _ rfl _ _ _ 237 rfl 9 173 Tryz.underlying237 Tryz.underlying9 hk rfl _ _ rfl rfl (by rfl) ?_; clear hk; intro w1 hk; simp [Act.eval] at hk)
  refine (among_k hk _ _ _).mono ?_
  clear hk
  rintro e w1 ⟨rfl, hk⟩
  simp at hk
  go_wp2_with (refine wpList_insert_k _ rfl _ _ _ 237 rfl 9 173 Tryz.underlying237 Tryz.underlying9 hk rfl _ _ rfl rfl (by rfl) ?_; clear hk; intro w1 hk; simp [Act.eval] at hk)
  refine (ofOne_k hk _).mono ?_
  clear hk
  rintro e w1 ⟨rfl, hk⟩
  simp at hk
  go_wp2_with (refine wpList_insert_k _ rfl _ _ _ 237 rfl 9 173 Tryz.underlying237 Tryz.underlying9 hk rfl _ _ rfl rfl (by rfl) ?_; clear hk; intro w1 hk; simp [Act.eval] at hk)
  refine (ofOne_k hk _).mono ?_
  clear hk
  rintro e w1 ⟨rfl, hk⟩
  simp at hk
  go_wp2_with (refine wpList_insert_k _ rfl _ _ _ 237 rfl 9 173 Tryz.underlying237 Tryz.underlying9 hk rfl _ _ rfl rfl (by rfl) ?_; clear hk; intro w1 hk; simp [Act.eval] at hk)
  refine (among_k hk _ _ _).mono ?_
  clear hk
  rintro e w1 ⟨rfl, hk⟩
  simp at hk
  go_wp2_with (refine wpList_insert_k _ rfl _ _ _ 237 rfl 9 173 Tryz.underlying237 Tryz.underlying9 hk rfl _ _ rfl rfl (by rfl) ?_; clear hk; intro w1 hk; simp [Act.eval] at hk)
  refine (among_k hk _ _ _).mono ?_
  clear hk
  rintro e w1 ⟨rfl, hk⟩
  simp at hk
  go_wp2_with (refine wpList_insert_k _ rfl _ _ _ 237 rfl 9 173 Tryz.underlying237 Tryz.underlying9 hk rfl _ _ rfl rfl (by rfl) ?_; clear hk; intro w1 hk; simp [Act.eval] at hk)
  refine (ofOne_k hk _).mono ?_
  clear hk
  rintro e w1 ⟨rfl, hk⟩
  simp at hk
  go_wp2_with (refine wpList_insert_k _ rfl _ _ _ 237 rfl 9 173 Tryz.underlying237 Tryz.underlying9 hk rfl _ _ rfl rfl (by rfl) ?_; clear hk; intro w1 hk; simp [Act.eval] at hk)
  refine (ofOne_k hk _).mono ?_
  clear hk
  rintro e w1 ⟨rfl, hk⟩
  simp at hk
  go_wp2_with (refine wpList_insert_k _ rfl _ _ _ 237 rfl 9 173 Tryz.underlying237 Tryz.underlying9 hk rfl _ _ rfl rfl (by rfl) ?_; clear hk; intro w1 hk; simp [Act.eval] at hk)
  go_ret
  exact ⟨rfl, hk⟩
end Go.Proofs.YtbgkfmodbofalaaGreatDoor
