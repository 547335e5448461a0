/- The map of kinds of package act: what its literal makes in memory, and what a look into it finds. -/
import Derived.WideMake
import Derived.Maps.Own
import Derived.Deep.Draws
import Derived.Test.YtmeplgihnlpjcaaGreatDoorMG1
import Derived.Test.YtmeplgihnlpjcaaGreatDoorShelf4
import Derived.Lib.SlicesCompact
import Derived.WalkSmall
import Derived.Test.YtmeplgihnlpjcaaGreatDoorShelf2
import Derived.Test.YtmeplgihnlpjcaaGreatDoorMG2
namespace Go.Proofs.YtmeplgihnlpjcaaGreatDoor
open Go.RowKit Go.Shelf Go.Lib

theorem run_insert {P : Program} {w : World} (t kt et : TypeId) (r clock : Nat) (es : List MapEntry) (s : ByteArray) (val : Value) (hm : P.underlying t = some (.map kt et)) (hk : P.underlying kt = some .string) (hb : w.heap[r]? = some (.map es.toArray clock))
    (hnew : Instr.findNow .string (.string s) es 0 = some none) :
    (Instr.mapUpdate t (.map (some r)) (.string s) val).run P w = .ok () { w with heap := w.heap.setIfInBounds r (.map (es ++ [({ key := .string s, val := val, born := clock } : MapEntry)]).toArray (clock + 1)) } := by
  have hc : (Instr.checkKey false 10000 kt (.string s)).run P w = .ok () w := MapKept.run_checkKey (k := .string s) hk (by simp [MapKept.IsKey]) false 9999
  simp [Instr.mapUpdate, run_underlying hm, MapKept.run_getObj_map hb, hc, MapKept.run_findKey hk hnew, MapKept.run_setObj_map _ hb, Result.andThen]

theorem run_look {P : Program} {w : World} (t kt et : TypeId) (r clock : Nat) (es : List MapEntry) (s : ByteArray) (hm : P.underlying t = some (.map kt et)) (hk : P.underlying kt = some .string) (hb : w.heap[r]? = some (.map es.toArray clock))
    (i : Nat) (v : Value) (hf : Instr.findNow .string (.string s) es 0 = some (some (i, v))) :
    (Instr.lookup t (.map (some r)) (.string s) true).run P w = .ok (.tuple #[v, .bool true]) w := by
  have hc : ∀ b, (Instr.checkKey b 10000 kt (.string s)).run P w = .ok () w := fun b => MapKept.run_checkKey (k := .string s) hk (by simp [MapKept.IsKey]) b 9999
  simp [Instr.lookup, run_underlying hm, MapKept.run_getObj_map hb, hc, MapKept.run_findKey hk hf, Result.andThen]
theorem run_look_none {P : Program} {w : World} (t kt et : TypeId) (r clock : Nat) (es : List MapEntry) (s : ByteArray) (hm : P.underlying t = some (.map kt et)) (hk : P.underlying kt = some .string) (hb : w.heap[r]? = some (.map es.toArray clock))
    (z : Value) (hz : (zeroValue et).run P w = .ok z w) (hf : Instr.findNow .string (.string s) es 0 = some none) :
    (Instr.lookup t (.map (some r)) (.string s) true).run P w = .ok (.tuple #[z, .bool false]) w := by
  have hc : ∀ b, (Instr.checkKey b 10000 kt (.string s)).run P w = .ok () w := fun b => MapKept.run_checkKey (k := .string s) hk (by simp [MapKept.IsKey]) b 9999
  simp [Instr.lookup, run_underlying hm, MapKept.run_getObj_map hb, hc, MapKept.run_findKey hk hf, hz, Result.andThen]

/-- What a literal of a map makes: the map in a block, and new blocks behind it. -/
structure KS (w0 W : World) (B : Nat) (es : List MapEntry) (l : List Obj) : Prop where
  map : W.heap[B]? = some (.map es.toArray es.length)
  below : Below B w0 W
  size : W.heap.size = B + 1 + l.length
  objs : ∀ i (h : i < l.length), W.heap[B + 1 + i]? = some l[i]

theorem KS.start (w : World) : KS w (w.alloc (.map #[] 0)) w.heap.size [] [] :=
  ⟨by show (w.heap.push _)[w.heap.size]? = _; simp, (Below.refl _ w).alloc (Nat.le_refl _) _, by show (w.heap.push _).size = _; simp, fun i h => by simp at h⟩
theorem KS.alloc {w0 W : World} {B : Nat} {es : List MapEntry} {l : List Obj} (h : KS w0 W B es l) (o : Obj) : KS w0 (W.alloc o) B es (l ++ [o]) := by
  have hs := h.size
  refine ⟨?_, h.below.alloc (by omega) _, by show (W.heap.push o).size = _; simp [hs]; omega, fun i hi => ?_⟩
  · have : B < W.heap.size := by omega
    show (W.heap.push o)[_]? = _
    rw [Array.getElem?_push_lt this, ← Array.getElem?_eq_getElem]
    exact h.map
  · simp only [List.length_append, List.length_cons, List.length_nil] at hi
    by_cases hl : i < l.length
    · have : B + 1 + i < W.heap.size := by omega
      show (W.heap.push o)[_]? = _
      rw [Array.getElem?_push_lt this, ← Array.getElem?_eq_getElem, h.objs i hl, List.getElem_append_left hl]
    · have : B + 1 + i = W.heap.size := by omega
      show (W.heap.push o)[_]? = _
      rw [this, Array.getElem?_push_size, List.getElem_append_right (by omega)]
      simp
theorem wpList_insert_k {P : Program} (w : World) {ops : Array Oper} {rest : List Oper} {o : Oper} {a : Act} {Q : Exit → Act → World → Prop}
    (hg : o.guard = none) (m x v : Operand) (t : TypeId) (hop : o.op = Op.insert t m x v)
    (k e : TypeId) (ht : P.underlying t = some (.map k e)) (hk : P.underlying k = some .string) {w0 : World} {b : Nat} {es : List MapEntry} {l : List Obj} (hS : KS w0 w b es l)
    (hm : a.eval m = .map (some b)) (key : ByteArray) (val : Value) (hx : a.eval x = .string key) (hv : a.eval v = val)
    (hnew : Instr.findNow .string (.string key) es 0 = some none)
    (hK : ∀ w', KS w0 w' b (es ++ [({ key := .string key, val := val, born := es.length } : MapEntry)]) l → wpList P ops Q rest (a.put o.dst undef) w') :
    wpList P ops Q (o :: rest) a w := by
  refine wpList_plain hg fun K' hK' => ?_
  have hrun := run_insert t k e b es.length es key val ht hk hS.map hnew
  have hs := hS.size
  have hr : b < w.heap.size := by omega
  unfold Oper.wp
  simp [execOp, hop, hm, hx, hv, hrun, Result.andThen]
  refine hK' _ _ (hK _ ⟨?_, ⟨hS.below.os, hS.below.tape, hS.below.output, by simpa using hS.below.size, ?_⟩, by simpa using hs, ?_⟩)
  · simp [hr]
  · intro j hj
    have : b ≠ j := by omega
    simp [this]
    exact hS.below.block j hj
  · intro i hi
    have : b ≠ b + 1 + i := by omega
    simp [this]
    exact hS.objs i hi

set_option maxHeartbeats 1000000 in
theorem among_k {w0 W : World} {B : Nat} {es : List MapEntry} {l : List Obj} (h : KS w0 W B es l) (o : Obj) (n c : Nat) :
    Calls Tryz.prog 142 #[.slice (some ⟨W.heap.size, 0, none⟩) n c] (W.alloc o) fun e w' => e = .returned (.func (.func 159) #[] #[.pointer (some ⟨B + 1 + (l.length + 1), 0, none⟩)]) ∧ KS w0 w' B es (l ++ [o, .cells #[.slice (some ⟨B + 1 + l.length, 0, none⟩) n c] 34]) := by
  have hs := h.size
  have h2 := (h.alloc o).alloc (.cells #[.slice (some ⟨W.heap.size, 0, none⟩) n c] 34)
  rw [List.append_assoc, hs] at h2
  rw [hs]
  have hs2 := (h.alloc o).size
  simp only [List.length_append, List.length_cons, List.length_nil] at hs2
  generalize W.alloc o = W2 at *
  go_enter Tryz.func142, Tryz.ntmps142
  go_wp2
  go_ret
  exact ⟨rfl, h2⟩
set_option maxHeartbeats 1000000 in
theorem ofOne_k {w0 W : World} {B : Nat} {es : List MapEntry} {l : List Obj} (h : KS w0 W B es l) (f : Nat) :
    Calls Tryz.prog 143 #[.func (.func f) #[] #[]] W fun e w' => e = .returned (.func (.func 160) #[] #[.pointer (some ⟨B + 1 + l.length, 0, none⟩)]) ∧ KS w0 w' B es (l ++ [.cells #[.func (.func f) #[] #[]] 206]) := by
  have hs := h.size
  have h2 := h.alloc (.cells #[.func (.func f) #[] #[]] 206)
  go_enter Tryz.func143, Tryz.ntmps143
  go_wp2
  go_ret
  exact ⟨rfl, h2⟩

/-- A function's value. -/
abbrev fn (g : Nat) : Value := .func (.func g) #[] #[]
/-- A closure over one variable. -/
abbrev cl (g B i : Nat) : Value := .func (.func g) #[] #[.pointer (some ⟨B + 1 + i, 0, none⟩)]
abbrev kd (a b : Int) (t r : Value) : Value := .agg #[.int .i64 a, .int .i64 b, t, r]
abbrev txtv (l : List UInt8) : Value := .string ⟨l.toArray⟩
abbrev ent (n : List UInt8) (v : Value) (i : Nat) : MapEntry := { key := txtv n, val := v, born := i }
abbrev sl1 (B i n : Nat) : Value := .slice (some ⟨B + 1 + i, 0, none⟩) n n
/-- The map of kinds, in block B. -/
def kindsE (B : Nat) : List MapEntry :=
  [ent [119, 114, 105, 116, 101] (kd 0 0 (fn 138) (fn 139)) 0, ent [106, 111, 105, 110] (kd 1 8 (fn 138) (fn 140)) 1,
   ent [117, 112, 112, 101, 114] (kd 1 1 (cl 159 B 1) (cl 160 B 2)) 2, ent [108, 105, 110, 101, 115] (kd 1 1 (fn 138) (cl 160 B 3)) 3,
   ent [115, 111, 114, 116] (kd 1 8 (cl 159 B 5) (fn 147)) 4, ent [99, 111, 117, 110, 116] (kd 1 8 (cl 159 B 7) (fn 148)) 5,
   ent [115, 119, 97, 112] (kd 1 1 (fn 150) (cl 160 B 8)) 6, ent [104, 101, 97, 100] (kd 1 1 (fn 152) (cl 160 B 9)) 7]
def kindsO (B : Nat) : List Obj :=
  [.cells #[txtv []] 9, .cells #[sl1 B 0 1] 34, .cells #[fn 144] 206, .cells #[fn 146] 206, .cells #[txtv [], txtv [111, 110, 99, 101]] 9, .cells #[sl1 B 4 2] 34, .cells #[txtv []] 9, .cells #[sl1 B 6 1] 34, .cells #[fn 151] 206, .cells #[fn 153] 206]

set_option maxRecDepth 100000 in
set_option maxHeartbeats 4000000 in
theorem kinds_calls (w : World) : Calls Tryz.prog 133 #[] w fun e w' => e = .returned (.map (some w.heap.size)) ∧ KS w w' w.heap.size (kindsE w.heap.size) (kindsO w.heap.size) := by
  have hmm := @run_makeMap Tryz.prog
  have hk := KS.start w
  go_enter Tryz.func133, Tryz.ntmps133
  go_wp2_with (refine wpList_insert_k _ rfl _ _ _ 198 rfl 9 182 Tryz.underlying198 Tryz.underlying9 hk rfl _ _ rfl rfl (by rfl) ?_; clear hk; intro w1 hk; simp [Act.eval] at hk)
  refine (among_k hk _ _ _).mono ?_
  clear hk
  rintro e w1 ⟨rfl, hk⟩
  simp at hk
  go_wp2_with (refine wpList_insert_k _ rfl _ _ _ 198 rfl 9 182 Tryz.underlying198 Tryz.underlying9 hk rfl _ _ rfl rfl (by rfl) ?_; clear hk; intro w1 hk; simp [Act.eval] at hk)
  refine (ofOne_k hk _).mono ?_
  clear hk
  rintro e w1 ⟨rfl, hk⟩
  simp at hk
  go_wp2_with (refine wpList_insert_k _ rfl _ _ _ 198 rfl 9 182 Tryz.underlying198 Tryz.underlying9 hk rfl _ _ rfl rfl (by rfl) ?_; clear hk; intro w1 hk; simp [Act.eval] at hk)
  refine (ofOne_k hk _).mono ?_
  clear hk
  rintro e w1 ⟨rfl, hk⟩
  simp at hk
  go_wp2_with (refine wpList_insert_k _ rfl _ _ _ 198 rfl 9 182 Tryz.underlying198 Tryz.underlying9 hk rfl _ _ rfl rfl (by rfl) ?_; clear hk; intro w1 hk; simp [Act.eval] at hk)
  refine (among_k hk _ _ _).mono ?_
  clear hk
  rintro e w1 ⟨rfl, hk⟩
  simp at hk
  go_wp2_with (refine wpList_insert_k _ rfl _ _ _ 198 rfl 9 182 Tryz.underlying198 Tryz.underlying9 hk rfl _ _ rfl rfl (by rfl) ?_; clear hk; intro w1 hk; simp [Act.eval] at hk)
  refine (among_k hk _ _ _).mono ?_
  clear hk
  rintro e w1 ⟨rfl, hk⟩
  simp at hk
  go_wp2_with (refine wpList_insert_k _ rfl _ _ _ 198 rfl 9 182 Tryz.underlying198 Tryz.underlying9 hk rfl _ _ rfl rfl (by rfl) ?_; clear hk; intro w1 hk; simp [Act.eval] at hk)
  refine (ofOne_k hk _).mono ?_
  clear hk
  rintro e w1 ⟨rfl, hk⟩
  simp at hk
  go_wp2_with (refine wpList_insert_k _ rfl _ _ _ 198 rfl 9 182 Tryz.underlying198 Tryz.underlying9 hk rfl _ _ rfl rfl (by rfl) ?_; clear hk; intro w1 hk; simp [Act.eval] at hk)
  refine (ofOne_k hk _).mono ?_
  clear hk
  rintro e w1 ⟨rfl, hk⟩
  simp at hk
  go_wp2_with (refine wpList_insert_k _ rfl _ _ _ 198 rfl 9 182 Tryz.underlying198 Tryz.underlying9 hk rfl _ _ rfl rfl (by rfl) ?_; clear hk; intro w1 hk; simp [Act.eval] at hk)
  go_ret
  exact ⟨rfl, hk⟩
end Go.Proofs.YtmeplgihnlpjcaaGreatDoor
/- Plain functions on bytes: lines, lines told, sorted lines. No Go text, no program. -/
namespace Go.Proofs.YtmeplgihnlpjcaaGreatDoor
open Go.RowKit Go.Shelf Go.Lib

namespace Af
/-- The lines of some bytes. -/
def lines : List UInt8 → List (List UInt8)
  | [] => []
  | c :: r => if c = 10 then [] :: lines r else match lines r with
    | [] => [[c]]
    | p :: ps => (c :: p) :: ps
/-- Lines as bytes, each with a line break. -/
def told (l : List (List UInt8)) : List UInt8 := l.flatMap fun x => x ++ [10]
/-- All lines of inputs. -/
def all (l : List (List UInt8)) : List (List UInt8) := l.flatMap lines
/-- Lines, rising. -/
def srt (l : List (List UInt8)) : List (List UInt8) := l.mergeSort fun x y => decide (x ≤ y)

/-- Lines are what is parted by line breaks, without what is behind the last one, if it is empty. -/
theorem cut_lines (s : List UInt8) : cutB 10 s = (if s = [] then [[]] else if s.getLast? = some 10 then lines s ++ [[]] else lines s) := by
  induction s with
  | nil => rfl
  | cons c r ih =>
    rw [if_neg (List.cons_ne_nil c r)]
    by_cases hr : r = []
    · subst hr
      by_cases hc : c = 10 <;> simp [hc, cutB, lines]
    · rw [if_neg hr] at ih
      have hg : (c :: r).getLast? = r.getLast? := by
        cases r with
        | nil => exact absurd rfl hr
        | cons x y => exact List.getLast?_cons_cons
      rw [hg]
      have hl : lines r ≠ [] := by
        cases r with
        | nil => exact absurd rfl hr
        | cons x y =>
          unfold lines
          split
          · simp
          · split <;> simp
      by_cases hc : c = 10
      · simp only [cutB, lines, if_pos hc, ih]
        split <;> simp
      · simp only [cutB, lines, if_neg hc]
        by_cases h10 : r.getLast? = some 10
        · rw [if_pos h10] at ih
          simp only [ih, if_pos h10]
          cases hL : lines r with
          | nil => exact absurd hL hl
          | cons p ps => simp
        · rw [if_neg h10] at ih
          simp only [ih, if_neg h10]
          cases lines r <;> rfl

theorem lines_ne {s : List UInt8} (h : s ≠ []) : lines s ≠ [] := by
  cases s with
  | nil => exact absurd rfl h
  | cons x y =>
    unfold lines
    split
    · simp
    · split <;> simp

theorem lines_last : ∀ {s : List UInt8}, s ≠ [] → s.getLast? ≠ some 10 → ∃ o l, lines s = o ++ [l] ∧ l ≠ []
  | [], h, _ => absurd rfl h
  | [c], _, h1 => by
    have hc : c ≠ 10 := by simpa using h1
    exact ⟨[], [c], by simp [lines, hc], by simp⟩
  | c :: x :: r, _, h1 => by
    obtain ⟨o, l, e, hl⟩ := lines_last (s := x :: r) (by simp) (by simpa using h1)
    unfold lines
    rw [e]
    by_cases hc : c = 10
    · exact ⟨[] :: o, l, by simp [hc], hl⟩
    · cases o with
      | nil => exact ⟨[], c :: l, by simp [hc], by simp⟩
      | cons p ps => exact ⟨(c :: p) :: ps, l, by simp [hc], hl⟩

/-- What linesOf does. -/
theorem lines_of_cut (s : List UInt8) : ∃ o l, cutB 10 s = o ++ [l] ∧ lines s = (if l = [] then o else o ++ [l]) := by
  by_cases hs : s = []
  · subst hs
    exact ⟨[], [], rfl, rfl⟩
  · by_cases h1 : s.getLast? = some 10
    · exact ⟨lines s, [], by rw [cut_lines, if_neg hs, if_pos h1], by simp⟩
    · obtain ⟨o, l, e, hl⟩ := lines_last hs h1
      exact ⟨o, l, by rw [cut_lines, if_neg hs, if_neg h1, e], by rw [if_neg hl, e]⟩

theorem lines_no10 : ∀ (s : List UInt8), ∀ x ∈ lines s, (10 : UInt8) ∉ x
  | [], x, h => by simp [lines] at h
  | c :: r, x, h => by
    have ih := lines_no10 r
    unfold lines at h
    by_cases hc : c = 10
    · simp only [if_pos hc, List.mem_cons] at h
      rcases h with rfl | h
      · simp
      · exact ih x h
    · simp only [if_neg hc] at h
      cases hL : lines r with
      | nil =>
        rw [hL] at h
        simp at h
        subst h
        simp only [List.mem_cons, List.not_mem_nil, or_false]
        exact fun e => hc e.symm
      | cons p ps =>
        rw [hL] at h ih
        simp only [List.mem_cons] at h
        rcases h with rfl | h
        · have := ih p (by simp)
          simp only [List.mem_cons, not_or]
          exact ⟨fun e => hc e.symm, this⟩
        · exact ih x (by simp [h])

theorem lines_line (x rest : List UInt8) (hx : (10 : UInt8) ∉ x) : lines (x ++ 10 :: rest) = x :: lines rest := by
  induction x with
  | nil => simp [lines]
  | cons c r ih =>
    have hc : c ≠ 10 := fun e => hx (by simp [e])
    rw [List.cons_append, lines, ih (fun h => hx (by simp [h]))]
    simp [hc]

theorem lines_told : ∀ (l : List (List UInt8)), (∀ x ∈ l, (10 : UInt8) ∉ x) → lines (told l) = l
  | [], _ => rfl
  | x :: r, h => by
    have e : told (x :: r) = x ++ 10 :: told r := by simp [told]
    rw [e, lines_line x _ (h x (by simp)), lines_told r fun y hy => h y (by simp [hy])]

theorem told_len : ∀ (l : List (List UInt8)), (told l).length = (l.map fun x => x.length + 1).sum
  | [] => rfl
  | x :: r => by
    have e : told (x :: r) = x ++ 10 :: told r := by simp [told]
    rw [e, List.length_append, List.length_cons, told_len r, List.map_cons, List.sum_cons]
    omega

theorem told_lines : ∀ (s : List UInt8), told (lines s) = s ∨ told (lines s) = s ++ [10]
  | [] => .inl rfl
  | c :: r => by
    have ih := told_lines r
    unfold lines
    by_cases hc : c = 10
    · rw [if_pos hc]
      have e : told ([] :: lines r) = 10 :: told (lines r) := by simp [told]
      rw [e, hc]
      rcases ih with ih | ih <;> rw [ih] <;> simp
    · rw [if_neg hc]
      cases hL : lines r with
      | nil =>
        have hr : r = [] := Classical.byContradiction fun h => lines_ne h hL
        subst hr
        right
        simp [told]
      | cons p ps =>
        rw [hL] at ih
        have e : told ((c :: p) :: ps) = c :: told (p :: ps) := by simp [told]
        simp only [e]
        rcases ih with ih | ih <;> rw [ih] <;> simp

theorem told_lines_len (s : List UInt8) : s.length ≤ (told (lines s)).length ∧ (told (lines s)).length ≤ s.length + 1 := by
  rcases told_lines s with h | h <;> rw [h] <;> simp

theorem lines_len (s : List UInt8) : (lines s).length ≤ s.length := by
  induction s with
  | nil => simp [lines]
  | cons c r ih =>
    unfold lines
    split
    · simp; omega
    · split
      · simp
      · next h => rw [h] at ih; simp at ih ⊢; omega

theorem mem_le_sum : ∀ {l : List Nat} {n : Nat}, n ∈ l → n ≤ l.sum
  | [], _, h => by simp at h
  | x :: r, n, h => by
    rw [List.sum_cons]
    rcases List.mem_cons.1 h with rfl | h
    · omega
    · have := mem_le_sum h
      omega

theorem line_len {s x : List UInt8} (h : x ∈ lines s) : x.length ≤ s.length := by
  have h1 := told_lines s
  have h2 : x.length + 1 ≤ (told (lines s)).length := by
    rw [told_len]
    have : x.length + 1 ∈ (lines s).map fun x => x.length + 1 := List.mem_map.2 ⟨x, h, rfl⟩
    exact mem_le_sum this
  have := told_lines_len s
  omega

theorem srt_perm (l : List (List UInt8)) : (srt l).Perm l := List.mergeSort_perm _ _
theorem srt_sorted (l : List (List UInt8)) : (srt l).Pairwise (fun x y => x ≤ y) := by
  have := List.pairwise_mergeSort (le := fun (x y : List UInt8) => decide (x ≤ y)) (by intro a b c h1 h2; simp at *; exact List.le_trans h1 h2) (by intro a b; simp; exact List.le_total a b) l
  exact this.imp (by intro a b h; simpa using h)
theorem srt_eq {l l' : List (List UInt8)} (h : l.Perm l') : srt l = srt l' := by
  refine List.Perm.eq_of_pairwise (le := fun x y : List UInt8 => x ≤ y) ?_ (srt_sorted l) (srt_sorted l') ((srt_perm l).trans (h.trans (srt_perm l').symm))
  intro a b _ _ h1 h2
  exact List.le_antisymm h1 h2
theorem srt_of_sorted {l : List (List UInt8)} (h : l.Pairwise (fun x y => x ≤ y)) : srt l = l := by
  refine List.Perm.eq_of_pairwise (le := fun x y : List UInt8 => x ≤ y) ?_ (srt_sorted l) h (srt_perm l)
  intro a b _ _ h1 h2
  exact List.le_antisymm h1 h2
theorem srt_srt (l : List (List UInt8)) : srt (srt l) = srt l := srt_of_sorted (srt_sorted l)
theorem srt_len (l : List (List UInt8)) : (srt l).length = l.length := (srt_perm l).length_eq
theorem srt_no10 {l : List (List UInt8)} (h : ∀ x ∈ l, (10 : UInt8) ∉ x) : ∀ x ∈ srt l, (10 : UInt8) ∉ x := fun x hx => h x ((srt_perm l).mem_iff.1 hx)
theorem all_no10 (l : List (List UInt8)) : ∀ x ∈ all l, (10 : UInt8) ∉ x := by
  intro x hx
  obtain ⟨s, _, h⟩ := List.mem_flatMap.1 hx
  exact lines_no10 s x h
theorem told_perm {l l' : List (List UInt8)} (h : l.Perm l') : (told l).length = (told l').length := by
  rw [told_len, told_len]
  exact (h.map _).sum_nat
theorem told_append (a b : List (List UInt8)) : told (a ++ b) = told a ++ told b := by simp [told]
theorem told_all_len : ∀ (l : List (List UInt8)), (told (all l)).length ≤ (l.map fun x => x.length + 1).sum
  | [] => by simp [all, told]
  | x :: r => by
    have h1 := told_all_len r
    have h2 := (told_lines_len x).2
    have e : all (x :: r) = lines x ++ all r := by simp [all]
    rw [e, told_append]
    simp
    omega
theorem compact_succ (zs : List (List UInt8)) (m : Nat) : compactUpTo zs.toArray (m + 1) = compactUpTo zs.toArray m ++ (if keeps zs.toArray m then [zs.toArray[m]!] else []) := compactUpTo_succ _ m
theorem compact_mem {zs : List (List UInt8)} {x : List UInt8} (h : x ∈ Lib.compact zs) : x ∈ zs := by
  unfold Lib.compact compactUpTo at h
  obtain ⟨j, hj, e⟩ := List.mem_map.1 h
  have hj' := List.mem_filter.1 hj
  have hl : j < zs.length := by simpa using hj'.1
  rw [← e]
  simp [hl]
theorem compact_told_len (zs : List (List UInt8)) : ∀ m, m ≤ zs.length → (told (compactUpTo zs.toArray m)).length ≤ (told (zs.take m)).length
  | 0, _ => by simp [compactUpTo, told]
  | m + 1, h => by
    have ih := compact_told_len zs m (by omega)
    have hm : m < zs.length := by omega
    rw [compact_succ, told_append, List.take_succ_eq_append_getElem hm, told_append]
    simp only [List.length_append]
    split
    · have e : zs.toArray[m]! = zs[m] := by simp [hm]
      rw [e]
      omega
    · simp [told] at ih ⊢
      omega
end Af
end Go.Proofs.YtmeplgihnlpjcaaGreatDoor
/- The document's answer's isName: the walk. -/
namespace Go.Proofs.YtmeplgihnlpjcaaGreatDoor
open Go.RowKit Go.Shelf Go.Lib

/-- May a byte stand in a name (with stars)? -/
def byteOk (stars : Bool) (c : Nat) : Bool := letter c || (stars && c == 42)
def nameR (stars : Bool) (s : List UInt8) : Bool := !(decide (s = [])) && decide (s.length ≤ 12) && !(decide (s = [46])) && !(decide (s = [46, 46])) && s.all (fun b => byteOk stars b.toNat)

set_option maxRecDepth 100000 in
set_option maxHeartbeats 4000000 in
theorem rname_round (stars : Bool) (bs : ByteArray) (s : List UInt8) (T : Txt bs s) (hs : s.length ≤ 12) (h1 : ¬ s = []) (h3 : ¬ s = [46]) (h4 : ¬ s = [46, 46]) (w : World) :
    Calls Tryz.prog 119 #[.string bs, .bool stars] w fun e w' => e = .returned (.bool (s.all (fun b => byteOk stars b.toNat))) ∧ ∃ q, w' = w.drewN q := by
  have hz := T.size
  have hpos : 0 < s.length := List.length_pos_iff.2 h1
  have c0 : ¬ (bs.size : Int) < 1 := by omega
  have c1 : (bs.size : Int) ≤ 12 := by omega
  have e1 : bs.toList = s := by rw [T.eq, ba_toList]
  have c3 : (bs.toList == [46]) = false := by rw [e1]; simpa using h3
  have c4 : (bs.toList == [46, 46]) = false := by rw [e1]; simpa using h4
  have c0' : (1 : Int) ≤ (bs.size : Int) := by omega
  clear e1 h1 h3 h4
  go_enter Tryz.func119, Tryz.ntmps119
  go_wp2
  go_loopw [5] (fun i wr => ∃ k : Nat, k ≤ s.length ∧ i = .int .i64 k ∧ (s.take k).all (fun b => byteOk stars b.toNat) = true ∧ ∃ q, wr = w.drewN q) (fun i _ => s.length - (intOf i).toNat)
  case atStart => exact ⟨0, by omega, rfl, by simp, 0, rfl⟩
  case round =>
    obtain ⟨k, hk, rfl, hall, q, rfl⟩ := hrel
    have HA : Hid ((s.take k).all (fun b => byteOk stars b.toNat) = true) := hall
    clear hall
    by_cases hlt : k < s.length
    · have hlt2 : k < bs.size := by omega
      obtain ⟨c, hc⟩ : ∃ c : Nat, bs[k].toNat = c := ⟨_, rfl⟩
      have hsk : s[k].toNat = c := by rw [← hc, T.get k hlt hlt2]
      have hok : byteOk stars c = true → (s.take (k + 1)).all (fun b => byteOk stars b.toNat) = true := fun h => by
        rw [List.take_succ_eq_append_getElem hlt, List.all_append, HA.out]; simp [hsk, h]
      have hno : byteOk stars c = false → s.all (fun b => byteOk stars b.toNat) = false := fun h => by
        rw [List.all_eq_false]; exact ⟨s[k], List.getElem_mem hlt, by rw [hsk, h]; simp⟩
      have HOK : Hid (byteOk stars c = true → (s.take (k + 1)).all (fun b => byteOk stars b.toNat) = true) := hok
      have HNO : Hid (byteOk stars c = false → s.all (fun b => byteOk stars b.toNat) = false) := hno
      clear hok hno hsk HA
      by_cases hA : 97 ≤ c ∧ c ≤ 122
      · have a1 : (97 : Int) ≤ (c : Int) := by omega
        have a2 : (c : Int) ≤ 122 := by omega
        have hl : byteOk stars c = true := by simp [byteOk, letter]; omega
        have HK : Hid ((s.take (k + 1)).all (fun b => byteOk stars b.toNat) = true) := HOK.out hl
        clear hl HOK HNO hA
        go_wp2
        exact ⟨⟨k + 1, by omega, by go_num, HK.out, q, rfl⟩, by simp [intOf]; omega⟩
      by_cases hB : 48 ≤ c ∧ c ≤ 57
      · have a0 : ¬ (97 : Int) ≤ (c : Int) := by omega
        have a1 : (48 : Int) ≤ (c : Int) := by omega
        have a2 : (c : Int) ≤ 57 := by omega
        have hl : byteOk stars c = true := by simp [byteOk, letter]; omega
        have HK : Hid ((s.take (k + 1)).all (fun b => byteOk stars b.toNat) = true) := HOK.out hl
        clear hl HOK HNO hA hB
        go_wp2
        exact ⟨⟨k + 1, by omega, by go_num, HK.out, q, rfl⟩, by simp [intOf]; omega⟩
      by_cases h45 : c = 45
      · subst h45
        have HK : Hid ((s.take (k + 1)).all (fun b => byteOk stars b.toNat) = true) := HOK.out (by simp [byteOk, letter])
        clear HOK HNO hA hB
        go_wp2
        exact ⟨⟨k + 1, by omega, by go_num, HK.out, q, rfl⟩, by simp [intOf]; omega⟩
      by_cases h46 : c = 46
      · subst h46
        have HK : Hid ((s.take (k + 1)).all (fun b => byteOk stars b.toNat) = true) := HOK.out (by simp [byteOk, letter])
        clear HOK HNO hA hB
        go_wp2
        exact ⟨⟨k + 1, by omega, by go_num, HK.out, q, rfl⟩, by simp [intOf]; omega⟩
      by_cases h95 : c = 95
      · subst h95
        have HK : Hid ((s.take (k + 1)).all (fun b => byteOk stars b.toNat) = true) := HOK.out (by simp [byteOk, letter])
        clear HOK HNO hA hB
        go_wp2
        exact ⟨⟨k + 1, by omega, by go_num, HK.out, q, rfl⟩, by simp [intOf]; omega⟩
      have b45 : ((c : Int) == 45) = false := by simp; omega
      have b46 : ((c : Int) == 46) = false := by simp; omega
      have b95 : ((c : Int) == 95) = false := by simp; omega
      have hll : letter c = false := by simp [letter]; omega
      cases stars with
      | true =>
        by_cases h42 : c = 42
        · subst h42
          have HK : Hid ((s.take (k + 1)).all (fun b => byteOk true b.toNat) = true) := HOK.out (by simp [byteOk])
          clear HOK HNO hA hB b45 b46 b95 hll h45 h46 h95
          go_wp2
          exact ⟨⟨k + 1, by omega, by go_num, HK.out, q, rfl⟩, by simp [intOf]; omega⟩
        · have b42 : ((c : Int) == 42) = false := by simp; omega
          have HK : Hid (s.all (fun b => byteOk true b.toNat) = false) := HNO.out (by simp [byteOk, hll, h42])
          have hr : (97 ≤ c ∧ 122 < c) ∨ (c < 97 ∧ 48 ≤ c ∧ 57 < c) ∨ c < 48 := by omega
          clear HOK HNO hA hB hll h45 h46 h95 h42
          rcases hr with ⟨r1, r2⟩ | ⟨r1, r2, r3⟩ | r1
          · have d1 : (97 : Int) ≤ (c : Int) := by omega
            have d2 : decide ((c : Int) ≤ 122) = false := by simp; omega
            have d3 : (48 : Int) ≤ (c : Int) := by omega
            have d4 : decide ((c : Int) ≤ 57) = false := by simp; omega
            go_wp2
            go_ret
            exact ⟨ret_bool HK.out.symm, q, rfl⟩
          · have d1 : decide ((97 : Int) ≤ (c : Int)) = false := by simp; omega
            have d3 : (48 : Int) ≤ (c : Int) := by omega
            have d4 : decide ((c : Int) ≤ 57) = false := by simp; omega
            go_wp2
            go_ret
            exact ⟨ret_bool HK.out.symm, q, rfl⟩
          · have d1 : decide ((97 : Int) ≤ (c : Int)) = false := by simp; omega
            have d3 : decide ((48 : Int) ≤ (c : Int)) = false := by simp; omega
            go_wp2
            go_ret
            exact ⟨ret_bool HK.out.symm, q, rfl⟩
      | false =>
        have HK : Hid (s.all (fun b => byteOk false b.toNat) = false) := HNO.out (by simp [byteOk, hll])
        have hr : (97 ≤ c ∧ 122 < c) ∨ (c < 97 ∧ 48 ≤ c ∧ 57 < c) ∨ c < 48 := by omega
        clear HOK HNO hA hB hll h45 h46 h95
        rcases hr with ⟨r1, r2⟩ | ⟨r1, r2, r3⟩ | r1
        · have d1 : (97 : Int) ≤ (c : Int) := by omega
          have d2 : decide ((c : Int) ≤ 122) = false := by simp; omega
          have d3 : (48 : Int) ≤ (c : Int) := by omega
          have d4 : decide ((c : Int) ≤ 57) = false := by simp; omega
          go_wp2
          go_ret
          exact ⟨ret_bool HK.out.symm, q, rfl⟩
        · have d1 : decide ((97 : Int) ≤ (c : Int)) = false := by simp; omega
          have d3 : (48 : Int) ≤ (c : Int) := by omega
          have d4 : decide ((c : Int) ≤ 57) = false := by simp; omega
          go_wp2
          go_ret
          exact ⟨ret_bool HK.out.symm, q, rfl⟩
        · have d1 : decide ((97 : Int) ≤ (c : Int)) = false := by simp; omega
          have d3 : decide ((48 : Int) ≤ (c : Int)) = false := by simp; omega
          go_wp2
          go_ret
          exact ⟨ret_bool HK.out.symm, q, rfl⟩
    · have hge : (bs.size : Int) ≤ (k : Int) := by omega
      have HK : Hid (s.all (fun b => byteOk stars b.toNat) = true) := by
        have := HA.out
        rw [List.take_of_length_le (by omega)] at this
        exact this
      clear HA
      go_wp2
      go_ret
      exact ⟨ret_bool HK.out.symm, q, rfl⟩
end Go.Proofs.YtmeplgihnlpjcaaGreatDoor
/- A name's bytes are letters. -/
namespace Go.Proofs.YtmeplgihnlpjcaaGreatDoor
open Go.RowKit Go.Shelf Go.Lib

theorem decode_high (s : ByteArray) (i : Nat) (h : 128 ≤ (s.get! i).toNat) : 128 ≤ (Utf8.decode s i).1 := by
  unfold Utf8.decode
  simp only [Nat.add_zero]
  rw [if_neg (by omega)]
  have hr : 128 ≤ Utf8.runeError := by decide
  split
  · split
    · simpa using ‹_›
    · exact hr
  · split
    · split
      · rename_i h2
        simp at h2
        simp only
        omega
      · exact hr
    · split
      · split
        · rename_i h2
          simp at h2
          simp only
          omega
        · exact hr
      · exact hr
theorem decode_low (s : ByteArray) (i : Nat) (h : (s.get! i).toNat < 128) : Utf8.decode s i = ((s.get! i).toNat, 1) := by
  unfold Utf8.decode
  simp only [Nat.add_zero]
  rw [if_pos (by omega)]

theorem idx_bytes (p : Nat → Bool) (hp : ∀ x, 128 ≤ x → p x = false) (l : List UInt8) : ∀ (f pos : Nat), l.length ≤ pos + f →
    (decide (0 ≤ Lib.idxFuncFrom (fun x => !p x) true (ba l) f pos) = !((l.drop pos).all (fun b => p b.toNat)))
  | 0, pos, h => by
    simp [Lib.idxFuncFrom, List.drop_of_length_le (show l.length ≤ pos by omega)]
  | f + 1, pos, h => by
    unfold Lib.idxFuncFrom
    have hz := ba_size l
    by_cases hlt : pos < l.length
    · rw [if_pos (by rw [hz]; exact hlt)]
      have hget : ((ba l).get! pos) = l[pos] := by
        show (l.toArray)[pos]! = _
        rw [getElem!_pos _ _ (by simpa using hlt)]
        simp
      rw [List.drop_eq_getElem_cons hlt, List.all_cons]
      by_cases hc : l[pos].toNat < 128
      · rw [decode_low _ _ (by rw [hget]; exact hc), hget]
        simp only
        cases hpc : p l[pos].toNat with
        | true =>
          simp only [Bool.not_true, Bool.false_eq_true, if_false, Bool.true_and]
          exact idx_bytes p hp l f (pos + 1) (by omega)
        | false => simp
      · have h1 := decode_high (ba l) pos (by rw [hget]; omega)
        rw [hp _ h1, hp l[pos].toNat (by omega)]
        simp
    · rw [if_neg (by rw [hz]; exact hlt), List.drop_of_length_le (by omega)]
      simp

theorem letter_high (x : Nat) (h : 128 ≤ x) : letter x = false := by simp [letter]; omega

theorem name_letters {l : List UInt8} (h : nameK letter (ba l) = true) : ∀ b ∈ l, letter b.toNat = true := by
  have e := idx_bytes letter letter_high l (ba l).size 0 (by rw [ba_size]; omega)
  unfold nameK Lib.idxFunc at h
  rw [e] at h
  simp only [Bool.and_eq_true, Bool.not_not, List.drop_zero, List.all_eq_true] at h
  exact h.2

theorem byte_part : ∀ (s : List UInt8) (b : UInt8), b ∈ s → b = 47 ∨ ∃ x ∈ Kf.parts s, b ∈ x
  | c :: r, b, h => by
    unfold Kf.parts
    by_cases hc : c = 47
    · rw [if_pos hc]
      rcases List.mem_cons.1 h with rfl | h
      · exact .inl hc
      · exact (byte_part r b h).imp id fun ⟨x, hx, hb⟩ => ⟨x, List.mem_cons_of_mem _ hx, hb⟩
    · rw [if_neg hc]
      have hne := Kf.parts_ne r
      cases hp : Kf.parts r with
      | nil => exact absurd hp hne
      | cons p ps =>
        rcases List.mem_cons.1 h with rfl | h
        · exact .inr ⟨b :: p, by simp, by simp⟩
        · rcases byte_part r b h with rfl | ⟨x, hx, hb⟩
          · exact .inl rfl
          · rw [hp] at hx
            rcases List.mem_cons.1 hx with rfl | hx
            · exact .inr ⟨c :: x, by simp, List.mem_cons_of_mem _ hb⟩
            · exact .inr ⟨x, by simp [hx], hb⟩
theorem path_bytes {s : List UInt8} (h : pathB s = true) : ∀ b ∈ s, b ≠ 32 ∧ b ≠ 10 := by
  unfold pathB allB at h
  simp only [Bool.and_eq_true, decide_eq_true_eq, List.all_eq_true] at h
  intro b hb
  rcases byte_part s b hb with rfl | ⟨x, hx, hbx⟩
  · decide
  · have := name_letters (h.2 x hx) b hbx
    refine ⟨fun e => ?_, fun e => ?_⟩ <;> subst e <;> simp [letter] at this
end Go.Proofs.YtmeplgihnlpjcaaGreatDoor
/- The document's answer's partsOf and IsPath: the walks; and that they ask what package path asks. -/
namespace Go.Proofs.YtmeplgihnlpjcaaGreatDoor
open Go.RowKit Go.Shelf Go.Lib

/-- Runes that are all letters are bytes that are all letters. -/
theorem nameK_R (l : List UInt8) : nameK letter (ba l) = nameR false l := by
  have h := idx_bytes letter letter_high l (ba l).size 0 (by rw [ba_size]; omega)
  unfold nameK nameR Lib.idxFunc
  rw [h, ba_toList, ba_size]
  simp [byteOk]

set_option maxHeartbeats 1000000 in
theorem risName_calls (stars : Bool) (s : List UInt8) (hs : s.length ≤ 1000000) (w : World) :
    Calls Tryz.prog 119 #[.string (ba s), .bool stars] w fun e w' => e = .returned (.bool (nameR stars s)) ∧ ∃ q, w' = w.drewN q := by
  obtain ⟨bs, eb, T⟩ := txt s
  rw [eb]
  clear eb
  have hz := T.size
  have e1 : bs.toList = s := by rw [T.eq, ba_toList]
  by_cases h1 : s = []
  · have e : nameR stars s = false := by simp [nameR, h1]
    have c0 : (bs.size : Int) < 1 := by rw [hz, h1]; simp
    have HE : Hid (nameR stars s = false) := e
    clear e e1 hz h1
    go_enter Tryz.func119, Tryz.ntmps119
    go_wp2
    go_ret
    exact ⟨ret_bool HE.out.symm, 0, rfl⟩
  have hpos : 0 < s.length := List.length_pos_iff.2 h1
  have c0 : (1 : Int) ≤ (bs.size : Int) := by omega
  by_cases h2 : 12 < s.length
  · have e : nameR stars s = false := by simp [nameR]; intros; omega
    have c1 : (12 : Int) < (bs.size : Int) := by omega
    have HE : Hid (nameR stars s = false) := e
    clear e e1 hz h1
    go_enter Tryz.func119, Tryz.ntmps119
    go_wp2
    go_ret
    exact ⟨ret_bool HE.out.symm, 0, rfl⟩
  have c1 : (bs.size : Int) ≤ 12 := by omega
  by_cases h3 : s = [46]
  · have e : nameR stars s = false := by simp [nameR, h3]
    have c3 : (bs.toList == [46]) = true := by rw [e1, h3]; rfl
    have c3' : bs.toList = [46] := by rw [e1, h3]
    have HE : Hid (nameR stars s = false) := e
    clear e e1 hz h1 h3
    go_enter Tryz.func119, Tryz.ntmps119
    go_wp2
    go_ret
    exact ⟨ret_bool HE.out.symm, 0, rfl⟩
  by_cases h4 : s = [46, 46]
  · have e : nameR stars s = false := by simp [nameR, h4]
    have c3 : (bs.toList == [46]) = false := by rw [e1, h4]; rfl
    have c4 : (bs.toList == [46, 46]) = true := by rw [e1, h4]; rfl
    have HE : Hid (nameR stars s = false) := e
    clear e e1 hz h1 h3 h4
    go_enter Tryz.func119, Tryz.ntmps119
    go_wp2
    go_ret
    exact ⟨ret_bool HE.out.symm, 0, rfl⟩
  have e : nameR stars s = s.all (fun b => byteOk stars b.toNat) := by
    unfold nameR
    simp [h1, h3, h4, show s.length ≤ 12 by omega]
  rw [e]
  exact rname_round stars bs s T (by omega) h1 h3 h4 w

/-- Parts of a path, or of a pattern. -/
def okR (stars : Bool) (s : List UInt8) : Bool := decide ((Kf.parts s).length ≤ 5) && (Kf.parts s).all (fun p => nameR stars p)

theorem pathB_R (s : List UInt8) : pathB s = okR false s := by
  unfold pathB allB okR
  congr 1
  exact List.all_congr rfl (fun p => nameK_R p)

theorem part_len {s p : List UInt8} (h : p ∈ Kf.parts s) : p.length ≤ s.length := by
  have h1 := Kf.tot_parts s
  obtain ⟨a, b, e⟩ := List.append_of_mem h
  rw [e] at h1
  simp [Kf.tot] at h1
  omega


set_option maxRecDepth 100000 in
set_option maxHeartbeats 2000000 in
theorem partsOf_calls (stars : Bool) (s : List UInt8) (hs : s.length ≤ 1000000) (w : World) :
    Calls Tryz.prog 91 #[.string (ba s), .bool stars] w fun e w' => ∃ v, e = .returned v ∧ ((okR stars s = true ∧ w'.ownsRow w.heap.size 9 1 v (Kf.parts s).length ((Kf.parts s).map sv)) ∨ (okR stars s = false ∧ v = .slice none 0 0)) ∧ Below w.heap.size w w' := by
  go_enter Tryz.func91, Tryz.ntmps91
  go_wp2_with fail
  refine (rCut_calls s hs 47 47 rfl w).mono ?_
  rintro e w1 ⟨v, rfl, hrow, hB⟩
  rw [cutB_parts] at hrow
  obtain ⟨m, hm⟩ : ∃ m, (Kf.parts s).length = m + 1 := ⟨(Kf.parts s).length - 1, by have := List.length_pos_iff.2 (Kf.parts_ne s); omega⟩
  obtain ⟨g, cap, rfl⟩ : ∃ g cap, v = .slice (some ⟨g, 0, none⟩) (Kf.parts s).length cap := by
    rw [hm] at hrow ⊢; exact ownsRow_succ hrow
  obtain ⟨o1, o2, o3⟩ := owns_cells hrow
  have hlen := Kf.parts_len s
  have hpl : ∀ p ∈ Kf.parts s, p.length ≤ 1000000 := fun p hp => Nat.le_trans (part_len hp) hs
  have HO : Hid (okR stars s = (decide ((Kf.parts s).length ≤ 5) && (Kf.parts s).all (fun p => nameR stars p))) := rfl
  clear hm o2 o3
  by_cases h5 : 5 < (Kf.parts s).length
  · have hf : okR stars s = false := by rw [HO.out]; simp; intros; omega
    have c5 : (5 : Int) < ((Kf.parts s).length : Int) := by omega
    have HF : Hid (okR stars s = false) := hf
    clear hf o1 hlen hpl hrow
    go_wp2
    go_ret
    exact ⟨_, rfl, .inr ⟨HF.out, rfl⟩, hB⟩
  · have c5 : ((Kf.parts s).length : Int) ≤ 5 := by omega
    have HR : Hid (w1.ownsRow w.heap.size 9 1 (.slice (some ⟨g, 0, none⟩) (Kf.parts s).length cap) (Kf.parts s).length ((Kf.parts s).map sv)) := hrow
    clear hrow hlen
    go_wp2
    go_loopw [6] (fun i wr => ∃ k : Nat, k ≤ (Kf.parts s).length ∧ i = .int .i64 k ∧ ((Kf.parts s).take k).all (fun p => nameR stars p) = true ∧ ∃ q, wr = w1.drewN q) (fun i _ => (Kf.parts s).length - (intOf i).toNat)
    case atStart => exact ⟨0, by omega, rfl, by simp, 0, rfl⟩
    case round =>
      obtain ⟨k, hk, rfl, hall, q, rfl⟩ := hrel
      have HA : Hid (((Kf.parts s).take k).all (fun p => nameR stars p) = true) := hall
      clear hall
      by_cases hlt : k < (Kf.parts s).length
      · have hck : w1.cell? ⟨g, k, none⟩ = some (.string (ba (Kf.parts s)[k])) := by
          have := o1 k (ba (Kf.parts s)[k]) (by rw [List.getElem?_map, List.getElem?_eq_getElem hlt]; rfl)
          simpa using this
        have hpk := hpl (Kf.parts s)[k] (List.getElem_mem hlt)
        have c1 : (k : Int) < ((Kf.parts s).length : Int) := by omega
        have c0 : (0 : Int) ≤ (k : Int) := by omega
        generalize hy : (Kf.parts s)[k] = y at *
        have HY : Hid ((Kf.parts s)[k] = y) := hy
        clear hy o1 hpl
        cases hn : nameR stars y with
        | true =>
          have HN : Hid (nameR stars y = true) := hn
          clear hn
          go_wp2_with fail
          have hc := risName_calls stars y hpk (w1.drewN q)
          rw [HN.out] at hc
          refine hc.mono ?_
          rintro e w2 ⟨rfl, q2, rfl⟩
          clear hc
          go_wp2
          refine ⟨⟨k + 1, by omega, by go_num, ?_, q + q2, ?_⟩, by simp [intOf]; omega⟩
          · rw [List.take_succ_eq_append_getElem hlt, List.all_append, HA.out, HY.out]
            simp [HN.out]
          · simp [World.drewN]
        | false =>
          have hf : okR stars s = false := by
            rw [HO.out]
            have : (Kf.parts s).all (fun p => nameR stars p) = false := by
              rw [List.all_eq_false]
              exact ⟨(Kf.parts s)[k], List.getElem_mem hlt, by rw [HY.out, hn]; simp⟩
            rw [this, Bool.and_false]
          have HF : Hid (okR stars s = false) := hf
          have HN : Hid (nameR stars y = false) := hn
          clear hn hf
          go_wp2_with fail
          have hc := risName_calls stars y hpk (w1.drewN q)
          rw [HN.out] at hc
          refine hc.mono ?_
          rintro e w2 ⟨rfl, q2, rfl⟩
          clear hc
          go_wp2
          go_ret
          exact ⟨_, rfl, .inr ⟨HF.out, rfl⟩, below_draws hB _⟩
      · have hf : okR stars s = true := by
          rw [HO.out]
          have := HA.out
          rw [List.take_of_length_le (by omega)] at this
          rw [this]
          simp; omega
        have HF : Hid (okR stars s = true) := hf
        have c1 : ((Kf.parts s).length : Int) ≤ (k : Int) := by omega
        clear hf o1 hpl
        go_wp2
        go_ret
        exact ⟨_, rfl, .inl ⟨HF.out, HR.out.kept (grownBy_drewN _ _) (.inr (by simp [Value.ownBlock]))⟩, below_draws hB q⟩

theorem IsPath_calls (s : List UInt8) (hs : s.length ≤ 1000000) (w : World) :
    Calls Tryz.prog 52 #[.string (ba s)] w fun e w' => e = .returned (.bool (okR false s)) ∧ Below w.heap.size w w' := by
  have hne := List.length_pos_iff.2 (Kf.parts_ne s)
  go_enter Tryz.func52, Tryz.ntmps52
  go_wp2_with fail
  refine (partsOf_calls false s hs w).mono ?_
  rintro e w1 ⟨v, rfl, (⟨ho, hrow⟩ | ⟨ho, rfl⟩), hB⟩
  · have HO : Hid (okR false s = true) := ho
    obtain ⟨a, n, c, rfl, hn⟩ : ∃ a n c, v = .slice a n c ∧ 0 < n := by
      rcases hrow.2 with ⟨_, h⟩ | ⟨g, cap, cur, h, _⟩
      · omega
      · exact ⟨_, _, _, h, hne⟩
    have hn' : (0 : Int) < (n : Int) := by omega
    clear ho hrow hne
    go_wp2
    go_ret
    exact ⟨ret_bool (by rw [HO.out]), hB⟩
  · have HO : Hid (okR false s = false) := ho
    clear ho
    go_wp2
    go_ret
    exact ⟨ret_bool HO.out.symm, hB⟩
end Go.Proofs.YtmeplgihnlpjcaaGreatDoor
/- Small laws on names that are sought piece by piece. -/
namespace Go.Proofs.YtmeplgihnlpjcaaGreatDoor
open Go.RowKit Go.Shelf Go.Lib

theorem seek_append (a b : List (List UInt8)) : ∀ r, seek r (a ++ b) = (seek r a).bind (fun r' => seek r' b) := by
  induction a with
  | nil => intro r; rfl
  | cons x xs ih =>
    intro r
    simp only [List.cons_append, seek]
    split
    · exact ih _
    · rfl

theorem seek_len : ∀ (a : List (List UInt8)) (r r' : List UInt8), seek r a = some r' → r'.length ≤ r.length
  | [], r, r', h => by simp [seek] at h; subst h; exact Nat.le_refl _
  | x :: xs, r, r', h => by
    unfold seek at h
    split at h
    · have := seek_len xs _ _ h
      simp at this
      omega
    · cases h


theorem row_cells (W : World) (l : List (List UInt8)) (j : Nat) (hj : j < l.length) : (W.alloc (.cells ((l.map ba).map Value.string).toArray 9)).cell? ⟨W.heap.size, j, none⟩ = some (.string (ba l[j])) := by
  rw [World.cell?_alloc_at _ _ _ _ rfl, List.getElem?_toArray, List.getElem?_map, List.getElem?_map, List.getElem?_eq_getElem hj]
  rfl

theorem cutB_len (c : UInt8) (s : List UInt8) : (cutB c s).length ≤ s.length + 1 := by
  induction s with
  | nil => simp [cutB]
  | cons x r ih =>
    unfold cutB
    split
    · simp; omega
    · split
      · simp
      · next h => rw [h] at ih; simp at ih ⊢; omega

theorem strCutG (s sep : List UInt8) (m : Int) (w : World) (hs : s.length ≤ 1000000) (hm : w.cell? ⟨13, 0, none⟩ = some (.int .i64 m)) :
    Calls Tryz.prog 135 #[.string (ba s), .string (ba sep)] w fun e w' => e = .returned (.tuple #[.string (ba (Lib.cut s sep).1), .string (ba (Lib.cut s sep).2.1), .bool (Lib.cut s sep).2.2]) ∧ ∃ n, w' = w.drewN n :=
  Tryz.strings_Cut (ba s) (ba sep) m w (by rw [ba_size]; omega) hm

end Go.Proofs.YtmeplgihnlpjcaaGreatDoor
/- The walks of package act's linesOf, allLines and told. -/
namespace Go.Proofs.YtmeplgihnlpjcaaGreatDoor
open Go.RowKit Go.Shelf Go.Lib
open Go.Sort (grow)

theorem empty_not {l : List UInt8} (h : l ≠ []) : l.isEmpty = false := by
  cases l with
  | nil => exact absurd rfl h
  | cons c r => rfl
/-- A slice of texts of its own, in a block that is not older than B. -/
def LRow (B : Nat) (w : World) (v : Value) (l : List (List UInt8)) : Prop :=
  ∃ g cap cur, v = .slice (some ⟨g, 0, none⟩) l.length cap ∧ B ≤ g ∧ l.length ≤ cap ∧ w.heap[g]? = some (.cells cur 9 (0, 0)) ∧ ∀ j (hj : j < l.length), cur[j]? = some (.string (ba l[j]))
theorem LRow.row {B : Nat} {w : World} {v : Value} {l : List (List UInt8)} (h : LRow B w v l) : TRow w v l := by
  obtain ⟨g, cap, cur, rfl, _, h1, h2, h3⟩ := h
  exact ⟨_, cap, rfl, h1, fun _ => ⟨g, cur, rfl, h2, h3⟩⟩

/-- A slice of texts, cell by cell. -/
def CRow (w : World) (v : Value) (l : List (List UInt8)) : Prop :=
  ∃ p cap, v = .slice p l.length cap ∧ ∀ k (hk : k < l.length), ∃ g, p = some ⟨g, 0, none⟩ ∧ g < w.heap.size ∧ w.cell? ⟨g, k, none⟩ = some (.string (ba l[k]))
theorem TRow.cells {w : World} {v : Value} {l : List (List UInt8)} (h : TRow w v l) : CRow w v l := by
  obtain ⟨p, cap, rfl, _, hin⟩ := h
  refine ⟨p, cap, rfl, fun k hk => ?_⟩
  obtain ⟨g, cur, rfl, hg, hcur⟩ := hin (by intro e; rw [e] at hk; simp at hk)
  exact ⟨g, rfl, (Array.getElem?_eq_some_iff.1 hg).1, cell_of_row hg (hcur k hk)⟩

set_option maxRecDepth 100000 in
set_option maxHeartbeats 4000000 in
theorem linesOf_calls (s : List UInt8) (hs : s.length ≤ 1000000) (m : Int) (w : World) (hm : w.cell? ⟨13, 0, none⟩ = some (.int .i64 m)) :
    Calls Tryz.prog 163 #[.string (ba s)] w fun e w' => ∃ v, e = .returned v ∧ LRow w.heap.size w' v (Af.lines s) ∧ Below w.heap.size w w' := by
  obtain ⟨o, l, hc, hl⟩ := Af.lines_of_cut s
  have HS : Hid (Calls Tryz.prog 175 #[.string (ba s), .string ⟨#[10]⟩] w fun e w' => e = .returned (.slice (some ⟨w.heap.size, 0, none⟩) (o.length + 1) (o.length + 1)) ∧ w' = w.alloc (.cells (((o ++ [l]).map ba).map Value.string).toArray 9)) := by
    have := Tryz.strings_Split (ba s) (ba [10]) m w (by rw [ba_size]; omega) hm (by rw [ba_size]; simp)
    rw [splitB_cut, count_cut, hc] at this
    exact hid1 (by simpa using this)
  have hol : o.length ≤ 1000000 := by
    have := cutB_len 10 s
    rw [hc] at this
    simp at this
    omega
  have HL : Hid (Af.lines s = (if l = [] then o else o ++ [l])) := hl
  clear hl hc
  generalize Af.lines s = L at *
  have hB3 : Below w.heap.size w (w.alloc (.cells (((o ++ [l]).map ba).map Value.string).toArray 9)) := (Below.refl _ w).alloc (Nat.le_refl _) _
  have hblk : (w.alloc (.cells (((o ++ [l]).map ba).map Value.string).toArray 9)).heap[w.heap.size]? = some (.cells (((o ++ [l]).map ba).map Value.string).toArray 9 (0, 0)) := by
    show (w.heap.push _)[w.heap.size]? = _
    simp
  have hcz : (w.alloc (.cells (((o ++ [l]).map ba).map Value.string).toArray 9)).cell? ⟨w.heap.size, o.length, none⟩ = some (.string (ba l)) := by
    have := row_cells w (o ++ [l]) o.length (by simp)
    rw [List.getElem_append_right (by omega)] at this
    simp only [Nat.sub_self, List.getElem_cons_zero] at this
    exact this
  go_enter Tryz.func163, Tryz.ntmps163
  go_wp2_with fail
  refine HS.out.mono ?_
  rintro e w3 ⟨rfl, hw3⟩
  rw [← hw3] at hB3 hblk hcz
  clear hw3 HS hm
  have z1 : (o.length : Int) ≤ 1000000 := by omega
  have hcur : ∀ (l' : List (List UInt8)), (∃ t, l' ++ t = o ++ [l]) → ∀ j (hj : j < l'.length), (((o ++ [l]).map ba).map Value.string).toArray[j]? = some (.string (ba l'[j])) := by
    rintro l' ⟨t, ht⟩ j hj
    rw [← ht]
    simp only [List.map_map, List.map_append, List.getElem?_toArray]
    rw [List.getElem?_append_left (by simpa using hj)]
    simp [hj]
  by_cases he : l = []
  · subst he
    have d1 : (ba ([] : List UInt8) == ⟨#[]⟩) = true := by rfl
    have hL : L = o := by rw [HL.out, if_pos rfl]
    subst hL
    go_wp2
    go_ret
    exact ⟨_, rfl, ⟨_, _, _, rfl, Nat.le_refl _, by omega, hblk, hcur L ⟨_, rfl⟩⟩, hB3⟩
  · have d1 : l.isEmpty = false := empty_not he
    have hL : L = o ++ [l] := by rw [HL.out, if_neg he]
    subst hL
    go_wp2
    go_ret
    exact ⟨_, rfl, ⟨w.heap.size, o.length + 1, _, by simp, Nat.le_refl _, by simp, hblk, hcur _ ⟨[], by simp⟩⟩, hB3⟩

theorem owns_stays {w w' : World} {B n : Nat} {v : Value} {xs : List Value} (h : w.ownsRow B 9 1 v n xs) (hb : Below w.heap.size w w') : w'.ownsRow B 9 1 v n xs :=
  h.kept (row := none) ⟨hb.os, hb.tape, hb.output, hb.size, fun k hk _ => hb.block k hk⟩ (by cases v.ownBlock <;> simp)
theorem all_take {ls : List (List UInt8)} {k : Nat} (hk : k < ls.length) : Af.all (ls.take (k + 1)) = Af.all (ls.take k) ++ Af.lines ls[k] := by
  unfold Af.all
  rw [List.take_succ_eq_append_getElem hk, List.flatMap_append, List.flatMap_cons, List.flatMap_nil, List.append_nil]
theorem all_len {ls : List (List UInt8)} (h : ∀ x ∈ ls, x.length ≤ 100000) : ∀ k, k ≤ ls.length → (Af.all (ls.take k)).length ≤ k * 100000
  | 0, _ => by simp [Af.all]
  | k + 1, hk => by
    have ih := all_len h k (by omega)
    rw [all_take (by omega), List.length_append]
    have h1 := Af.lines_len ls[k]
    have h2 := h _ (List.getElem_mem (show k < ls.length by omega))
    omega

set_option maxRecDepth 100000 in
set_option maxHeartbeats 4000000 in
theorem allLines_calls (v : Value) (ls : List (List UInt8)) (hn : ls.length ≤ 1000) (hx : ∀ x ∈ ls, x.length ≤ 100000) (m : Int) (w : World) (hrow : TRow w v ls) (hm : w.cell? ⟨13, 0, none⟩ = some (.int .i64 m)) :
    Calls Tryz.prog 166 #[v] w fun e w' => ∃ v', e = .returned v' ∧ w'.ownsRow w.heap.size 9 1 v' (Af.all ls).length ((Af.all ls).map sv) ∧ Below w.heap.size w w' := by
  obtain ⟨i0, hi, hz0, hz1, hz2⟩ := info_parts Tryz.infoStr
  obtain ⟨pa, cap, rfl, hcap, hin⟩ := hrow
  have hR : Hid (∀ W, Below w.heap.size w W → ∀ k (hk : k < ls.length), ∃ g, pa = some ⟨g, 0, none⟩ ∧ W.cell? ⟨g, k, none⟩ = some (.string (ba ls[k]))) := fun W hW k hk => by
    obtain ⟨g, cur, rfl, hg, hcur⟩ := hin (by intro e; rw [e] at hk; simp at hk)
    exact ⟨g, rfl, cell_of_row ((hW.block g (Array.getElem?_eq_some_iff.1 hg).1).trans hg) (hcur k hk)⟩
  have hM : Hid (∀ W, Below w.heap.size w W → W.cell? ⟨13, 0, none⟩ = some (.int .i64 m)) := fun W hW => cell_below' hm hW
  have hA := all_len hx
  have hzn : (ls.length : Int) ≤ 1000 := by omega
  clear hin hm
  go_enter Tryz.func166, Tryz.ntmps166
  go_wp2
  go_loopw [3, 8] (fun out i wr => ∃ k : Nat, k ≤ ls.length ∧ i = .int .i64 k ∧ wr.ownsRow w.heap.size 9 1 out (Af.all (ls.take k)).length ((Af.all (ls.take k)).map sv) ∧ Below w.heap.size w wr) (fun _ i _ => ls.length - (intOf i).toNat)
  case atStart => exact ⟨0, Nat.zero_le _, rfl, World.ownsRow_nil _ _ _ _, Below.refl _ _⟩
  case round =>
    obtain ⟨k, hk, rfl, hown, hB⟩ := hrel
    by_cases hlt : k < ls.length
    · have c1 : (k : Int) < (ls.length : Int) := by omega
      have c0 : (0 : Int) ≤ (k : Int) := by omega
      obtain ⟨g, rfl, hcell⟩ := hR.out wr hB k hlt
      have HA : Hid (Af.all (ls.take (k + 1)) = Af.all (ls.take k) ++ Af.lines ls[k]) := all_take hlt
      have hA1 := hA (k + 1) (by omega)
      rw [HA.out, List.length_append] at hA1
      have HC := hid1 (linesOf_calls ls[k] (by have := hx _ (List.getElem_mem hlt); omega) m wr (hM.out wr hB))
      generalize Af.lines ls[k] = L at *
      generalize ls[k] = x at *
      generalize Af.all (ls.take k) = A at *
      go_wp2_with fail
      refine Calls.mono HC.out ?_
      rintro e w2 ⟨v2, rfl, ⟨g2, cap2, cur2, rfl, hg2, hc2, hblk2, hcur2⟩, hb2⟩
      have hown2 := owns_stays hown hb2
      have hB2 : Below w.heap.size w w2 := hB.trans (hb2.mono hB.size)
      have hsrc : ∀ j u, (L.map sv)[j]? = some u → w2.cell? ((⟨g2, 0, none⟩ : Addr).add j) = some u := fun j u hj => by
        have hjl : j < L.length := by simpa using (List.getElem?_eq_some_iff.1 hj).1
        have := cell_of_row hblk2 (hcur2 j hjl)
        rw [List.getElem?_map, List.getElem?_eq_getElem hjl] at hj
        simp at hj
        rw [← hj, add_at]
        exact this
      clear HC hcell
      go_wp2_with (at_builtin; refine wpList_append_own _ rfl _ _ 34 rfl w.heap.size 9 i0 (.string ⟨#[]⟩) 1 16 Tryz.underlying34 hi hz0 hz1 hz2 rfl (by decide) _ _ _ rfl hown2 ⟨g2, 0, none⟩ L.length cap2 (L.map sv) rfl (by simp) hsrc (by simp [Value.oneCell']) (by unfold maxLen; omega) (by omega) hB2.size ?_; intro v' w1 hown' hgrow _)
      go_roundw
      case rel => exact ⟨k + 1, by omega, by go_num, by rw [HA.out, List.length_append, List.map_append]; exact hown', below_more hB2 hB2.size hown2 hgrow⟩
      case measure => simp [intOf]; omega
    · have c1 : (ls.length : Int) ≤ (k : Int) := by omega
      obtain rfl : k = ls.length := by omega
      rw [List.take_length] at hown
      go_wp2
      go_ret
      exact ⟨_, rfl, hown, hB⟩

theorem told_take {l : List (List UInt8)} {k : Nat} (hk : k < l.length) : Af.told (l.take (k + 1)) = Af.told (l.take k) ++ l[k] ++ [10] := by
  unfold Af.told
  rw [List.take_succ_eq_append_getElem hk, List.flatMap_append, List.flatMap_cons, List.flatMap_nil, List.append_nil, List.append_assoc]
theorem told_take_len {l : List (List UInt8)} (k : Nat) : (Af.told (l.take k)).length ≤ (Af.told l).length := by
  conv => rhs; rw [← List.take_append_drop k l, Af.told_append, List.length_append]
  omega

set_option maxRecDepth 100000 in
set_option maxHeartbeats 4000000 in
theorem told_calls (v : Value) (l : List (List UInt8)) (w : World) (hrow : CRow w v l) (hlen : (Af.told l).length ≤ 100000000) :
    Calls Tryz.prog 161 #[v] w fun e w' => e = .returned (.string (ba (Af.told l))) ∧ Below w.heap.size w w' := by
  have g0 : Below w.heap.size w (w.alloc (.cells #[.pointer none, .slice none 0 0] 212)) := (Below.refl _ w).alloc (Nat.le_refl _) _
  have b0 : Lib.IsBuilderF 212 5 w.heap.size w.heap.size [] (w.alloc (.cells #[.pointer none, .slice none 0 0] 212)) := Lib.IsBuilderF.of (Lib.fresh_isBuilder 212 5 w)
  obtain ⟨pa, cap, rfl, hin⟩ := hrow
  have hln : l.length ≤ (Af.told l).length := by
    have : ∀ l : List (List UInt8), l.length ≤ (Af.told l).length := fun l => by
      induction l with
      | nil => simp
      | cons x r ih => simp [Af.told] at ih ⊢; omega
    exact this l
  have hR : Hid (∀ W, Below w.heap.size w W → ∀ k (hk : k < l.length), ∃ g, pa = some ⟨g, 0, none⟩ ∧ W.cell? ⟨g, k, none⟩ = some (.string (ba l[k]))) := fun W hW k hk => by
    obtain ⟨g, rfl, hg, hcur⟩ := hin k hk
    exact ⟨g, rfl, (World.cell?_of_block (hW.block g hg)).trans hcur⟩
  have HW : Hid (∀ (bs : List UInt8) (s : List UInt8) W, bs.length + s.length ≤ 100000000 → w.heap.size ≤ W.heap.size → Lib.IsBuilderF 212 5 w.heap.size w.heap.size (Lib.byteCells bs) W → Calls Tryz.prog 157 #[.pointer (some ⟨w.heap.size, 0, none⟩), .string (ba s)] W fun e w' =>
      e = .returned (.tuple #[.int .i64 s.length, .nilIface]) ∧ Lib.IsBuilderF 212 5 w.heap.size w.heap.size (Lib.byteCells (bs ++ s)) w' ∧ Below w.heap.size W w') := fun bs s W hl hW hb => by
    refine (Any.Builder_WriteString_k Tryz.lays166 Tryz.Builder_Extra_166 w.heap.size w.heap.size (Lib.byteCells bs) (ba s) W hb (by rw [Lib.byteCells_length, ba_size]; omega) hW).mono ?_
    rintro e w' ⟨rfl, h1, h2, h3⟩
    refine ⟨by rw [ba_size], .inr ?_, h2⟩
    rw [Lib.byteCells_append]
    exact h1
  have HS : Hid (∀ W, w.heap.size ≤ W.heap.size → Lib.IsBuilderF 212 5 w.heap.size w.heap.size (Lib.byteCells (Af.told l)) W → Calls Tryz.prog 158 #[.pointer (some ⟨w.heap.size, 0, none⟩)] W fun e w' => e = .returned (.string (ba (Af.told l))) ∧ Below w.heap.size W w') := fun W hW hb => by
    refine (Any.Builder_String_any_k Tryz.lays169 Tryz.Builder_Extra_169 w.heap.size w.heap.size (Af.told l) W hb hW).mono ?_
    rintro e w' ⟨rfl, _, h2, _⟩
    exact ⟨rfl, h2⟩
  have hT := told_take_len (l := l)
  have hzn : (l.length : Int) ≤ 100000000 := by omega
  clear hin
  go_enter Tryz.func161, Tryz.ntmps161
  go_wp2
  go_loopw [8] (fun i wr => ∃ k : Nat, k ≤ l.length ∧ i = .int .i64 k ∧ Lib.IsBuilderF 212 5 w.heap.size w.heap.size (Lib.byteCells (Af.told (l.take k))) wr ∧ Below w.heap.size w wr) (fun i _ => l.length - (intOf i).toNat)
  case atStart => exact ⟨0, Nat.zero_le _, rfl, by simpa [Af.told, Lib.byteCells] using b0, g0⟩
  case round =>
    obtain ⟨k, hk, rfl, hbld, hB⟩ := hrel
    by_cases hlt : k < l.length
    · have c1 : (k : Int) < (l.length : Int) := by omega
      have c0 : (0 : Int) ≤ (k : Int) := by omega
      obtain ⟨g, rfl, hcell⟩ := hR.out wr hB k hlt
      have HA : Hid (Af.told (l.take (k + 1)) = Af.told (l.take k) ++ l[k] ++ [10]) := told_take hlt
      have hA1 := hT (k + 1)
      rw [HA.out] at hA1
      simp only [List.length_append, List.length_cons, List.length_nil] at hA1
      generalize l[k] = x at *
      generalize Af.told (l.take k) = A at *
      go_wp2_with fail
      refine (HW.out A x wr (by omega) hB.size hbld).mono ?_
      rintro e w2 ⟨rfl, B2, h2⟩
      have G2 := hB.trans h2
      have HW2 := HW.out (A ++ x) [10] w2 (by simp; omega) G2.size B2
      go_wp2_with fail
      refine HW2.mono ?_
      rintro e w3 ⟨rfl, B3, h3⟩
      go_wp2
      go_roundw
      case rel => exact ⟨k + 1, by omega, by go_num, by rw [HA.out]; exact B3, G2.trans h3⟩
      case measure => simp [intOf]; omega
    · have c1 : (l.length : Int) ≤ (k : Int) := by omega
      obtain rfl : k = l.length := by omega
      rw [List.take_length] at hbld
      have HS' := HS.out wr hB.size hbld
      go_wp2_with fail
      refine HS'.mono ?_
      rintro e w5 ⟨rfl, g5⟩
      go_wp2
      go_ret
      exact ⟨rfl, hB.trans g5⟩
end Go.Proofs.YtmeplgihnlpjcaaGreatDoor
