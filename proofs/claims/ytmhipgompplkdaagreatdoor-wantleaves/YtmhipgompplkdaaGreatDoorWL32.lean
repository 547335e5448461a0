import Derived.Test.YtmhipgompplkdaaGreatDoorWL30
import Derived.WalkKit
namespace Go.Proofs.YtmhipgompplkdaaGreatDoor
open Go.RowKit Go.Shelf Go.Lib Go.Maps
open Tf (Fs)
structure TErr (w : World) (es : Nat → Value) : Prop where
  bound : w.cell? ⟨4, 0, none⟩ = some (es 2)
  shape : w.cell? ⟨1, 0, none⟩ = some (es 3)
  name : w.cell? ⟨7, 0, none⟩ = some (es 4)
  none6 : w.cell? ⟨2, 0, none⟩ = some (es 6)
  exist : w.cell? ⟨9, 0, none⟩ = some (es 7)
  full : w.cell? ⟨10, 0, none⟩ = some (es 8)
  faces : ∀ k, ∃ t u, es (k + 1) = .iface t u
  nil : es 0 = .nilIface
theorem TErr.below {w w' : World} {es : Nat → Value} (h : TErr w es) (hb : Below w.heap.size w w') : TErr w' es :=
  ⟨cell_below' h.bound hb, cell_below' h.shape hb, cell_below' h.name hb, cell_below' h.none6 hb, cell_below' h.exist hb, cell_below' h.full hb, h.faces, h.nil⟩
theorem invK (key : Value) (kl : Lit) (h : keyOf Tryz.prog 9 key = some kl) : ∃ x, key = encStr x := by
  obtain ⟨x, hx, _⟩ := Maps.keyOf_str Tryz.underlying9 h
  exact ⟨x, hx⟩
theorem invV (v : Value) (y : DataW Unit × List MemPlace) (h : fileElem v = some y) : ∃ c : List UInt8, v = fileV c := by
  obtain ⟨l, rfl, _⟩ := fileElem_inv h
  exact ⟨l, rfl⟩
theorem hasP_of_at {fs : Fs} {x : List UInt8} {y : DataW Unit} (h : ∀ zd, (Tf.datum fs).atKey (.string x) zd = y) : Tf.hasP fs x = true := by
  rw [← Tf.datum_has]
  exact Maps.has_true_of_atKey h
def Clear (fs : Fs) (p : List UInt8) (left : Lit → Bool) : Prop := ∀ f ∈ fs, left (.string f.1) = false → (Tf.above f.1 p || Tf.above p f.1) = false
theorem Clear.start (fs : Fs) (p : List UInt8) : Clear fs p (Maps.has (Tf.datum fs)) := by
  intro f hf h
  rw [Tf.datum_has] at h
  have : Tf.hasP fs f.1 = true := List.any_eq_true.2 ⟨f, hf, by simp⟩
  rw [this] at h
  cases h
theorem Clear.step {fs : Fs} {p x : List UInt8} {left : Lit → Bool} (h : Clear fs p left) (hx : (Tf.above x p || Tf.above p x) = false) : Clear fs p (fun z => left z && !z.sameKey (.string x)) := by
  intro f hf hl
  by_cases e : f.1 = x
  · rw [e]; exact hx
  · refine h f hf ?_
    have : (Lit.string f.1).sameKey (.string x) = false := by simp [Lit.sameKey, e]
    simpa [this] using hl
theorem Clear.done {fs : Fs} {p : List UInt8} {left : Lit → Bool} (h : Clear fs p left) (hl : ∀ kl, left kl = false) : Tf.clash fs p = false := by
  unfold Tf.clash
  rw [List.any_eq_false]
  intro f hf
  have := h f hf (hl _)
  simpa using this
theorem clash_of {fs : Fs} {p x : List UInt8} (hx : Tf.hasP fs x = true) (h : (Tf.above x p || Tf.above p x) = true) : Tf.clash fs p = true := by
  obtain ⟨f, hf, e⟩ := List.any_eq_true.1 hx
  obtain rfl : f.1 = x := by simpa using e
  exact List.any_eq_true.2 ⟨f, hf, h⟩
theorem mayPut_name {B : Nat} {w : World} {tb : Nat} {fs : Fs} {o : Option Nat} {es : Nat → Value} (_h : TreeAt B w tb fs o) (hE : TErr w es) (p b : List UInt8) (hp : p.length ≤ 1000000) (hn : pathB p = false) :
    Calls Tryz.prog 89 #[Ptr tb, .string (ba p), .string (ba b)] w fun e w' => e = .returned (es 4) ∧ Below w.heap.size w w' := by
  obtain ⟨t, u, e4⟩ := hE.faces 3
  have hn4 := hE.name
  rw [e4] at hn4 ⊢
  have HK : Hid (Calls Tryz.prog 143 #[.string (ba p)] w fun e w' => e = .returned (.iface t u) ∧ Below w.heap.size w w') := Check_no p hp hn w t u hn4
  clear hn hE
  go_enter Tryz.func89, Tryz.ntmps89
  go_wp2_with fail
  refine HK.out.mono ?_
  rintro e w1 ⟨rfl, g1⟩
  go_wp2
  go_ret
  exact ⟨rfl, g1⟩
theorem mayPut_bound {B : Nat} {w : World} {tb : Nat} {fs : Fs} {o : Option Nat} {es : Nat → Value} (_h : TreeAt B w tb fs o) (hE : TErr w es) (p b : List UInt8) (hp : p.length ≤ 1000000) (hn : pathB p = true) (hb : 2000 < b.length) :
    Calls Tryz.prog 89 #[Ptr tb, .string (ba p), .string (ba b)] w fun e w' => e = .returned (es 2) ∧ Below w.heap.size w w' := by
  obtain ⟨t, u, e4⟩ := hE.faces 1
  have hn4 := hE.bound
  rw [e4] at hn4 ⊢
  have HK : Hid (Calls Tryz.prog 143 #[.string (ba p)] w fun e w' => e = .returned .nilIface ∧ Below w.heap.size w w') := Check_yes p hp hn w
  have z : (2000 : Int) < (b.length : Int) := by omega
  clear hn hE hb
  go_enter Tryz.func89, Tryz.ntmps89
  go_wp2_with fail
  refine HK.out.mono ?_
  rintro e w1 ⟨rfl, g1⟩
  have hc := cell_below' hn4 g1
  go_wp2
  go_ret
  exact ⟨rfl, g1⟩
set_option maxRecDepth 100000 in
theorem mayPut_there {B : Nat} {w : World} {tb : Nat} {fs : Fs} {o : Option Nat} (h : TreeAt B w tb fs o) (p b : List UInt8) (hp : p.length ≤ 1000000) (hn : pathB p = true) (hb : b.length ≤ 2000) (ht : Tf.hasP fs p = true) :
    Calls Tryz.prog 89 #[Ptr tb, .string (ba p), .string (ba b)] w fun e w' => e = .returned .nilIface ∧ Below w.heap.size w w' := by
  have HK : Hid (Calls Tryz.prog 143 #[.string (ba p)] w fun e w' => e = .returned .nilIface ∧ Below w.heap.size w w') := Check_yes p hp hn w
  have z : (b.length : Int) ≤ 2000 := by omega
  have HL : Hid (∀ w', Below w.heap.size w w' → (Instr.lookup 146 (.map o) (.string (ba p)) true).run Tryz.prog w' = .ok (.tuple #[fileV ((Tf.get fs p).getD []), .bool true]) w') := fun w' g => by
    have := look_tree (h.below g) p hp
    rwa [ht] at this
  have hc := h.cell
  generalize (Tf.get fs p).getD [] = x at *
  clear hn hb ht h
  go_enter Tryz.func89, Tryz.ntmps89
  go_wp2_with fail
  refine HK.out.mono ?_
  rintro e w1 ⟨rfl, g1⟩
  have hl := HL.out w1 g1
  have hc1 := cell_below' hc g1
  go_wp2
  go_ret
  exact ⟨rfl, g1.alloc g1.size _⟩
end Go.Proofs.YtmhipgompplkdaaGreatDoor
namespace Go.Proofs.YtmhipgompplkdaaGreatDoor
open Go.RowKit Go.Shelf Go.Lib Go.Maps
open Tf (Fs)
def newCode (fs : Fs) (p : List UInt8) : Nat := if Tf.clash fs p then 7 else if 60 ≤ fs.length then 8 else 0
set_option maxRecDepth 100000 in
set_option maxHeartbeats 4000000 in
theorem mayPut_new {B : Nat} {w : World} {tb : Nat} {fs : Fs} {bm : Nat} {es : Nat → Value} (h : TreeAt B w tb fs (some bm)) (hE : TErr w es) (hlen : ∀ f ∈ fs, f.1.length ≤ 1000000) (hfew : fs.length ≤ 1000) (p b : List UInt8) (hp : p.length ≤ 1000000) (hn : pathB p = true) (hb : b.length ≤ 2000) (ht : Tf.hasP fs p = false) :
    Calls Tryz.prog 89 #[Ptr tb, .string (ba p), .string (ba b)] w fun e w' => e = .returned (es (newCode fs p)) ∧ Below w.heap.size w w' := by
  have HK : Hid (Calls Tryz.prog 143 #[.string (ba p)] w fun e w' => e = .returned .nilIface ∧ Below w.heap.size w w') := Check_yes p hp hn w
  have z : (b.length : Int) ≤ 2000 := by omega
  have HL : Hid (∀ w', Below w.heap.size w w' → (Instr.lookup 146 (.map (some bm)) (.string (ba p)) true).run Tryz.prog w' = .ok (.tuple #[fileV ((Tf.get fs p).getD []), .bool false]) w') := fun w' g => by
    have := look_tree (h.below g) p hp
    rwa [ht] at this
  have hc := h.cell
  have hm := h.isMap.2.2
  have HA : Hid (∀ (a c : List UInt8), a.length ≤ 1000000 → ∀ W, Calls Tryz.prog 144 #[.string (ba a), .string (ba c)] W fun e w' => e = .returned (.bool (Tf.above a c)) ∧ w' = W) := fun a c ha W => above_calls a c ha W
  generalize (Tf.get fs p).getD [] = x0 at *
  clear hn hb ht h
  go_enter Tryz.func89, Tryz.ntmps89
  go_wp2_with fail
  refine HK.out.mono ?_
  rintro e w1 ⟨rfl, g1⟩
  have hl := HL.out w1 g1
  have hc1 := cell_below' hc g1
  have hm1 := (ownsMap_below hm g1).alloc (.cells #[.string (ba x0)] 150)
  have g2 := g1.alloc g1.size (.cells #[.string (ba x0)] 150)
  have hc2 := cell_below' hc g2
  clear HK HL
  go_wp2_with (first
    | (at_range; refine wpList_range_own _ rfl _ 146 rfl 9 150 klaw Tryz.underlying146 fileElem bm fs.length (Tf.datum fs) rfl hm1 ?_; intro w0 hrg0 hg0 hs0)
    | go_in)
  go_frame
  have g3 : Below w.heap.size w w0 := g2.grown hg0 (by simp; have := g1.size; omega) (fun _ e => by cases e)
  generalize hr : (w1.alloc (.cells #[.string (ba x0)] 150)).heap.size = r at *
  have hrl : w.heap.size ≤ r := by rw [← hr]; simp; have := g1.size; omega
  clear hr hl hm1 g2 hc2 hg0 hs0 hc1
  go_loopw [10] (fun _ wr => ∃ (left : Lit → Bool) (cnt : Nat), wr.ranges Tryz.prog 9 fileElem bm r fs.length (Tf.datum fs) left cnt ∧ Clear fs p left ∧ Below w.heap.size w wr)
    (fun _ wr => wr.rangeLeft bm r)
  case atStart => exact ⟨_, _, hrg0, Clear.start fs p, g3⟩
  case round =>
    obtain ⟨left, cnt, hrg, hcl, hB⟩ := hrel
    have hE' := hE.below hB
    have hc' := cell_below' hc hB
    go_wp2_with (first
      | (at_next; refine wpList_next_ranges _ rfl _ rfl 9 klaw fileElem (fun x : List UInt8 => Value.string (ba x)) (fun c : List UInt8 => fileV c) (fun key kl hk => invK key kl hk) invV bm r fs.length _ _ _ rfl hrg ?_ ?_)
      | go_in)
    · intro _ hl0
      have hclash := hcl.done hl0
      have hfull := hE'.full
      by_cases h60 : 60 ≤ fs.length
      · have e8 : newCode fs p = 8 := by simp [newCode, hclash, h60]
        obtain ⟨t, u, e4⟩ := hE.faces 7
        rw [e4] at hfull
        have z60 : (60 : Int) ≤ ((Maps.size (Tf.datum fs) : Nat) : Int) := by rw [Tf.datum_size]; omega
        go_wp2_with (first
          | (at_len; refine wpList_len_own _ rfl _ 146 rfl 9 150 Tryz.underlying146 fileElem bm fs.length (Tf.datum fs) rfl hrg.owns ?_)
          | go_in)
        go_ret
        exact ⟨congrArg Ending.returned (show Value.iface t u = es (newCode fs p) by rw [e8, e4]), hB⟩
      · have e0 : newCode fs p = 0 := by simp [newCode, hclash, h60]
        have z60 : ((Maps.size (Tf.datum fs) : Nat) : Int) < 60 := by rw [Tf.datum_size]; omega
        go_wp2_with (first
          | (at_len; refine wpList_len_own _ rfl _ 146 rfl 9 150 Tryz.underlying146 fileElem bm fs.length (Tf.datum fs) rfl hrg.owns ?_)
          | go_in)
        go_ret
        exact ⟨congrArg Ending.returned (show Value.nilIface = es (newCode fs p) by rw [e0, hE.nil]), hB⟩
    · intro x c kl yd yp w2 cnt2 hkey hlk hv hat hrg2 hlt hg2 hs2 hen
      obtain ⟨x', ex, rfl, _⟩ := Maps.keyOf_str Tryz.underlying9 hkey
      obtain rfl : x = x' := encStr_inj ex
      have hxs := hasP_of_at hat
      have hxl : x.length ≤ 1000000 := by
        obtain ⟨f, hf, e⟩ := List.any_eq_true.1 hxs
        obtain rfl : f.1 = x := by simpa using e
        exact hlen f hf
      have hB2 : Below w.heap.size w w2 := hB.grown hg2 hB.size (fun j e => by cases e; exact hrl)
      have hex := (hE.below hB2).exist
      have A1 : Hid (∀ W, Calls Tryz.prog 144 #[.string (ba x), .string (ba p)] W fun e w' => e = .returned (.bool (Tf.above x p)) ∧ w' = W) := HA.out x p hxl
      have A2 : Hid (∀ W, Calls Tryz.prog 144 #[.string (ba p), .string (ba x)] W fun e w' => e = .returned (.bool (Tf.above p x)) ∧ w' = W) := HA.out p x hp
      clear hs2 hkey hv ex
      obtain ⟨t, u, e7⟩ := hE.faces 6
      cases a1 : Tf.above x p with
      | true =>
        have hcc := clash_of (p := p) hxs (by simp [a1])
        have e8 : newCode fs p = 7 := by simp [newCode, hcc]
        rw [a1] at A1
        rw [e7] at hex
        clear A2
        go_wp2_with fail
        refine (A1.out _).mono ?_
        rintro e w' ⟨rfl, rfl⟩
        go_wp2
        go_ret
        exact ⟨congrArg Ending.returned (show Value.iface t u = es (newCode fs p) by rw [e8, e7]), hB2⟩
      | false =>
        rw [a1] at A1
        cases a2 : Tf.above p x with
        | true =>
          have hcc := clash_of (p := p) hxs (by simp [a2])
          have e8 : newCode fs p = 7 := by simp [newCode, hcc]
          rw [a2] at A2
          rw [e7] at hex
          go_wp2_with fail
          refine (A1.out _).mono ?_
          rintro e w' ⟨rfl, rfl⟩
          go_wp2_with fail
          refine (A2.out _).mono ?_
          rintro e w' ⟨rfl, rfl⟩
          go_wp2
          go_ret
          exact ⟨congrArg Ending.returned (show Value.iface t u = es (newCode fs p) by rw [e8, e7]), hB2⟩
        | false =>
          rw [a2] at A2
          go_wp2_with fail
          refine (A1.out _).mono ?_
          rintro e w' ⟨rfl, rfl⟩
          go_wp2_with fail
          refine (A2.out _).mono ?_
          rintro e w' ⟨rfl, rfl⟩
          go_wp2
          go_roundw
          case rel => exact ⟨_, cnt2, hrg2, hcl.step (by simp [a1, a2]), hB2⟩
          case measure => rw [hrg2.left_eq, hrg.left_eq]; exact hlt
end Go.Proofs.YtmhipgompplkdaaGreatDoor
namespace Go.Proofs.YtmhipgompplkdaaGreatDoor
open Go.RowKit Go.Shelf Go.Lib Go.Maps
open Tf (Fs)
theorem Put_no {B : Nat} {w : World} {tb : Nat} {fs : Fs} {o : Option Nat} (_h : TreeAt B w tb fs o) (p b : List UInt8) (t : TypeId) (u : Value)
    (HM : Hid (Calls Tryz.prog 89 #[Ptr tb, .string (ba p), .string (ba b)] w fun e w' => e = .returned (.iface t u) ∧ Below w.heap.size w w')) :
    Calls Tryz.prog 20 #[Ptr tb, .string (ba p), .string (ba b)] w fun e w' => e = .returned (.iface t u) ∧ Below w.heap.size w w' := by
  go_enter Tryz.func20, Tryz.ntmps20
  go_wp2_with fail
  refine HM.out.mono ?_
  rintro e w1 ⟨rfl, g1⟩
  go_wp2
  go_ret
  exact ⟨rfl, g1⟩
theorem eq_someMap (bm : Nat) (w : World) : (binOp BinOp.eql 146 (.map (some bm)) (.map none)).run Tryz.prog w = .ok (.bool false) w := by kernel_rfl
theorem eq_noMap (w : World) : (binOp BinOp.eql 146 (.map none) (.map none)).run Tryz.prog w = .ok (.bool true) w := by kernel_rfl
theorem below_turned {B : Nat} {a w w' : World} {bm : Nat} (h : Below B a w) (hsz : B ≤ w.heap.size) (hB : B ≤ bm) (ht : w.mapTurned w' bm) : Below B a w' :=
  h.grown ht.grown hsz (fun j e => by cases e; exact hB)
end Go.Proofs.YtmhipgompplkdaaGreatDoor
namespace Go.Proofs.YtmhipgompplkdaaGreatDoor
open Go.RowKit Go.Shelf Go.Lib Go.Maps
open Tf (Fs)
set_option maxRecDepth 100000 in
set_option maxHeartbeats 2000000 in
theorem mayPut_empty {B : Nat} {w : World} {tb : Nat} {fs : Fs} (h : TreeAt B w tb fs none) (p b : List UInt8) (hp : p.length ≤ 1000000) (hn : pathB p = true) (hb : b.length ≤ 2000) :
    Calls Tryz.prog 89 #[Ptr tb, .string (ba p), .string (ba b)] w fun e w' => e = .returned .nilIface ∧ Below w.heap.size w w' := by
  have HK : Hid (Calls Tryz.prog 143 #[.string (ba p)] w fun e w' => e = .returned .nilIface ∧ Below w.heap.size w w') := Check_yes p hp hn w
  have z : (b.length : Int) ≤ 2000 := by omega
  have hl := fun w' => look_nofile w' p hp
  have hc := h.cell
  clear hn hb h
  go_enter Tryz.func89, Tryz.ntmps89
  go_wp2_with fail
  refine HK.out.mono ?_
  rintro e w1 ⟨rfl, g1⟩
  have hc1 := cell_below' hc g1
  have g2 := g1.alloc g1.size (.cells #[.string (ba [])] 150)
  have hc2 := cell_below' hc g2
  have g3 := g2.alloc g2.size (.mapIter none 0 #[] 0)
  have hc3 := cell_below' hc g3
  have hrg := run_range_nilMap (P := Tryz.prog) (w1.alloc (.cells #[.string (ba [])] 150)) 146 9 150 Tryz.underlying146
  have hnx : ∀ ty, (Instr.next (.pointer (some ⟨(w1.alloc (.cells #[.string (ba [])] 150)).heap.size, 0, none⟩)) false ty).run Tryz.prog ((w1.alloc (.cells #[.string (ba [])] 150)).alloc (.mapIter none 0 #[] 0)) = _ := fun ty => run_next_nilMap (w1.alloc (.cells #[.string (ba [])] 150)) ty 0 0 #[]
  have hln : ∀ W ty, (Builtin.len_ #[146] ty #[.map none]).run Tryz.prog W = .ok (.int .i64 0) W := fun W ty => Maps.len_nil (w := W) Tryz.underlying146 ty
  have e1 : (w1.alloc (.cells #[.string (ba [])] 150)).heap.size = w1.heap.size + 1 := by simp
  rw [e1] at hrg hnx
  clear e1 HK
  go_wp2
  refine wp_loop_rounds 1 ?_
  rw [rounds_succ]
  go_wp2
  go_ret
  exact ⟨rfl, g3⟩
theorem putCode_new (fs : Fs) (p b : List UInt8) (hn : pathB p = true) (hb : b.length ≤ 2000) (ht : Tf.hasP fs p = false) : Tf.putCode pathB fs p b = newCode fs p := by
  unfold Tf.putCode newCode
  rw [if_neg (by simp [hn]), if_neg (by omega), if_neg (by simp [ht])]
theorem mayPut_calls {B : Nat} {w : World} {tb : Nat} {fs : Fs} {o : Option Nat} {es : Nat → Value} (h : TreeAt B w tb fs o) (hE : TErr w es) (hlen : ∀ f ∈ fs, f.1.length ≤ 1000000) (hfew : fs.length ≤ 1000) (p b : List UInt8) (hp : p.length ≤ 1000000) :
    Calls Tryz.prog 89 #[Ptr tb, .string (ba p), .string (ba b)] w fun e w' => e = .returned (es (Tf.putCode pathB fs p b)) ∧ Below w.heap.size w w' := by
  cases hn : pathB p with
  | false =>
    rw [show Tf.putCode pathB fs p b = 4 by simp [Tf.putCode, hn]]
    exact mayPut_name h hE p b hp hn
  | true =>
    rcases Nat.lt_or_ge 2000 b.length with hb | hb
    · rw [show Tf.putCode pathB fs p b = 2 by simp [Tf.putCode, hn, hb]]
      exact mayPut_bound h hE p b hp hn hb
    · cases ht : Tf.hasP fs p with
      | true =>
        rw [show Tf.putCode pathB fs p b = 0 by unfold Tf.putCode; rw [if_neg (by simp [hn]), if_neg (by omega), if_pos ht], hE.nil]
        exact mayPut_there h p b hp hn hb ht
      | false =>
        cases o with
        | none =>
          obtain rfl : fs = [] := h.isMap
          rw [show Tf.putCode pathB [] p b = 0 by rw [putCode_new _ _ _ hn hb ht]; simp [newCode, Tf.clash], hE.nil]
          exact mayPut_empty h p b hp hn hb
        | some bm =>
          rw [putCode_new _ _ _ hn hb ht]
          exact mayPut_new h hE hlen hfew p b hp hn hb ht
end Go.Proofs.YtmhipgompplkdaaGreatDoor
namespace Go.Proofs.YtmhipgompplkdaaGreatDoor
open Go.RowKit Go.Shelf Go.Lib Go.Maps
open Tf (Fs)
structure Kept (S : Nat → Prop) (w w' : World) : Prop where
  size : w.heap.size ≤ w'.heap.size
  block : ∀ j, j < w.heap.size → ¬ S j → w'.heap[j]? = w.heap[j]?
theorem Kept.of {S : Nat → Prop} {w w' : World} (h : Below w.heap.size w w') : Kept S w w' := ⟨h.size, fun j hj _ => h.block j hj⟩
theorem Kept.refl (S : Nat → Prop) (w : World) : Kept S w w := ⟨Nat.le_refl _, fun _ _ _ => rfl⟩
theorem Kept.trans {S : Nat → Prop} {a b c : World} (h : Kept S a b) (g : Kept S b c) : Kept S a c :=
  ⟨Nat.le_trans h.size g.size, fun j hj hs => (g.block j (Nat.lt_of_lt_of_le hj h.size) hs).trans (h.block j hj hs)⟩
theorem Kept.alloc {S : Nat → Prop} {a b : World} (h : Kept S a b) (o : Obj) : Kept S a (b.alloc o) := h.trans (.of ((Below.refl _ b).alloc (Nat.le_refl _) o))
theorem Kept.drew {S : Nat → Prop} {a b : World} (h : Kept S a b) : Kept S a b.drew := h.trans (.of (Below.refl _ b).drew)
theorem Kept.setCell {S : Nat → Prop} {a b : World} (h : Kept S a b) {p : Addr} (hp : S p.block) (v : Value) : Kept S a (b.setCell p v) := by
  refine h.trans ⟨by simp, fun j _ hs => Below.heap_setCell b p v j fun e => hs (e ▸ hp)⟩
theorem Kept.grown {S : Nat → Prop} {a b c : World} {o : Option Nat} (h : Kept S a b) (hg : b.grownBy c o) (ho : ∀ j, o = some j → S j) : Kept S a c :=
  h.trans ⟨hg.size, fun j hj hs => hg.block j hj fun e => hs (ho j e.symm)⟩
theorem Kept.cell {S : Nat → Prop} {w w' : World} (h : Kept S w w') {a : Addr} {u : Value} (hc : w.cell? a = some u) (hs : ¬ S a.block) : w'.cell? a = some u :=
  (World.cell?_of_block (h.block a.block (lt_of_cell hc) hs)).trans hc
def tS (tb : Nat) (o : Option Nat) : Nat → Prop := fun j => j = tb ∨ o = some j
theorem TreeAt.kept {B : Nat} {w w' : World} {tb : Nat} {fs : Fs} {o : Option Nat} {S : Nat → Prop} (h : TreeAt B w tb fs o) (hk : Kept S w w') (h1 : ¬ S tb) (h2 : ∀ j, o = some j → ¬ S j) : TreeAt B w' tb fs o := by
  have hbk := hk.block tb h.lt h1
  refine ⟨h.low, (World.cell?_of_block (a := ⟨tb, 0, none⟩) hbk).trans h.cell, (World.frozen?_of_block (a := ⟨tb, 0, none⟩) hbk).trans h.free, ?_⟩
  cases o with
  | none => exact h.isMap
  | some bm =>
    refine ⟨h.isMap.1, h.isMap.2.1, ?_⟩
    have hm := h.isMap.2.2
    have hlt := hm.lt
    obtain ⟨es, clock, e1, F, hs, hD⟩ := hm
    exact ⟨es, clock, (hk.block bm hlt (h2 bm rfl)).trans e1, F, hs, hD⟩
def OldNew (w : World) (o o' : Option Nat) : Prop := o' = o ∨ ∃ j, o' = some j ∧ w.heap.size ≤ j
set_option maxRecDepth 100000 in
set_option maxHeartbeats 2000000 in
theorem PutK_some {B : Nat} {w : World} {tb : Nat} {fs : Fs} {bm : Nat} (h : TreeAt B w tb fs (some bm)) (p b : List UInt8) (hp : p.length ≤ 1000000) (hfew : fs.length ≤ 1000)
    (HM : Hid (Calls Tryz.prog 89 #[Ptr tb, .string (ba p), .string (ba b)] w fun e w' => e = .returned .nilIface ∧ Below w.heap.size w w')) :
    Calls Tryz.prog 20 #[Ptr tb, .string (ba p), .string (ba b)] w fun e w' => e = .returned .nilIface ∧ (TreeAt B w' tb (Tf.put fs p b) (some bm)) ∧ Below B w w' ∧ Kept (tS tb (some bm)) w w' := by
  have hlt := h.lt
  go_enter Tryz.func20, Tryz.ntmps20
  go_wp2_with fail
  refine HM.out.mono ?_
  rintro e w1 ⟨rfl, g1⟩
  have h1 := h.below g1
  have hc := h1.cell
  have hm := h1.isMap.2.2
  have hq := eq_someMap bm
  go_wp2_with (first
    | (at_mapUpdate; refine wpList_mapUpdate_in _ rfl _ _ _ 146 rfl 9 150 klaw Tryz.underlying146 fileElem bm fs.length (Tf.datum fs) rfl hm (by unfold maxLen; omega) _ _ _ rfl rfl (kkey p hp) _ [] (fileElem_mk b) ?_; intro w2 hown2 hturn2; go_frame)
    | go_in)
  go_wp2
  go_ret
  rw [Tf.datum_put] at hown2
  have hne : some tb ≠ some bm := fun e => h.isMap.2.1 (Option.some.inj e).symm
  have hbk := hturn2.grown.block tb h1.lt hne
  refine ⟨rfl, ⟨h.low, (World.cell?_of_block (a := ⟨tb, 0, none⟩) hbk).trans hc, (World.frozen?_of_block (a := ⟨tb, 0, none⟩) hbk).trans h1.free, h.isMap.1, h.isMap.2.1, ownsMap_tight hown2⟩, ?_⟩
  exact ⟨below_turned (g1.mono (by have := h.low; omega)) (by have := h.low; have := g1.size; omega) h.isMap.1 hturn2, (Kept.of g1).grown hturn2.grown fun j e => .inr (by rw [e])⟩
set_option maxRecDepth 100000 in
set_option maxHeartbeats 2000000 in
theorem PutK_none {B : Nat} {w : World} {tb : Nat} {fs : Fs} (h : TreeAt B w tb fs none) (p b : List UInt8) (hp : p.length ≤ 1000000)
    (HM : Hid (Calls Tryz.prog 89 #[Ptr tb, .string (ba p), .string (ba b)] w fun e w' => e = .returned .nilIface ∧ Below w.heap.size w w')) :
    Calls Tryz.prog 20 #[Ptr tb, .string (ba p), .string (ba b)] w fun e w' => e = .returned .nilIface ∧ (∃ bm, w.heap.size ≤ bm ∧ TreeAt B w' tb (Tf.put fs p b) (some bm)) ∧ Below B w w' ∧ Kept (tS tb none) w w' := by
  have hlt := h.lt
  obtain rfl : fs = [] := h.isMap
  have hmm := @run_makeMap Tryz.prog
  go_enter Tryz.func20, Tryz.ntmps20
  go_wp2_with fail
  refine HM.out.mono ?_
  rintro e w1 ⟨rfl, g1⟩
  have h1 := h.below g1
  have hc := h1.cell
  have hf := h1.free
  have hq := eq_noMap
  have htb := h1.lt
  have eS : (w1.setCell ⟨tb, 0, none⟩ (.map (some w1.heap.size))).heap.size = w1.heap.size := by simp
  have gA : Below w1.heap.size (w1.setCell ⟨tb, 0, none⟩ (.map (some w1.heap.size))) ((w1.setCell ⟨tb, 0, none⟩ (.map (some w1.heap.size))).alloc (.map #[] 0)) := (Below.refl _ _).alloc (by simp) _
  have hcS : ((w1.setCell ⟨tb, 0, none⟩ (.map (some w1.heap.size))).alloc (.map #[] 0)).cell? ⟨tb, 0, none⟩ = some (.map (some w1.heap.size)) :=
    (gA.cell (p := ⟨tb, 0, none⟩) htb).trans (World.cell?_setCell_same' _ _ _ (by rw [hc]; rfl))
  have hfS : Hid (((w1.setCell ⟨tb, 0, none⟩ (.map (some w1.heap.size))).alloc (.map #[] 0)).frozen? ⟨tb, 0, none⟩ = false) :=
    (gA.frozen (p := ⟨tb, 0, none⟩) htb).trans (by rw [World.frozen?_setCell]; exact hf)
  have Hm0 : Hid (((w1.setCell ⟨tb, 0, none⟩ (.map (some w1.heap.size))).alloc (.map #[] 0)).ownsMap Tryz.prog 9 fileElem w1.heap.size 0 (Tf.datum [])) := by
    have := World.ownsMap_made (w1.setCell ⟨tb, 0, none⟩ (.map (some w1.heap.size))) Tryz.prog 9 fileElem
    rw [eS] at this
    exact this
  have gS : Hid (Below B w ((w1.setCell ⟨tb, 0, none⟩ (.map (some w1.heap.size))).alloc (.map #[] 0))) := ((g1.mono (by have := h.low; omega)).setCell (p := ⟨tb, 0, none⟩) h.low _).alloc (by rw [eS]; have := h.low; have := g1.size; omega) _
  have gK : Hid (Kept (tS tb none) w ((w1.setCell ⟨tb, 0, none⟩ (.map (some w1.heap.size))).alloc (.map #[] 0))) := ((Kept.of g1).setCell (p := ⟨tb, 0, none⟩) (.inl rfl) _).alloc _
  have hw1 : Hid (w.heap.size ≤ w1.heap.size) := g1.size
  clear eS gA
  go_wp2_with (first
    | (at_mapUpdate; refine wpList_mapUpdate_in _ rfl _ _ _ 146 rfl 9 150 klaw Tryz.underlying146 fileElem w1.heap.size 0 (Tf.datum []) rfl Hm0.out (by unfold maxLen; omega) _ _ _ rfl rfl (kkey p hp) _ [] (fileElem_mk b) ?_; intro w2 hown2 hturn2; go_frame)
    | go_in)
  go_wp2
  go_ret
  rw [Tf.datum_put] at hown2
  have hne : some tb ≠ some w1.heap.size := fun e => by have := Option.some.inj e; omega
  have hbk := hturn2.grown.block tb (by simp; omega) hne
  refine ⟨rfl, ⟨w1.heap.size, hw1.out, h.low, (World.cell?_of_block (a := ⟨tb, 0, none⟩) hbk).trans hcS, (World.frozen?_of_block (a := ⟨tb, 0, none⟩) hbk).trans hfS.out, by have := h.low; omega, by omega, ownsMap_tight hown2⟩, ?_⟩
  refine ⟨below_turned gS.out (by have := h.low; simp; omega) (by have := h.low; omega) hturn2, ⟨Nat.le_trans gK.out.size hturn2.grown.size, fun j hj hs => ?_⟩⟩
  exact (hturn2.grown.block j (Nat.lt_of_lt_of_le hj gK.out.size) fun e => by have := Option.some.inj e; have := hw1.out; omega).trans (gK.out.block j hj hs)
theorem PutK_calls {B : Nat} {w : World} {tb : Nat} {fs : Fs} {o : Option Nat} {es : Nat → Value} (h : TreeAt B w tb fs o) (hE : TErr w es) (hlen : ∀ f ∈ fs, f.1.length ≤ 1000000) (hfew : fs.length ≤ 1000) (p b : List UInt8) (hp : p.length ≤ 1000000) :
    Calls Tryz.prog 20 #[Ptr tb, .string (ba p), .string (ba b)] w fun e w' => e = .returned (es (Tf.putCode pathB fs p b)) ∧ (∃ o', OldNew w o o' ∧ TreeAt B w' tb (Tf.putF pathB fs p b) o') ∧ Below B w w' ∧ Kept (tS tb o) w w' := by
  have HM := mayPut_calls h hE hlen hfew p b hp
  have hBw : B ≤ w.heap.size := by have := h.low; have := h.lt; omega
  cases hc : Tf.putCode pathB fs p b with
  | zero =>
    rw [hc, hE.nil] at HM
    rw [hE.nil, show Tf.putF pathB fs p b = Tf.put fs p b by simp [Tf.putF, hc]]
    cases o with
    | none => exact (PutK_none h p b hp HM).mono fun e w' ⟨h1, ⟨bm, hb, h2⟩, h3⟩ => ⟨h1, ⟨_, .inr ⟨bm, rfl, hb⟩, h2⟩, h3⟩
    | some bm => exact (PutK_some h p b hp hfew HM).mono fun e w' ⟨h1, h2, h3⟩ => ⟨h1, ⟨_, .inl rfl, h2⟩, h3⟩
  | succ k =>
    obtain ⟨t, u, e⟩ := hE.faces k
    rw [hc, e] at HM
    rw [e, show Tf.putF pathB fs p b = fs by simp [Tf.putF, hc]]
    exact (Put_no h p b t u HM).mono fun e w' ⟨h1, h2⟩ => ⟨h1, ⟨_, .inl rfl, h.below h2⟩, h2.mono hBw, .of h2⟩
end Go.Proofs.YtmhipgompplkdaaGreatDoor
