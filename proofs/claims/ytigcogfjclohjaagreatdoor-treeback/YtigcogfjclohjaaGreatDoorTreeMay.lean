/- The walk of package tree's mayPut at a path that is not there: it looks at every file. -/
import Derived.Test.YtigcogfjclohjaaGreatDoorTreePut
import Derived.WalkKit
namespace Go.Proofs.YtigcogfjclohjaaGreatDoor
open Go.RowKit Go.Shelf Go.Lib Go.Maps
open Tf (Fs)

def newCode (fs : Fs) (p : List UInt8) : Nat := if Tf.clash fs p then 7 else if 60 ≤ fs.length then 8 else 0

set_option maxRecDepth 100000 in
set_option maxHeartbeats 4000000 in
theorem mayPut_new {B : Nat} {w : World} {tb : Nat} {fs : Fs} {bm : Nat} {es : Nat → Value} (h : TreeAt B w tb fs (some bm)) (hE : TErr w es) (hlen : ∀ f ∈ fs, f.1.length ≤ 1000000) (hfew : fs.length ≤ 1000) (p b : List UInt8) (hp : p.length ≤ 1000000) (hn : pathB p = true) (hb : b.length ≤ 2000) (ht : Tf.hasP fs p = false) :
    Calls Tryz.prog 45 #[Ptr tb, .string (ba p), .string (ba b)] w fun e w' => e = .returned (es (newCode fs p)) ∧ Below w.heap.size w w' := by
  have HK : Hid (Calls Tryz.prog 62 #[.string (ba p)] w fun e w' => e = .returned .nilIface ∧ Below w.heap.size w w') := Check_yes p hp hn w
  have z : (b.length : Int) ≤ 2000 := by omega
  have HL : Hid (∀ w', Below w.heap.size w w' → (Instr.lookup 86 (.map (some bm)) (.string (ba p)) true).run Tryz.prog w' = .ok (.tuple #[fileV ((Tf.get fs p).getD []), .bool false]) w') := fun w' g => by
    have := look_tree (h.below g) p hp
    rwa [ht] at this
  have hc := h.cell
  have hm := h.isMap.2.2
  have HA : Hid (∀ (a c : List UInt8), a.length ≤ 1000000 → ∀ W, Calls Tryz.prog 63 #[.string (ba a), .string (ba c)] W fun e w' => e = .returned (.bool (Tf.above a c)) ∧ w' = W) := fun a c ha W => above_calls a c ha W
  generalize (Tf.get fs p).getD [] = x0 at *
  clear hn hb ht h
  go_enter Tryz.func45, Tryz.ntmps45
  go_wp2_with fail
  refine HK.out.mono ?_
  rintro e w1 ⟨rfl, g1⟩
  have hl := HL.out w1 g1
  have hc1 := cell_below' hc g1
  have hm1 := (ownsMap_below hm g1).alloc (.cells #[.string (ba x0)] 90)
  have g2 := g1.alloc g1.size (.cells #[.string (ba x0)] 90)
  have hc2 := cell_below' hc g2
  clear HK HL
  go_wp2_with (first
    | (at_range; refine wpList_range_own _ rfl _ 86 rfl 9 90 klaw Tryz.underlying86 fileElem bm fs.length (Tf.datum fs) rfl hm1 ?_; intro w0 hrg0 hg0 hs0)
    | go_in)
  go_frame
  have g3 : Below w.heap.size w w0 := g2.grown hg0 (by simp; have := g1.size; omega) (fun _ e => by cases e)
  generalize hr : (w1.alloc (.cells #[.string (ba x0)] 90)).heap.size = r at *
  have hrl : w.heap.size ≤ r := by rw [← hr]; simp; have := g1.size; omega
  clear hr hl hm1 g2 hc2 hg0 hs0 hc1
  go_loopw [10] (fun _ wr => ∃ (left : Lit → Bool) (cnt : Nat), wr.ranges Tryz.prog 9 fileElem bm r fs.length (Tf.datum fs) left cnt ∧ Clear fs p left ∧ Below w.heap.size w wr)
    (fun _ wr => wr.rangeLeft bm r)
  case atStart => exact ⟨_, _, hrg0, Clear.start fs p, g3⟩
  case round =>
    obtain ⟨left, cnt, hrg, hcl, hB⟩ := hrel
    have hE' := hE.below hB
    have hc' := cell_below' hc hB
    go_wp2_with (first
      | (at_next; refine wpList_next_ranges _ rfl _ rfl 9 klaw fileElem (fun x : List UInt8 => Value.string (ba x)) (fun c : List UInt8 => fileV c) (fun key kl hk => invK key kl hk) invV bm r fs.length _ _ _ rfl hrg ?_ ?_)
      | go_in)
    · intro _ hl0
      have hclash := hcl.done hl0
      have hfull := hE'.full
      by_cases h60 : 60 ≤ fs.length
      · have e8 : newCode fs p = 8 := by simp [newCode, hclash, h60]
        obtain ⟨t, u, e4⟩ := hE.faces 7
        rw [e4] at hfull
        have z60 : (60 : Int) ≤ ((Maps.size (Tf.datum fs) : Nat) : Int) := by rw [Tf.datum_size]; omega
        go_wp2_with (first
          | (at_len; refine wpList_len_own _ rfl _ 86 rfl 9 90 Tryz.underlying86 fileElem bm fs.length (Tf.datum fs) rfl hrg.owns ?_)
          | go_in)
        go_ret
        exact ⟨congrArg Ending.returned (show Value.iface t u = es (newCode fs p) by rw [e8, e4]), hB⟩
      · have e0 : newCode fs p = 0 := by simp [newCode, hclash, h60]
        have z60 : ((Maps.size (Tf.datum fs) : Nat) : Int) < 60 := by rw [Tf.datum_size]; omega
        go_wp2_with (first
          | (at_len; refine wpList_len_own _ rfl _ 86 rfl 9 90 Tryz.underlying86 fileElem bm fs.length (Tf.datum fs) rfl hrg.owns ?_)
          | go_in)
        go_ret
        exact ⟨congrArg Ending.returned (show Value.nilIface = es (newCode fs p) by rw [e0, hE.nil]), hB⟩
    · intro x c kl yd yp w2 cnt2 hkey hlk hv hat hrg2 hlt hg2 hs2 hen
      obtain ⟨x', ex, rfl, _⟩ := Maps.keyOf_str Tryz.underlying9 hkey
      obtain rfl : x = x' := encStr_inj ex
      have hxs := hasP_of_at hat
      have hxl : x.length ≤ 1000000 := by
        obtain ⟨f, hf, e⟩ := List.any_eq_true.1 hxs
        obtain rfl : f.1 = x := by simpa using e
        exact hlen f hf
      have hB2 : Below w.heap.size w w2 := hB.grown hg2 hB.size (fun j e => by cases e; exact hrl)
      have hex := (hE.below hB2).exist
      have A1 : Hid (∀ W, Calls Tryz.prog 63 #[.string (ba x), .string (ba p)] W fun e w' => e = .returned (.bool (Tf.above x p)) ∧ w' = W) := HA.out x p hxl
      have A2 : Hid (∀ W, Calls Tryz.prog 63 #[.string (ba p), .string (ba x)] W fun e w' => e = .returned (.bool (Tf.above p x)) ∧ w' = W) := HA.out p x hp
      clear hs2 hkey hv ex
      obtain ⟨t, u, e7⟩ := hE.faces 6
      cases a1 : Tf.above x p with
      | true =>
        have hcc := clash_of (p := p) hxs (by simp [a1])
        have e8 : newCode fs p = 7 := by simp [newCode, hcc]
        rw [a1] at A1
        rw [e7] at hex
        clear A2
        go_wp2_with fail
        refine (A1.out _).mono ?_
        rintro e w' ⟨rfl, rfl⟩
        go_wp2
        go_ret
        exact ⟨congrArg Ending.returned (show Value.iface t u = es (newCode fs p) by rw [e8, e7]), hB2⟩
      | false =>
        rw [a1] at A1
        cases a2 : Tf.above p x with
        | true =>
          have hcc := clash_of (p := p) hxs (by simp [a2])
          have e8 : newCode fs p = 7 := by simp [newCode, hcc]
          rw [a2] at A2
          rw [e7] at hex
          go_wp2_with fail
          refine (A1.out _).mono ?_
          rintro e w' ⟨rfl, rfl⟩
          go_wp2_with fail
          refine (A2.out _).mono ?_
          rintro e w' ⟨rfl, rfl⟩
          go_wp2
          go_ret
          exact ⟨congrArg Ending.returned (show Value.iface t u = es (newCode fs p) by rw [e8, e7]), hB2⟩
        | false =>
          rw [a2] at A2
          go_wp2_with fail
          refine (A1.out _).mono ?_
          rintro e w' ⟨rfl, rfl⟩
          go_wp2_with fail
          refine (A2.out _).mono ?_
          rintro e w' ⟨rfl, rfl⟩
          go_wp2
          go_roundw
          case rel => exact ⟨_, cnt2, hrg2, hcl.step (by simp [a1, a2]), hB2⟩
          case measure => rw [hrg2.left_eq, hrg.left_eq]; exact hlt
end Go.Proofs.YtigcogfjclohjaaGreatDoor
