/- The walk of package act's linesWith; Run of head and lines. -/
import Derived.Test.YtigcogfjclohjaaGreatDoorAWith
namespace Go.Proofs.YtigcogfjclohjaaGreatDoor
open Go.RowKit Go.Shelf Go.Lib
open Go.Sort (grow Holds putRow)

set_option maxRecDepth 100000 in
set_option maxHeartbeats 4000000 in
theorem linesWith_calls (wd s : List UInt8) (hs : s.length ≤ 100000) (m : Int) (w : World) (hm : w.cell? ⟨14, 0, none⟩ = some (.int .i64 m)) (hbig : 20 < w.heap.size) :
    Calls Tryz.prog 106 #[.string (ba wd), .string (ba s)] w fun e w' => e = .returned (.string (ba (Af.told (Af.withW wd (Af.lines s))))) ∧ Below w.heap.size w w' := by
  have g0 : Below w.heap.size w (w.alloc (.cells #[.string (ba wd)] 9)) := (Below.refl _ w).alloc (Nat.le_refl _) _
  have hs0 : (w.alloc (.cells #[.string (ba wd)] 9)).heap.size = w.heap.size + 1 := by simp
  have c0 : (w.alloc (.cells #[.string (ba wd)] 9)).cell? ⟨w.heap.size, 0, none⟩ = some (.string (ba wd)) := by
    rw [World.cell?_alloc_at _ _ _ _ rfl]; rfl
  have m0 := cell_below' hm g0
  have HL := hid1 (linesOf_calls s (by omega) m _ m0)
  have hL : ∀ x ∈ Af.lines s, x.length ≤ 1000000 := fun x h => by have := Af.line_len h; omega
  have hll := Af.lines_len s
  have hlen : (Af.told (Af.withW wd (Af.lines s))).length ≤ 100000000 := by
    have h1 := withW_len wd (Af.lines s)
    have h2 := (Af.told_lines_len s).2
    omega
  generalize Af.lines s = L at *
  go_enter Tryz.func106, Tryz.ntmps106
  go_wp2_with fail
  refine Calls.mono HL.out ?_
  rintro e w2 ⟨v, rfl, ⟨g, cap, cur, rfl, hg0, hcap, hblk, hcur⟩, g2⟩
  rw [hs0] at hg0 g2
  have G2 : Below w.heap.size w w2 := g0.trans (g2.mono (by omega))
  have hw2 : w.heap.size + 1 ≤ w2.heap.size := by have := g2.size; rw [hs0] at this; exact this
  have HD := hid1 (delete_calls wd L hL (by omega) w.heap.size g cap cur w2 m ((cell_below2 g2 (by omega)).trans c0) ((cell_below2 g2 (by omega)).trans m0) (by omega) (by omega) (by omega) (by omega) hcap hblk hcur w.heap.size (by omega) (by omega))
  clear HL c0 m0 hm g0
  go_wp2_with fail
  refine Calls.mono HD.out ?_
  rintro e w3 ⟨v3, rfl, hr, g3⟩
  have G3 := G2.trans g3
  have HT := hid1 (told_calls v3 _ w3 hr hlen)
  clear HD
  go_wp2_with fail
  refine Calls.mono HT.out ?_
  rintro e w4 ⟨rfl, g4⟩
  go_wp2
  go_ret
  exact ⟨rfl, G3.trans (g4.mono G3.size)⟩

theorem trow_one {w W : World} {pa : Option Addr} {n cap : Nat} {x : List UInt8} (h : TRow w (.slice pa n cap) [x]) (hW : Below w.heap.size w W) : ∃ g, pa = some ⟨g, 0, none⟩ ∧ n = 1 ∧ W.cell? ⟨g, 0, none⟩ = some (.string (ba x)) ∧ g < W.heap.size := by
  obtain ⟨p, c, e, h1, h2⟩ := h.below hW
  obtain ⟨g, cur, rfl, hg, hcur⟩ := h2 (by simp)
  simp only [Value.slice.injEq, List.length_cons, List.length_nil] at e
  exact ⟨g, e.1, e.2.1, cell_of_row hg (hcur 0 (by simp)), (Array.getElem?_eq_some_iff.1 hg).1⟩

theorem Run_lines {w : World} {es el : Value} (hA : AW w es el) (wd : List UInt8) (hwd : wd.length ≤ 100) (v : Value) (x : List UInt8) (hrow : TRow w v [x]) (hx : x.length ≤ 10000) :
    Calls Tryz.prog 28 #[.string ⟨#[108, 105, 110, 101, 115]⟩, .string (ba wd), v] w fun e w' => e = .returned (told2 el (Af.told (Af.withW wd (Af.lines x)))) ∧ Below w.heap.size w w' := by
  obtain ⟨m, hm⟩ := hA.len
  have hbig := hA.big
  obtain ⟨pa, cap, rfl, hcap, hin⟩ := hrow
  have hrow : TRow w (.slice pa [x].length cap) [x] := ⟨pa, cap, rfl, hcap, hin⟩
  have hf := find_good ⟨#[108, 105, 110, 101, 115]⟩ (ba wd) (([x].length : Nat) : Int) 1 1 98 142 #[] #[.pointer (some ⟨w.heap.size + 1 + 1 + 3, 0, none⟩)] true es el w hA.shape hA.long hA.big 3 rfl (enters_of Tryz.func98 (by kernel_rfl) rfl)
    (hid1 fun W _ _ => anyWord_calls (ba wd) W) ⟨by simp, by simp, rfl, by rw [ba_size]; exact hwd⟩
  refine Run_good ⟨#[108, 105, 110, 101, 115]⟩ (ba wd) pa [x].length cap 1 1 _ 142 _ (ba (Af.told (Af.withW wd (Af.lines x)))) el w hA.long hA.big ⟨_, _, rfl⟩ (enters_of Tryz.func142 (by kernel_rfl) rfl) (hid1 hf)
    (hid1 fun W hW hO => ?_)
  obtain ⟨g, rfl, _, hc, hg⟩ := trow_one hrow hW
  have hb := objs_cell (i := 3) (j := 0) hO rfl rfl
  refine ofOne_calls (ba wd) _ x 106 (w.heap.size + 1 + 1 + 3) g 1 cap W hb hc ?_ hg (by omega) (enters_of Tryz.func106 (by kernel_rfl) rfl)
    (hid1 fun V hV => linesWith_calls wd x (by omega) m V (cell_below' (cell_below' hm hW) hV) (by have := hW.size; have := hV.size; omega))
  exact (Array.getElem?_eq_some_iff.1 (hO 3 (by simp [kindsO]))).1

theorem Run_head {w : World} {es el : Value} (hA : AW w es el) (hS : SynAt w) (wd : List UInt8) (n : Nat) (hwd : numM 3 wd = some n) (v : Value) (x : List UInt8) (hrow : TRow w v [x]) (hx : x.length ≤ 10000) :
    Calls Tryz.prog 28 #[.string ⟨#[104, 101, 97, 100]⟩, .string (ba wd), v] w fun e w' => e = .returned (told2 el (Af.told ((Af.lines x).take n))) ∧ Below w.heap.size w w' := by
  obtain ⟨m, hm⟩ := hA.len
  have hbig := hA.big
  have hw3 := (numM_some hwd).1
  obtain ⟨pa, cap, rfl, hcap, hin⟩ := hrow
  have hrow : TRow w (.slice pa [x].length cap) [x] := ⟨pa, cap, rfl, hcap, hin⟩
  have hf := find_good ⟨#[104, 101, 97, 100]⟩ (ba wd) (([x].length : Nat) : Int) 1 1 112 142 #[] #[.pointer (some ⟨w.heap.size + 1 + 1 + 9, 0, none⟩)] (numM 3 wd).isSome es el w hA.shape hA.long hA.big 7 rfl (enters_of Tryz.func112 (by kernel_rfl) rfl)
    (hid1 fun W hW _ => isMany_calls wd (by omega) W (pow_below hA.pow hW) (hS.below hW)) ⟨by simp, by simp, by rw [hwd]; rfl, by rw [ba_size]; omega⟩
  refine Run_good ⟨#[104, 101, 97, 100]⟩ (ba wd) pa [x].length cap 1 1 _ 142 _ (ba (Af.told ((Af.lines x).take n))) el w hA.long hA.big ⟨_, _, rfl⟩ (enters_of Tryz.func142 (by kernel_rfl) rfl) (hid1 hf)
    (hid1 fun W hW hO => ?_)
  obtain ⟨g, rfl, _, hc, hg⟩ := trow_one hrow hW
  have hb := objs_cell (i := 9) (j := 0) hO rfl rfl
  refine ofOne_calls (ba wd) _ x 113 (w.heap.size + 1 + 1 + 9) g 1 cap W hb hc ?_ hg (by omega) (enters_of Tryz.func113 (by kernel_rfl) rfl)
    (hid1 fun V hV => head_calls wd x n hwd (by omega) m V (cell_below' (cell_below' hm hW) hV) (pow_below (pow_below hA.pow hW) hV))
  exact (Array.getElem?_eq_some_iff.1 (hO 9 (by simp [kindsO]))).1
end Go.Proofs.YtigcogfjclohjaaGreatDoor
