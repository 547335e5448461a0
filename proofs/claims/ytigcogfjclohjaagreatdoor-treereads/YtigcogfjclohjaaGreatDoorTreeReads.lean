/- The walk of TreeReads. -/
import Derived.Test.YtigcogfjclohjaaGreatDoorTreeRead7
import Derived.Test.YtigcogfjclohjaaGreatDoorRTreeOf1
import Derived.Test.YtigcogfjclohjaaGreatDoorRText
import Derived.Test.YtigcogfjclohjaaGreatDoorCoded
import Derived.Test.YtigcogfjclohjaaGreatDoorTreeSame
namespace Go.Proofs.YtigcogfjclohjaaGreatDoor
open Go.RowKit Go.Shelf Go.Lib Go.Maps
open Tf (Fs)

set_option maxRecDepth 100000 in
set_option maxHeartbeats 4000000 in
theorem TreeReads_calls (s : List UInt8) (w : World) (es : Nat → Addr) (hE : E12 w es) (hP : Pow w) (m : Int) (hm : MaxAt w m) (hS : SynAt w) :
    Calls Tryz.prog 3 #[.string (ba s)] w fun e w' => e = .returned (.bool true) ∧ Below w.heap.size w w' := by
  have HT : Hid (Calls Tryz.prog 9 #[] w fun e w' => e = .returned (.bool true) ∧ Below w.heap.size w w') := treed_calls w _ hE.terr hP
  rcases Nat.lt_or_ge 3000 s.length with hs | hs
  · have z : (3000 : Int) < (s.length : Int) := by omega
    clear hE hP hm hS
    go_enter Tryz.func3, Tryz.ntmps3
    go_wp2_with fail
    refine HT.out.mono ?_
    rintro e w1 ⟨rfl, g1⟩
    go_wp2
    go_ret
    exact ⟨rfl, g1⟩
  have z : (s.length : Int) ≤ 3000 := by omega
  have HR : Hid (∀ W, Below w.heap.size w W → Calls Tryz.prog 10 #[.string (ba s)] W fun e w' => ((Tf.codeT pathB s ≠ 0 ∧ e = .returned (.tuple #[.pointer none, erOf es (Tf.codeT pathB s)])) ∨
      (Tf.codeT pathB s = 0 ∧ ∃ tb o fs, e = .returned (.tuple #[Ptr tb, .nilIface]) ∧ TreeAt W.heap.size w' tb fs o ∧ Tf.Well pathB fs ∧ Tf.textT fs = s)) ∧ Below W.heap.size W w') := fun W hW =>
    Read_calls s hs m W _ (hE.below hW).terr (pow_below hP hW) (cell_below' hm hW) (hS.below hW)
  have HO : Hid (∀ W, Calls Tryz.prog 11 #[.string (ba s)] W fun e w' => ((Tf.codeT pathB s ≠ 0 ∧ e = .returned (.tuple #[.pointer none, .int .i64 (Tf.codeT pathB s)])) ∨
      (Tf.codeT pathB s = 0 ∧ ∃ tb v fs, e = .returned (.tuple #[Ptr tb, .int .i64 0]) ∧ RTreeAt W.heap.size w' tb fs v ∧ Tf.Well pathB fs ∧ Tf.textT fs = s)) ∧ Below W.heap.size W w') := fun W => TreeOf_calls s hs W
  have HC : Hid (∀ W, Below w.heap.size w W → Calls Tryz.prog 12 #[erOf es (Tf.codeT pathB s), .int .i64 (Tf.codeT pathB s : Int)] W fun e w' => e = .returned (.bool true) ∧ Below W.heap.size W w') := fun W hW =>
    coded_er _ (Tf.codeT_le pathB s) es W (hE.below hW)
  have HX : Hid (∀ (B tb : Nat) (fs : Fs) (o : Option Nat) W, Below w.heap.size w W → TreeAt B W tb fs o → Tf.Well pathB fs → Tf.textT fs = s → Calls Tryz.prog 13 #[Ptr tb] W fun e w' => e = .returned (.string (ba s)) ∧ Below W.heap.size W w') := fun B tb fs o W hW hT hw he => by
    have := Text_calls hT (pow_below hP hW) hw.rises (by have := hw.few; omega) (fun f hf => ⟨by have := well_len hw f hf; omega, (hw.each f hf).2⟩)
    rwa [he] at this
  have HM : Hid (∀ (B tb : Nat) (fs : Fs) (v : Value) W, RTreeAt B W tb fs v → Tf.Well pathB fs → Tf.textT fs = s → Calls Tryz.prog 14 #[Ptr tb] W fun e w' => e = .returned (.string (ba s)) ∧ Below W.heap.size W w') := fun B tb fs v W hT hw he => by
    have := rText_calls hT hw
    rwa [he] at this
  clear hE hP hm hS
  generalize Tf.codeT pathB s = c at *
  go_enter Tryz.func3, Tryz.ntmps3
  go_wp2_with fail
  refine HT.out.mono ?_
  rintro e w1 ⟨rfl, g1⟩
  go_wp2_with fail
  refine (HR.out w1 g1).mono ?_
  rintro e w2 ⟨hres, g2'⟩
  have g2 := g1.trans (g2'.mono g1.size)
  rcases hres with ⟨hc, rfl⟩ | ⟨hc, tb, o, fs, rfl, hT, hw, htx⟩
  · have hc0 : (0 : Int) < (c : Int) := by omega
    clear HX HM HT HR
    go_wp2_with fail
    refine (HO.out w2).mono ?_
    rintro e w3 ⟨hres, g3'⟩
    have g3 := g2.trans (g3'.mono g2.size)
    rcases hres with ⟨_, rfl⟩ | ⟨h0, _⟩
    · have HC' := HC.out w3 g3
      generalize erOf es c = ev at *
      go_wp2_with fail
      refine HC'.mono ?_
      rintro e w4 ⟨rfl, g4⟩
      go_wp2
      go_ret
      exact ⟨rfl, g3.trans (g4.mono g3.size)⟩
    · exact absurd h0 hc
  · subst hc
    go_wp2_with fail
    refine (HO.out w2).mono ?_
    rintro e w3 ⟨hres, g3'⟩
    have g3 := g2.trans (g3'.mono g2.size)
    have hT3 := hT.below g3'
    rcases hres with ⟨h0, _⟩ | ⟨_, rb, v, fs', rfl, hM, hw', htx'⟩
    · exact absurd rfl h0
    · have HC' : Calls Tryz.prog 12 #[.nilIface, .int .i64 0] w3 fun e w' => e = .returned (.bool true) ∧ Below w3.heap.size w3 w' := HC.out w3 g3
      clear HC HO HR HT
      go_wp2_with fail
      refine HC'.mono ?_
      rintro e w4 ⟨rfl, g4'⟩
      have g4 := g3.trans (g4'.mono g3.size)
      have hT4 := hT3.below g4'
      have hM4 := hM.below g4'
      go_wp2_with fail
      refine (HX.out _ tb fs o w4 g4 hT4 hw htx).mono ?_
      rintro e w5 ⟨rfl, g5'⟩
      have g5 := g4.trans (g5'.mono g4.size)
      go_wp2_with fail
      refine (HM.out _ rb fs' v w5 (hM4.below g5') hw' htx').mono ?_
      rintro e w6 ⟨rfl, g6'⟩
      have g6 := g5.trans (g6'.mono g5.size)
      go_wp2_with fail
      refine (HX.out _ tb fs o w6 g6 ((hT4.below g5').below g6') hw htx).mono ?_
      rintro e w7 ⟨rfl, g7⟩
      go_wp2
      go_ret
      exact ⟨by simp, g6.trans (g7.mono g6.size)⟩
end Go.Proofs.YtigcogfjclohjaaGreatDoor
