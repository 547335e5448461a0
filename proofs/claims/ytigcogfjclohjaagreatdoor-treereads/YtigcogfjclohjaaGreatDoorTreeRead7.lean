/- The walk of package tree's Read, whole. -/
import Derived.Test.YtigcogfjclohjaaGreatDoorTreeRead6
namespace Go.Proofs.YtigcogfjclohjaaGreatDoor
open Go.RowKit Go.Shelf Go.Lib Go.Maps
open Tf (Fs)

set_option maxRecDepth 100000 in
theorem Read_none (s : List UInt8) (hp : Tf.parse s = none) (hs : s.length ≤ 3000) (m : Int) (w : World) (er : Nat → Value) (hE : TErr w er) (hP : Pow w) (hm : MaxAt w m) (hS : SynAt w) :
    Calls Tryz.prog 10 #[.string (ba s)] w fun e w' => e = .returned (.tuple #[.pointer none, er 1]) ∧ Below w.heap.size w w' := by
  have HR : Hid (Calls Tryz.prog 37 #[.string (ba s)] w fun e w' => e = .returned (.tuple #[.slice none 0 0, .bool false]) ∧ Below w.heap.size w w') := readEntries_no s hp hs m w hP hm hS
  have HC : Hid (∀ W, Below w.heap.size w W → W.cell? ⟨0, 0, none⟩ = some (er 1)) := fun W hW => (hE.below hW).text
  clear hp hE hP hm hS
  generalize er 1 = e1 at *
  go_enter Tryz.func10, Tryz.ntmps10
  go_wp2_with fail
  refine HR.out.mono ?_
  rintro e w1 ⟨rfl, g1⟩
  have hc := HC.out w1 g1
  go_wp2
  go_region
  go_wp2
  go_ret2
  exact ⟨rfl, g1.drew⟩

set_option maxRecDepth 100000 in
set_option maxHeartbeats 8000000 in
theorem Read_some (s : List UInt8) (es : Fs) (hp : Tf.Parse s es) (hs : s.length ≤ 3000) (m : Int) (w : World) (er : Nat → Value) (hE : TErr w er) (hP : Pow w) (hm : MaxAt w m) :
    Calls Tryz.prog 10 #[.string (ba s)] w fun e w' => ((Tf.stop pathB [] es ≠ 0 ∧ e = .returned (.tuple #[.pointer none, er (Tf.stop pathB [] es)])) ∨ (Tf.stop pathB [] es = 0 ∧ ¬ Tf.Rises es ∧ e = .returned (.tuple #[.pointer none, er 3])) ∨
      (Tf.stop pathB [] es = 0 ∧ Tf.Rises es ∧ ∃ tb o, e = .returned (.tuple #[Ptr tb, .nilIface]) ∧ TreeAt w.heap.size w' tb (Tf.puts es) o)) ∧ Below w.heap.size w w' := by
  have htx := hp.text
  obtain ⟨hlen3, hlen0⟩ := Tf.textT_long es
  rw [htx] at hlen3 hlen0
  have hn : es.length ≤ 1000 := by omega
  have hlen : ∀ f ∈ es, f.1.length ≤ 3000 := fun f hf => by have := (hlen0 f hf).1; omega
  have HR : Hid (Calls Tryz.prog 37 #[.string (ba s)] w fun e w' => ∃ v, e = .returned (.tuple #[v, .bool true]) ∧ ERow w' v es ∧ Below w.heap.size w w') :=
    (readEntries_yes s es hp (by omega) (by omega) m w hP hm).mono fun e w' ⟨v, h1, h2, h3⟩ => ⟨v, h1, ERow.of_owns h2, h3⟩
  have HN : Hid (∀ W, Calls Tryz.prog 15 #[] W fun e w' => e = .returned (Ptr W.heap.size) ∧ TreeAt W.heap.size w' W.heap.size [] none ∧ Below W.heap.size W w') := New_calls
  have HIy : Hid (∀ (v : Value) W, Tf.Rises es → ERow W v es → Calls Tryz.prog 38 #[v] W fun e w' => e = .returned (.bool true) ∧ Below W.heap.size W w') := fun v W hr h => (rise_yes h hr (by omega)).mono fun e w' ⟨h1, q, h2⟩ => ⟨h1, h2 ▸ below_draws (Below.refl _ W) q⟩
  have HIn : Hid (∀ (v : Value) W, ¬ Tf.Rises es → ERow W v es → Calls Tryz.prog 38 #[v] W fun e w' => e = .returned (.bool false) ∧ Below W.heap.size W w') := fun v W hr h => (rise_no h hr (by omega)).mono fun e w' ⟨h1, q, h2⟩ => ⟨h1, h2 ▸ below_draws (Below.refl _ W) q⟩
  have HPut : Hid (∀ k (hk : k < es.length) (B tb : Nat) (o : Option Nat) W, Below w.heap.size w W → TreeAt B W tb (Tf.puts (es.take k)) o → Tf.Well pathB (Tf.puts (es.take k)) → Calls Tryz.prog 17 #[Ptr tb, .string (ba es[k].1), .string (ba es[k].2)] W fun e w' =>
      ((Tf.putCode pathB (Tf.puts (es.take k)) es[k].1 es[k].2 ≠ 0 ∧ (∃ t u, er (Tf.putCode pathB (Tf.puts (es.take k)) es[k].1 es[k].2) = .iface t u ∧ e = .returned (.iface t u)) ∧ Below B W w') ∨
       (Tf.putCode pathB (Tf.puts (es.take k)) es[k].1 es[k].2 = 0 ∧ e = .returned .nilIface ∧ (∃ o', TreeAt B w' tb (Tf.puts (es.take (k + 1))) o') ∧ Below B W w'))) := fun k hk B tb o W hW hT hw => by
    have := Put_calls hT (hE.below hW) (fun f hf => by have := well_len hw f hf; omega) (by have := hw.few; omega) es[k].1 es[k].2 (by have := hlen _ (List.getElem_mem hk); omega)
    refine this.mono fun e w' ⟨h1, h2, h3⟩ => ?_
    by_cases hc : Tf.putCode pathB (Tf.puts (es.take k)) es[k].1 es[k].2 = 0
    · refine .inr ⟨hc, by rw [h1, hc, hE.nil], ?_, h3⟩
      rwa [show Tf.putF pathB (Tf.puts (es.take k)) es[k].1 es[k].2 = Tf.puts (es.take (k + 1)) by
        unfold Tf.putF
        rw [if_pos hc, List.take_succ_eq_append_getElem hk, Tf.puts_snoc]] at h2
    · obtain ⟨t, u, e1⟩ := hE.faces (Tf.putCode pathB (Tf.puts (es.take k)) es[k].1 es[k].2 - 1)
      rw [show Tf.putCode pathB (Tf.puts (es.take k)) es[k].1 es[k].2 - 1 + 1 = Tf.putCode pathB (Tf.puts (es.take k)) es[k].1 es[k].2 by omega] at e1
      exact .inl ⟨hc, ⟨t, u, e1, by rw [h1, e1]⟩, h3⟩
  have HC : Hid (∀ W, Below w.heap.size w W → W.cell? ⟨1, 0, none⟩ = some (er 3)) := fun W hW => (hE.below hW).shape
  have zn : (es.length : Int) ≤ 1000 := by omega
  obtain ⟨S, hS⟩ : ∃ S, Tf.stop pathB [] es = S := ⟨_, rfl⟩
  have HS : Hid (Tf.stop pathB [] es = S) := hS
  rw [hS]
  clear hp hE hP hm hlen0 hlen3 htx hS
  go_enter Tryz.func10, Tryz.ntmps10
  go_wp2_with fail
  refine HR.out.mono ?_
  rintro e w1 ⟨v, rfl, hrow, g1⟩
  go_wp2_with fail
  refine (HN.out w1).mono ?_
  rintro e w2 ⟨rfl, hT, g2⟩
  have G2 := g1.trans (g2.mono g1.size)
  obtain ⟨pa, cap, rfl, hcap, hin0⟩ := hrow
  have hrow : Hid (∀ W : World, (∀ j, j < w1.heap.size → W.heap[j]? = w1.heap[j]?) → ERow W (.slice pa es.length cap) es) := fun W hW => ERow.keep (w := w1) ⟨pa, cap, rfl, hcap, hin0⟩ (Nat.le_refl _) hW
  have hk2 := g2.block
  have hB1 := g1.size
  generalize hb0 : w1.heap.size = B at *
  clear HR HN hin0
  go_wp2
  go_loopw [21] (fun i wr => ∃ k : Nat, k ≤ es.length ∧ i = .int .i64 k ∧ Hid (Tf.Well pathB (Tf.puts (es.take k)) ∧ Tf.stop pathB (Tf.puts (es.take k)) (es.drop k) = S) ∧ (∃ o, TreeAt B wr B (Tf.puts (es.take k)) o) ∧ (∀ j, j < B → wr.heap[j]? = w1.heap[j]?) ∧ Below w.heap.size w wr) (fun i _ => es.length - (intOf i).toNat)
  case atStart => exact ⟨0, Nat.zero_le _, rfl, ⟨Tf.Well.nil _, HS.out⟩, ⟨none, by simpa [Tf.puts] using hT⟩, hk2, G2⟩
  case round =>
    obtain ⟨k, hk, rfl, hwell, ⟨o, hTk⟩, hkeep, hBk⟩ := hrel
    have hrowk := hrow.out wr hkeep
    by_cases hlt : k < es.length
    · have c1 : (k : Int) < (es.length : Int) := by omega
      have c0 : (0 : Int) ≤ (k : Int) := by omega
      obtain ⟨p', cap', ev, _, hin⟩ := hrowk
      obtain ⟨g, cur, rfl, hg, hcur⟩ := hin (by intro e; rw [e] at hlt; simp at hlt)
      have epa : pa = some ⟨g, 0, none⟩ := by simp at ev; exact ev.1
      subst epa
      have h1 := cell_of_row hg (hcur k hlt).1
      have h2 := cell_of_row hg (hcur k hlt).2
      have gA : Below wr.heap.size wr (wr.alloc (.cells #[.string (ba es[k].1), .string (ba es[k].2)] 75)) := (Below.refl _ wr).alloc (Nat.le_refl _) _
      have HP' := HPut.out k hlt B B o _ (hBk.trans (gA.mono hBk.size)) (hTk.below gA) hwell.out.1
      have hBr : B < wr.heap.size := hTk.lt
      have HST : Hid (Tf.stop pathB (Tf.puts (es.take k)) (es.drop k) = if Tf.putCode pathB (Tf.puts (es.take k)) es[k].1 es[k].2 = 0 then Tf.stop pathB (Tf.puts (es.take (k + 1))) (es.drop (k + 1)) else Tf.putCode pathB (Tf.puts (es.take k)) es[k].1 es[k].2) := Tf.stop_step hlt
      have HW : Hid (Tf.putCode pathB (Tf.puts (es.take k)) es[k].1 es[k].2 = 0 → Tf.Well pathB (Tf.puts (es.take (k + 1)))) := fun hc => by
        rw [List.take_succ_eq_append_getElem hlt, Tf.puts_snoc]
        exact hwell.out.1.put hc
      clear hin hcur hg ev
      generalize Tf.putCode pathB (Tf.puts (es.take k)) es[k].1 es[k].2 = pc at *
      generalize es[k].1 = x at *
      generalize es[k].2 = y at *
      go_wp2_with fail
      refine HP'.mono ?_
      rintro e w3 (⟨hc, ⟨t, u, e1, rfl⟩, g3⟩ | ⟨hc, rfl, ⟨o', hT3⟩, g3⟩)
      · have gB : Below B wr w3 := (gA.mono (by omega)).trans g3
        have hres : S = pc := by rw [← hwell.out.2, HST.out, if_neg hc]
        clear HP' HPut HIy HIn HC
        go_wp2
        go_ret2
        refine ⟨.inl ⟨by rw [hres]; exact hc, by rw [hres, e1]; rfl⟩, hBk.trans (gB.mono hB1)⟩
      · have gB : Below B wr w3 := (gA.mono (by omega)).trans g3
        have hnext : Hid (Tf.Well pathB (Tf.puts (es.take (k + 1))) ∧ Tf.stop pathB (Tf.puts (es.take (k + 1))) (es.drop (k + 1)) = S) := ⟨HW.out hc, by rw [← hwell.out.2, HST.out, if_pos hc]⟩
        clear HP' HPut HIy HIn HC
        go_wp2
        go_roundw
        case rel =>
          exact ⟨k + 1, by omega, by go_num, hnext, ⟨o', hT3⟩, fun j hj => (gB.block j hj).trans (hkeep j hj), hBk.trans (gB.mono hB1)⟩
        case measure => simp [intOf]; omega
    · have c1 : (es.length : Int) ≤ (k : Int) := by omega
      obtain rfl : k = es.length := by omega
      rw [List.take_length] at hTk
      have hS0 : S = 0 := by
        have := hwell.out.2
        rw [List.drop_length] at this
        rw [← this]
        rfl
      clear HPut
      by_cases hr : Tf.Rises es
      · have HI' := HIy.out _ wr hr hrowk
        clear HIy HIn
        go_wp2_with fail
        refine HI'.mono ?_
        rintro e w4 ⟨rfl, g4⟩
        go_wp2
        go_ret2
        exact ⟨.inr (.inr ⟨hS0, hr, B, o, rfl, (hTk.below g4).mono hB1⟩), hBk.trans (g4.mono hBk.size)⟩
      · have HI' := HIn.out _ wr hr hrowk
        clear HIy HIn
        go_wp2_with fail
        refine HI'.mono ?_
        rintro e w4 ⟨rfl, g4⟩
        have hc3 := HC.out w4 (hBk.trans (g4.mono hBk.size))
        go_wp2
        go_region
        go_wp2
        go_ret2
        exact ⟨.inr (.inl ⟨hS0, hr, rfl⟩), (hBk.trans (g4.mono hBk.size)).drew⟩

/-- Read, at any text of at most 3000 bytes. -/
theorem Read_calls (s : List UInt8) (hs : s.length ≤ 3000) (m : Int) (w : World) (er : Nat → Value) (hE : TErr w er) (hP : Pow w) (hm : MaxAt w m) (hS : SynAt w) :
    Calls Tryz.prog 10 #[.string (ba s)] w fun e w' => ((Tf.codeT pathB s ≠ 0 ∧ e = .returned (.tuple #[.pointer none, er (Tf.codeT pathB s)])) ∨
      (Tf.codeT pathB s = 0 ∧ ∃ tb o fs, e = .returned (.tuple #[Ptr tb, .nilIface]) ∧ TreeAt w.heap.size w' tb fs o ∧ Tf.Well pathB fs ∧ Tf.textT fs = s)) ∧ Below w.heap.size w w' := by
  cases hp : Tf.parse s with
  | none =>
    rw [Tf.codeT_none hp]
    exact (Read_none s hp hs m w er hE hP hm hS).mono fun e w' ⟨h1, h2⟩ => ⟨.inl ⟨by omega, h1⟩, h2⟩
  | some es =>
    have hpar := Tf.parse_Parse _ s (Nat.le_refl _) es hp
    refine (Read_some s es hpar hs m w er hE hP hm).mono fun e w' ⟨h1, h2⟩ => ⟨?_, h2⟩
    rcases h1 with ⟨hc, h1⟩ | ⟨hc, hr, h1⟩ | ⟨hc, hr, tb, o, h1, hT⟩
    · rw [Tf.codeT_stop hp hc]
      exact .inl ⟨hc, h1⟩
    · rw [Tf.codeT_shape hp hc hr]
      exact .inl ⟨by omega, h1⟩
    · rw [Tf.codeT_yes hp hc hr]
      exact .inr ⟨rfl, tb, o, _, h1, hT, Tf.puts_well hc, by rw [Tf.puts_self hr, hpar.text]⟩
end Go.Proofs.YtigcogfjclohjaaGreatDoor
