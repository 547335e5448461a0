/- The walk of package tree's Read at a text that is read; of the document's answer's SameTexts at the same texts. -/
import Derived.Test.YtigcogfjclohjaaGreatDoorM3
namespace Go.Proofs.YtigcogfjclohjaaGreatDoor
open Go.RowKit Go.Shelf Go.Lib Go.Maps
open Tf (Fs)

theorem puts_len {es : Fs} (h : ∀ f ∈ es, f.1.length ≤ 1000) : ∀ k, ∀ f ∈ Tf.puts (es.take k), f.1.length ≤ 1000000 := by
  have key : ∀ (l : Fs) (acc : Fs), (∀ f ∈ acc, f.1.length ≤ 1000000) → (∀ f ∈ l, f.1.length ≤ 1000000) → ∀ f ∈ l.foldl (fun t e => Tf.put t e.1 e.2) acc, f.1.length ≤ 1000000 := by
    intro l
    induction l with
    | nil => intro acc h1 _; exact h1
    | cons e r ih =>
      intro acc h1 h2
      refine ih _ (fun f hf => ?_) fun f hf => h2 f (List.mem_cons_of_mem _ hf)
      rcases Tf.mem_put.1 hf with rfl | ⟨hf, _⟩
      · exact h2 e (by simp)
      · exact h1 f hf
  intro k
  exact key _ [] (by simp) fun f hf => by have := h f (List.mem_of_mem_take hf); omega

theorem puts_few (es : Fs) (k : Nat) : (Tf.puts (es.take k)).length ≤ k := by
  have key : ∀ (l : Fs) (acc : Fs), (l.foldl (fun t e => Tf.put t e.1 e.2) acc).length ≤ acc.length + l.length := by
    intro l
    induction l with
    | nil => intro acc; simp
    | cons e r ih =>
      intro acc
      have h1 := ih (Tf.put acc e.1 e.2)
      have h2 : (Tf.put acc e.1 e.2).length ≤ acc.length + 1 := by
        unfold Tf.put
        rw [Tf.length_ins]
        have := Tf.length_del_le acc e.1
        omega
      simp only [List.foldl_cons, List.length_cons]
      omega
  have := key (es.take k) []
  unfold Tf.puts
  rw [List.length_take] at this
  simp at this
  omega

set_option maxRecDepth 100000 in
set_option maxHeartbeats 4000000 in
theorem Read_yes (s : List UInt8) (es : Fs) (hp : Tf.Parse s es) (hs : s.length ≤ 1000000) (hn : es.length ≤ 900) (hlen : ∀ f ∈ es, f.1.length ≤ 1000) (hcode : ∀ k (hk : k < es.length), Tf.putCode pathB (Tf.puts (es.take k)) es[k].1 es[k].2 = 0) (hr : Tf.Rises es)
    (m : Int) (w : World) (er : Nat → Value) (hE : TErr w er) (hP : Pow w) (hm : MaxAt w m) :
    Calls Tryz.prog 10 #[.string (ba s)] w fun e w' => ∃ tb o, e = .returned (.tuple #[Ptr tb, .nilIface]) ∧ TreeAt w.heap.size w' tb (Tf.puts es) o ∧ Below w.heap.size w w' := by
  have HR : Hid (Calls Tryz.prog 37 #[.string (ba s)] w fun e w' => ∃ v, e = .returned (.tuple #[v, .bool true]) ∧ ERow w' v es ∧ Below w.heap.size w w') :=
    (readEntries_yes s es hp hs (by omega) m w hP hm).mono fun e w' ⟨v, h1, h2, h3⟩ => ⟨v, h1, ERow.of_owns h2, h3⟩
  have HN : Hid (∀ W, Calls Tryz.prog 15 #[] W fun e w' => e = .returned (Ptr W.heap.size) ∧ TreeAt W.heap.size w' W.heap.size [] none ∧ Below W.heap.size W w') := New_calls
  have HI : Hid (∀ (v : Value) W, ERow W v es → Calls Tryz.prog 38 #[v] W fun e w' => e = .returned (.bool true) ∧ Below W.heap.size W w') := fun v W h => (rise_yes h hr (by omega)).mono fun e w' ⟨h1, q, h2⟩ => ⟨h1, h2 ▸ below_draws (Below.refl _ W) q⟩
  have HPut : Hid (∀ k (hk : k < es.length) (B tb : Nat) (o : Option Nat) W, Below w.heap.size w W → TreeAt B W tb (Tf.puts (es.take k)) o → Calls Tryz.prog 17 #[Ptr tb, .string (ba es[k].1), .string (ba es[k].2)] W fun e w' => e = .returned .nilIface ∧ (∃ o', TreeAt B w' tb (Tf.puts (es.take (k + 1))) o') ∧ Below B W w') := fun k hk B tb o W hW hT => by
    have := Put_calls hT (hE.below hW) (puts_len hlen k) (by have := puts_few es k; omega) es[k].1 es[k].2 (by have := hlen _ (List.getElem_mem hk); omega)
    rw [hcode k hk, hE.nil, show Tf.putF pathB (Tf.puts (es.take k)) es[k].1 es[k].2 = Tf.puts (es.take (k + 1)) by
      unfold Tf.putF
      rw [if_pos (hcode k hk), List.take_succ_eq_append_getElem hk, Tf.puts_snoc]] at this
    exact this
  have zn : (es.length : Int) ≤ 900 := by omega
  clear hp hE hP hm hr hcode
  go_enter Tryz.func10, Tryz.ntmps10
  go_wp2_with fail
  refine HR.out.mono ?_
  rintro e w1 ⟨v, rfl, hrow, g1⟩
  go_wp2_with fail
  refine (HN.out w1).mono ?_
  rintro e w2 ⟨rfl, hT, g2⟩
  have G2 := g1.trans (g2.mono g1.size)
  obtain ⟨pa, cap, rfl, hcap, hin0⟩ := hrow
  have hrow : Hid (∀ W : World, (∀ j, j < w1.heap.size → W.heap[j]? = w1.heap[j]?) → ERow W (.slice pa es.length cap) es) := fun W hW => ERow.keep (w := w1) ⟨pa, cap, rfl, hcap, hin0⟩ (Nat.le_refl _) hW
  have hk2 := g2.block
  have hB1 := g1.size
  generalize hb0 : w1.heap.size = B at *
  clear HR HN hin0
  go_wp2
  go_loopw [21] (fun i wr => ∃ k : Nat, k ≤ es.length ∧ i = .int .i64 k ∧ (∃ o, TreeAt B wr B (Tf.puts (es.take k)) o) ∧ (∀ j, j < B → wr.heap[j]? = w1.heap[j]?) ∧ Below w.heap.size w wr) (fun i _ => es.length - (intOf i).toNat)
  case atStart => exact ⟨0, Nat.zero_le _, rfl, ⟨none, by simpa [Tf.puts] using hT⟩, hk2, G2⟩
  case round =>
    obtain ⟨k, hk, rfl, ⟨o, hTk⟩, hkeep, hBk⟩ := hrel
    have hrowk := hrow.out wr hkeep
    by_cases hlt : k < es.length
    · have c1 : (k : Int) < (es.length : Int) := by omega
      have c0 : (0 : Int) ≤ (k : Int) := by omega
      obtain ⟨p', cap', ev, _, hin⟩ := hrowk
      obtain ⟨g, cur, rfl, hg, hcur⟩ := hin (by intro e; rw [e] at hlt; simp at hlt)
      have epa : pa = some ⟨g, 0, none⟩ := by simp at ev; exact ev.1
      subst epa
      have h1 := cell_of_row hg (hcur k hlt).1
      have h2 := cell_of_row hg (hcur k hlt).2
      have gA : Below wr.heap.size wr (wr.alloc (.cells #[.string (ba es[k].1), .string (ba es[k].2)] 75)) := (Below.refl _ wr).alloc (Nat.le_refl _) _
      have HP' := HPut.out k hlt B B o _ (hBk.trans (gA.mono hBk.size)) (hTk.below gA)
      have hBr : B < wr.heap.size := hTk.lt
      clear hin hcur hg ev
      generalize es[k].1 = x at *
      generalize es[k].2 = y at *
      go_wp2_with fail
      refine HP'.mono ?_
      rintro e w3 ⟨rfl, ⟨o', hT3⟩, g3⟩
      have gB : Below B wr w3 := (gA.mono (by omega)).trans g3
      go_wp2
      go_roundw
      case rel =>
        exact ⟨k + 1, by omega, by go_num, ⟨o', hT3⟩, fun j hj => (gB.block j hj).trans (hkeep j hj), hBk.trans (gB.mono hB1)⟩
      case measure => simp [intOf]; omega
    · have c1 : (es.length : Int) ≤ (k : Int) := by omega
      obtain rfl : k = es.length := by omega
      rw [List.take_length] at hTk
      have HI' := HI.out _ wr hrowk
      go_wp2_with fail
      refine HI'.mono ?_
      rintro e w4 ⟨rfl, g4⟩
      go_wp2
      go_ret2
      exact ⟨B, o, rfl, (hTk.below g4).mono hB1, hBk.trans (g4.mono hBk.size)⟩
end Go.Proofs.YtigcogfjclohjaaGreatDoor
