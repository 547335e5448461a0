/- The walks of package act's head, linesWith and of the kinds that take one input. -/
import Derived.Test.YtigcogfjclohjaaGreatDoorAKinds
import Derived.Test.YtigcogfjclohjaaGreatDoorANum
import Derived.Deep.RegionHeld3
namespace Go.Proofs.YtigcogfjclohjaaGreatDoor
open Go.RowKit Go.Shelf Go.Lib
open Go.Sort (grow Holds putRow)

set_option maxRecDepth 100000 in
set_option maxHeartbeats 4000000 in
theorem ofOne_calls (word out : ByteArray) (x : List UInt8) (f b g n cap : Nat) (w : World) (hb : w.cell? ⟨b, 0, none⟩ = some (fn f)) (hx : w.cell? ⟨g, 0, none⟩ = some (.string (ba x))) (hbl : b < w.heap.size) (hgl : g < w.heap.size) (hn : 1 ≤ n)
    (ef : ∀ args w, (callFunc f args).run Tryz.prog w = .ok (.enter f args) w)
    (HF : Hid (∀ W, Below w.heap.size w W → Calls Tryz.prog f #[.string word, .string (ba x)] W fun e w' => e = .returned (.string out) ∧ Below W.heap.size W w')) :
    Calls Tryz.prog 142 #[.string word, .slice (some ⟨g, 0, none⟩) n cap, .pointer (some ⟨b, 0, none⟩)] w fun e w' => e = .returned (.string out) ∧ Below w.heap.size w w' := by
  have n0 : 0 < n := hn
  go_enter Tryz.func142, Tryz.ntmps142
  go_wp2
  go_region_held3 (fun w' => w'.cell? ⟨b, 0, none⟩ = some (fn f) ∧ w'.cell? ⟨g, 0, none⟩ = some (.string (ba x))) (first | go_keep | fail)
    (first | (go_at_fn f; refine Calls.mono (HF.out _ (by exact (Below.refl _ w).drew)) ?_; rintro e w3 ⟨rfl, g3⟩; have e2 := (cell_below2 g3 (j := 0) hbl).trans hb; have e3 := (cell_below2 g3 (j := 0) hgl).trans hx))
  all_goals
    go_wp2
    go_ret
    exact ⟨rfl, below_then (below_draws (Below.refl _ w) 1) g3⟩

theorem num_many (wd : List UInt8) : wd.length ≤ 1000000 → ∀ (w : World), Pow w → SynAt w → Calls Tryz.prog 78 #[.string (ba wd), .int .i64 3] w fun e w' => (∃ x : Int, e = .returned (.tuple #[.int .i64 x, .bool (numM 3 wd).isSome])) ∧ Below w.heap.size w w' := fun hl w hP hS => by
  cases h : numM 3 wd with
  | none => exact (nRead_no 3 (by omega) wd h hl w hP hS).mono fun e w' ⟨h1, h2⟩ => ⟨⟨0, h1⟩, h2⟩
  | some n =>
    obtain ⟨h4, ha, _⟩ := numM_some h
    have := atoi_small ha (by omega)
    exact (nRead_yes 3 (by omega) wd n h (by omega) w hP).mono fun e w' ⟨h1, h2⟩ => ⟨⟨n, h1⟩, h2⟩
set_option maxHeartbeats 2000000 in
theorem isMany_calls (wd : List UInt8) (hl : wd.length ≤ 1000000) (w : World) (hP : Pow w) (hS : SynAt w) :
    Calls Tryz.prog 112 #[.string (ba wd)] w fun e w' => e = .returned (.bool (numM 3 wd).isSome) ∧ Below w.heap.size w w' := by
  have HA := hid1 (num_many wd hl w hP hS)
  generalize (numM 3 wd).isSome = r at *
  clear hP hS
  go_enter Tryz.func112, Tryz.ntmps112
  go_wp2_with fail
  refine Calls.mono HA.out ?_
  rintro e w1 ⟨⟨x, rfl⟩, g1⟩
  go_wp2
  go_ret
  exact ⟨rfl, g1⟩

set_option maxRecDepth 100000 in
set_option maxHeartbeats 4000000 in
theorem head_calls (wd s : List UInt8) (n : Nat) (hn : numM 3 wd = some n) (hs : s.length ≤ 100000) (m : Int) (w : World) (hm : w.cell? ⟨14, 0, none⟩ = some (.int .i64 m)) (hP : Pow w) :
    Calls Tryz.prog 113 #[.string (ba wd), .string (ba s)] w fun e w' => e = .returned (.string (ba (Af.told ((Af.lines s).take n)))) ∧ Below w.heap.size w w' := by
  obtain ⟨h4, ha, _⟩ := numM_some hn
  have hn1 := atoi_small ha (by omega)
  have HA := hid1 (nRead_yes 3 (by omega) wd n hn (by omega) w hP)
  have HL := hid1 (fun W hW => linesOf_calls s (by omega) m W (cell_below' (w' := W) hm hW))
  have hlen : (Af.told ((Af.lines s).take n)).length ≤ 100000000 := by
    have h1 := told_take_len (l := Af.lines s) n
    have h2 := (Af.told_lines_len s).2
    omega
  have hll := Af.lines_len s
  generalize Af.lines s = L at *
  have HT := hid1 (fun (v : Value) (W : World) (h : CRow W v (L.take n)) => told_calls v (L.take n) W h hlen)
  have hlt : (L.take n).length = min n L.length := by simp
  generalize Af.told (L.take n) = out at *
  clear hn hm hP ha
  go_enter Tryz.func113, Tryz.ntmps113
  go_wp2_with fail
  refine Calls.mono HA.out ?_
  rintro e w1 ⟨rfl, g1⟩
  have HL1 := HL.out w1 g1
  go_wp2_with fail
  refine Calls.mono HL1 ?_
  rintro e w2 ⟨v, rfl, ⟨g, cap, cur, rfl, hg0, hcap, hblk, hcur⟩, g2⟩
  have G2 := g1.trans (g2.mono g1.size)
  have hC : CRow w2 (.slice (some ⟨g, 0, none⟩) (min n L.length) cap) (L.take n) := ⟨_, cap, by rw [hlt], fun k hk => ⟨g, rfl, (Array.getElem?_eq_some_iff.1 hblk).1, by
    have hk' : k < L.length := by rw [hlt] at hk; omega
    have := cell_of_row hblk (hcur k hk')
    rw [List.getElem_take]
    exact this⟩⟩
  have HT2 := HT.out _ w2 hC
  clear HL1 HL HT hC hcur hlt
  have zn : (n : Int) ≤ 100000 := by omega
  have zl : (L.length : Int) ≤ 100000 := by omega
  have zc : (L.length : Int) ≤ (cap : Int) := by omega
  have hmin : min (n : Int) (L.length : Int) = ((min n L.length : Nat) : Int) := by omega
  have zm : ((min n L.length : Nat) : Int) ≤ (cap : Int) := by omega
  have zm2 : min n L.length ≤ cap := by omega
  have zm3 : (0 : Int) ≤ ((min n L.length : Nat) : Int) := by omega
  go_wp2_with fail
  refine Calls.mono HT2 ?_
  rintro e w3 ⟨rfl, g3⟩
  go_wp2
  go_ret
  exact ⟨rfl, G2.trans (g3.mono G2.size)⟩
end Go.Proofs.YtigcogfjclohjaaGreatDoor
