/- The walks of package act's sorted and count, of the kinds' functions join and count, and of the words that sort, upper and count take. -/
import Derived.Test.YtigcogfjclohjaaGreatDoorALines
import Derived.Test.YtigcogfjclohjaaGreatDoorARun
import Derived.Sort.OwnSorted
namespace Go.Proofs.YtigcogfjclohjaaGreatDoor
open Go.RowKit Go.Shelf Go.Lib
open Go.Sort (grow Holds putRow)

/-- A slice of texts of its own, as the sort sees it. -/
def HRow (B : Nat) (w : World) (v : Value) (l : List (List UInt8)) : Prop :=
  (l = [] ∧ v = .slice none 0 0) ∨ ∃ g cap, v = .slice (some ⟨g, 0, none⟩) l.length cap ∧ B ≤ g ∧ g < w.heap.size ∧ l.length ≤ cap ∧ Holds encStr w g 0 l.toArray
theorem HRow.of_owns {B : Nat} {w : World} {v : Value} {l : List (List UInt8)} (h : w.ownsRow B 9 1 v l.length (l.map sv)) : HRow B w v l := by
  rcases h.2 with ⟨rfl, hn⟩ | ⟨g, cap, cur, rfl, hBg, hb, h1, _, _, h4⟩
  · exact .inl ⟨List.length_eq_zero_iff.1 hn, rfl⟩
  · refine .inr ⟨g, cap, rfl, hBg, (Array.getElem?_eq_some_iff.1 hb).1, h1, fun j hj => ?_⟩
    have hj' : j < l.length := by simpa using hj
    have := congrArg (fun x => x[j]?) h4
    simp only [Nat.mul_one, List.getElem?_take, hj', if_true, List.getElem?_map, List.getElem?_eq_getElem hj', Option.map_some, Array.getElem?_toList] at this
    refine ⟨?_, by simp [World.frozen?, hb]⟩
    rw [Nat.zero_add, cell_of_row hb this]
    simp [hj']
theorem HRow.cells {B : Nat} {w : World} {v : Value} {l : List (List UInt8)} (h : HRow B w v l) : CRow w v l := by
  rcases h with ⟨rfl, rfl⟩ | ⟨g, cap, rfl, _, h2, _, hH⟩
  · exact ⟨none, 0, rfl, fun k hk => by simp at hk⟩
  · refine ⟨_, cap, rfl, fun k hk => ⟨g, rfl, h2, ?_⟩⟩
    have := (hH k (by simpa using hk)).1
    rw [Nat.zero_add] at this
    rw [this]
    simp [hk]
theorem below_put {w : World} {B g n : Nat} {os : Array Obj} (d : Array (List UInt8)) (hg : B ≤ g) (hB : B ≤ w.heap.size) : Below B w (grow (putRow encStr (Sort.ahead w n) g 0 d) os) :=
  (Below.refl B w).grown (grownBy_sorted d) hB (fun j hj => by cases hj; exact hg)

theorem sort_calls {B : Nat} {w : World} {v : Value} {l : List (List UInt8)} (h : HRow B w v l) (hB : B ≤ w.heap.size) (hl : l.length ≤ 1000000000) :
    Calls Tryz.prog 65 #[v] w fun e w' => e = .returned (.tuple #[]) ∧ HRow B w' v (Af.srt l) ∧ Below B w w' := by
  rcases h with ⟨rfl, rfl⟩ | ⟨g, cap, rfl, h1, h2, h3, hH⟩
  · refine (Tryz.slices_Sort_string_none none 0 w).mono ?_
    rintro e w' ⟨rfl, rfl⟩
    exact ⟨rfl, .inl ⟨List.length_eq_zero_iff.1 (Af.srt_len []), rfl⟩, Below.refl _ _⟩
  · refine (Tryz.slices_Sort_string g 0 cap l w hH h2 (by omega)).mono ?_
    rintro e w' ⟨rfl, n, os, rfl⟩
    refine ⟨rfl, .inr ⟨g, cap, by rw [Af.srt_len], h1, ?_, by rw [Af.srt_len]; exact h3, ?_⟩, below_put _ h1 hB⟩
    · rw [Go.Sort.size_grow, Go.Sort.size_putRow]
      exact Nat.lt_of_lt_of_le h2 (Nat.le_add_right _ _)
    · refine Go.Sort.holds_grow _ _ _ _ _ _ (by rw [Go.Sort.size_putRow]; exact h2) ?_
      exact Go.Sort.holds_putRow encStr (Sort.ahead w n) g 0 l.toArray _ hH (by simp)
theorem compact_calls {B : Nat} {w : World} {v : Value} {l : List (List UInt8)} (h : HRow B w v l) (hB : B ≤ w.heap.size) (hl : l.length ≤ 1000000000) :
    Calls Tryz.prog 149 #[v] w fun e w' => ∃ v', e = .returned v' ∧ HRow B w' v' (Lib.compact l) ∧ Below B w w' := by
  rcases h with ⟨rfl, rfl⟩ | ⟨g, cap, rfl, h1, h2, h3, hH⟩
  · refine (Tryz.slices_Compact_string_empty none 0 w).mono ?_
    rintro e w' ⟨rfl, rfl⟩
    exact ⟨_, rfl, .inl ⟨rfl, rfl⟩, Below.refl _ _⟩
  · refine (Tryz.slices_Compact_string g 0 cap l w hH (by omega) h3).mono ?_
    rintro e w' ⟨rfl, q, rfl⟩
    have hc := Lib.compact_length_le l
    have hp := Go.Sort.holds_putRow encStr (Sort.ahead w q) g 0 l.toArray (Lib.compact l ++ List.replicate (l.length - (Lib.compact l).length) []).toArray hH (by simp; omega)
    refine ⟨_, rfl, .inr ⟨g, cap, rfl, h1, by rw [Go.Sort.size_putRow]; exact h2, by omega, fun j hj => ?_⟩, ?_⟩
    · have hj' : j < (Lib.compact l).length := by simpa using hj
      obtain ⟨p1, p2⟩ := hp j (by simp; omega)
      refine ⟨?_, p2⟩
      rw [p1]
      have e1 : (Lib.compact l ++ List.replicate (l.length - (Lib.compact l).length) []).toArray[j]! = (Lib.compact l)[j] := by
        simp [List.getElem?_append_left hj', hj']
      have e2 : (Lib.compact l).toArray[j]! = (Lib.compact l)[j] := by simp [hj']
      rw [e1, e2]
    · have := below_put (w := w) (B := B) (g := g) (n := q) (os := #[]) (Lib.compact l ++ List.replicate (l.length - (Lib.compact l).length) []).toArray h1 hB
      rwa [Go.Sort.grow_empty] at this

/-- What sort makes. -/
def Af.sorted (wd : List UInt8) (ls : List (List UInt8)) : List UInt8 := Af.told (if wd = [111, 110, 99, 101] then Lib.compact (Af.srt (Af.all ls)) else Af.srt (Af.all ls))

set_option maxRecDepth 100000 in
set_option maxHeartbeats 4000000 in
theorem sorted_calls (wd : List UInt8) (v : Value) (ls : List (List UInt8)) (hn : ls.length ≤ 1000) (hx : ∀ x ∈ ls, x.length ≤ 100000) (hl : (Af.told (Af.all ls)).length ≤ 100000000) (m : Int) (w : World) (hrow : TRow w v ls) (hm : w.cell? ⟨14, 0, none⟩ = some (.int .i64 m)) :
    Calls Tryz.prog 107 #[.string (ba wd), v] w fun e w' => e = .returned (.string (ba (Af.sorted wd ls))) ∧ Below w.heap.size w w' := by
  have HA := hid1 (allLines_calls v ls hn hx m w hrow hm)
  have hal : (Af.all ls).length ≤ 100000000 := by
    have := all_len hx ls.length (Nat.le_refl _)
    rw [List.take_length] at this
    omega
  have hl1 : (Af.told (Af.srt (Af.all ls))).length ≤ 100000000 := by rw [Af.told_perm (Af.srt_perm _)]; exact hl
  have hl2 : (Af.told (Lib.compact (Af.srt (Af.all ls)))).length ≤ 100000000 := by
    have := Af.compact_told_len (Af.srt (Af.all ls)) (Af.srt (Af.all ls)).length (Nat.le_refl _)
    rw [List.take_length] at this
    exact Nat.le_trans this hl1
  have hsl : (Af.srt (Af.all ls)).length ≤ 1000000000 := by rw [Af.srt_len]; omega
  have HQ : Hid (Af.sorted wd ls = Af.told (if wd = [111, 110, 99, 101] then Lib.compact (Af.srt (Af.all ls)) else Af.srt (Af.all ls))) := rfl
  generalize Af.sorted wd ls = out at *
  go_enter Tryz.func107, Tryz.ntmps107
  go_wp2_with fail
  refine Calls.mono HA.out ?_
  rintro e w1 ⟨v1, rfl, hown, g1⟩
  have HS := hid1 (sort_calls (HRow.of_owns hown) g1.size (by omega))
  clear hown
  go_wp2_with fail
  refine Calls.mono HS.out ?_
  rintro e w2 ⟨rfl, h2, g2⟩
  have G2 : Below w.heap.size w w2 := g1.trans g2
  clear HS HA
  by_cases h1 : wd = [111, 110, 99, 101]
  · subst h1
    have HC := hid1 (compact_calls h2 G2.size hsl)
    go_wp2_with fail
    refine Calls.mono HC.out ?_
    rintro e w3 ⟨v3, rfl, h3, g3⟩
    have HT := hid1 (told_calls v3 _ w3 h3.cells hl2)
    go_wp2_with fail
    refine Calls.mono HT.out ?_
    rintro e w4 ⟨rfl, g4⟩
    have G3 : Below w.heap.size w w3 := G2.trans g3
    go_wp2
    go_ret
    exact ⟨ret_eq (by rw [HQ.out, if_pos trivial]; rfl), G3.trans (g4.mono G3.size)⟩
  · have HT := hid1 (told_calls v1 _ w2 h2.cells hl1)
    have hone : (wd == [111, 110, 99, 101]) = false := by simpa using h1
    go_wp2_with fail
    refine Calls.mono HT.out ?_
    rintro e w4 ⟨rfl, g4⟩
    go_wp2
    go_ret
    exact ⟨ret_eq (by rw [HQ.out, if_neg h1]; rfl), G2.trans (g4.mono G2.size)⟩
end Go.Proofs.YtigcogfjclohjaaGreatDoor
