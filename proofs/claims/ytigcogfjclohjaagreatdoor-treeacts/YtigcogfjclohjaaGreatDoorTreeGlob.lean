/- Package tree's Glob, the document's answer's Paths: the walks. -/
import Derived.Test.YtigcogfjclohjaaGreatDoorM7
import Derived.Test.YtigcogfjclohjaaGreatDoorMD
import Derived.Test.YtigcogfjclohjaaGreatDoorRText
import Derived.Test.YtigcogfjclohjaaGreatDoorTreeText
namespace Go.Proofs.YtigcogfjclohjaaGreatDoor
open Go.RowKit Go.Shelf Go.Lib Go.Maps
open Tf (Fs)

/-- The paths that fit. -/
def fits (p : List UInt8) (l : List (List UInt8)) : List (List UInt8) := l.filter fun q => fitL 20 (Kf.parts p) (Kf.parts q)

theorem fits_take {p : List UInt8} {l : List (List UInt8)} {k : Nat} (hk : k < l.length) : fits p (l.take (k + 1)) = fits p (l.take k) ++ if fitL 20 (Kf.parts p) (Kf.parts l[k]) then [l[k]] else [] := by
  unfold fits
  rw [List.take_succ_eq_append_getElem hk, List.filter_append]
  congr 1
  cases hf : fitL 20 (Kf.parts p) (Kf.parts l[k]) <;> simp [hf]

theorem fits_len (p : List UInt8) (l : List (List UInt8)) : (fits p l).length ≤ l.length := List.length_filter_le _ _

theorem enc_sv (l : List (List UInt8)) : l.map encStr = l.map sv := rfl

theorem Glob_no (tb : Nat) (p : List UInt8) (hp : p.length ≤ 1000000) (h1 : okR true p = false) (w : World) (t : TypeId) (u : Value) (hg : w.cell? ⟨5, 0, none⟩ = some (.iface t u)) :
    Calls Tryz.prog 22 #[Ptr tb, .string (ba p)] w fun e w' => e = .returned (.tuple #[.slice none 0 0, .iface t u]) ∧ Below w.heap.size w w' := by
  have HA : Hid (Calls Tryz.prog 50 #[.string (ba p)] w fun e W' => e = .returned (.iface t u) ∧ Below w.heap.size w W') := CheckPattern_no p hp h1 w t u hg
  clear h1
  go_enter Tryz.func22, Tryz.ntmps22
  go_wp2_with fail
  refine HA.out.mono ?_
  rintro e w1 ⟨rfl, g1⟩
  go_wp2
  go_ret2
  exact ⟨rfl, g1⟩

set_option maxRecDepth 100000 in
set_option maxHeartbeats 4000000 in
theorem Glob_yes {B : Nat} {w : World} {tb : Nat} {fs : Fs} {o : Option Nat} (h : TreeAt B w tb fs o) (hw : Tf.Well pathB fs) (p : List UInt8) (hp : p.length ≤ 1000000) (h1 : okR true p = true) (m : Int) (hm : MaxAt w m) :
    Calls Tryz.prog 22 #[Ptr tb, .string (ba p)] w fun e w' => ∃ v, e = .returned (.tuple #[v, .nilIface]) ∧ TRow w' v (fits p (fs.map (·.1))) ∧ Below w.heap.size w w' := by
  have hfew : fs.length ≤ 60 := hw.few
  have HA : Hid (Calls Tryz.prog 50 #[.string (ba p)] w fun e W' => e = .returned .nilIface ∧ Below w.heap.size w W') := CheckPattern_yes p hp h1 w
  have HP : Hid (∀ W, Below w.heap.size w W → Calls Tryz.prog 19 #[Ptr tb] W fun e w' => ∃ v, e = .returned v ∧ TRow w' v (fs.map (·.1)) ∧ Below W.heap.size W w') := fun W hW =>
    (Paths_calls (h.below hW) hw.rises (by omega)).mono fun e w' ⟨v, h1, h2, h3⟩ => ⟨v, h1, TRow.of_owns h2, h3⟩
  have HM : Hid (∀ k (hk : k < (fs.map (·.1)).length) W, Below w.heap.size w W → Calls Tryz.prog 51 #[.string (ba p), .string (ba (fs.map (·.1))[k])] W fun e w' => e = .returned (.tuple #[.bool (fitL 20 (Kf.parts p) (Kf.parts (fs.map (·.1))[k])), .nilIface]) ∧ Below W.heap.size W w') := fun k hk W hW => by
    have hk' : k < fs.length := by simpa using hk
    have hmem := List.getElem_mem hk'
    have e : (fs.map (·.1))[k] = fs[k].1 := by simp
    rw [e]
    exact Match_yes (fitOk 20) p _ hp (by have := well_len hw _ hmem; omega) h1 (by rw [← pathB_R]; exact (hw.each _ hmem).1) m W (cell_below' hm hW)
  obtain ⟨i0, hi, hz0, hz1, hz2⟩ := info_parts Tryz.infoStr
  have hlen : (fs.map (·.1)).length ≤ 60 := by simpa using hfew
  generalize fs.map (·.1) = l at *
  have zl : (l.length : Int) ≤ 60 := by omega
  clear h hw h1 hm
  go_enter Tryz.func22, Tryz.ntmps22
  go_wp2_with fail
  refine HA.out.mono ?_
  rintro e w1 ⟨rfl, g1⟩
  go_wp2_with fail
  refine (HP.out w1 g1).mono ?_
  rintro e w2 ⟨v, rfl, hrow, g2'⟩
  have g2 := g1.trans (g2'.mono g1.size)
  obtain ⟨pa, cap, rfl, hcap, hin⟩ := hrow
  clear HA HP g2'
  generalize hB : w2.heap.size = B2 at *
  have hwB : w.heap.size ≤ B2 := by rw [← hB]; exact g2.size
  go_wp2
  go_loopw [7, 20] (fun out i wr => ∃ k : Nat, k ≤ l.length ∧ i = .int .i64 k ∧ wr.ownsRow B2 9 1 out (fits p (l.take k)).length ((fits p (l.take k)).map sv) ∧ (∀ j, j < B2 → wr.heap[j]? = w2.heap[j]?) ∧ B2 ≤ wr.heap.size ∧ Below w.heap.size w wr) (fun _ i _ => l.length - (intOf i).toNat)
  case atStart => exact ⟨0, Nat.zero_le _, rfl, World.ownsRow_nil _ _ _ _, fun _ _ => rfl, by omega, g2⟩
  case round =>
    obtain ⟨k, hk, rfl, hown, hkeep, hsz, hBk⟩ := hrel
    by_cases hlt : k < l.length
    · have c1 : (k : Int) < (l.length : Int) := by omega
      have c0 : (0 : Int) ≤ (k : Int) := by omega
      obtain ⟨g, cur, rfl, hg, hcur⟩ := hin (by intro e; rw [e] at hlt; simp at hlt)
      have hgB : g < B2 := by rw [← hB]; exact (Array.getElem?_eq_some_iff.1 hg).1
      have d1 := cell_of_row ((hkeep g hgB).trans hg) (hcur k hlt)
      have HM' := HM.out k hlt wr hBk
      have HF : Hid (fits p (l.take (k + 1)) = fits p (l.take k) ++ if fitL 20 (Kf.parts p) (Kf.parts l[k]) then [l[k]] else []) := fits_take hlt
      have hfl : (fits p (l.take k)).length ≤ 60 := by have := fits_len p (l.take k); rw [List.length_take] at this; omega
      clear hin hcur hg HM
      generalize fits p (l.take k) = acc at *
      generalize l[k] = x at *
      cases hf : fitL 20 (Kf.parts p) (Kf.parts x) with
      | true =>
        rw [hf] at HM'
        rw [hf] at HF
        go_wp2_with fail
        refine HM'.mono ?_
        rintro e w3 ⟨rfl, g3⟩
        have hown3 := ownsRow_below hown g3
        have G3 := hBk.trans (g3.mono hBk.size)
        have hsz3 : B2 ≤ w3.heap.size := Nat.le_trans hsz g3.size
        clear hown HM'
        go_wp2_with (at_builtin; refine wpList_append_own _ rfl _ _ 41 rfl B2 9 i0 (.string ⟨#[]⟩) 1 16 Tryz.underlying41 hi hz0 hz1 hz2 rfl (by decide) _ _ _ rfl (hown3.alloc _) ⟨w3.heap.size, 0, none⟩ 1 1 [.string (ba x)] rfl rfl (cell_one_new _ _ _) (by simp [Value.oneCell']) (by unfold maxLen; omega) (by omega) (by simp; omega) ?_; intro v' w4 hown' hgrow _)
        go_wp2
        go_roundw
        case rel =>
          have hgr : Below B2 w3 w4 := ((Below.refl _ w3).mono hsz3 |>.alloc hsz3 _).grown hgrow (by simp; omega) (row_low hown3)
          refine ⟨k + 1, by omega, by go_num, ?_, fun j hj => (hgr.block j hj).trans ((g3.block j (by omega)).trans (hkeep j hj)), Nat.le_trans hsz3 hgr.size, G3.trans (hgr.mono hwB)⟩
          rw [HF.out]
          simpa using hown'
        case measure => simp [intOf]; omega
      | false =>
        rw [hf] at HM'
        rw [hf] at HF
        go_wp2_with fail
        refine HM'.mono ?_
        rintro e w3 ⟨rfl, g3⟩
        go_wp2
        go_roundw
        case rel =>
          refine ⟨k + 1, by omega, by go_num, ?_, fun j hj => (g3.block j (by omega)).trans (hkeep j hj), Nat.le_trans hsz g3.size, hBk.trans (g3.mono hBk.size)⟩
          rw [HF.out]
          simpa using ownsRow_below hown g3
        case measure => simp [intOf]; omega
    · have c1 : (l.length : Int) ≤ (k : Int) := by omega
      obtain rfl : k = l.length := by omega
      rw [List.take_length] at hown
      clear hin HM
      go_wp2
      go_ret2
      exact ⟨_, rfl, TRow.of_owns hown, hBk⟩

set_option maxRecDepth 100000 in
set_option maxHeartbeats 4000000 in
theorem rPaths_calls {B : Nat} {w : World} {tb : Nat} {fs : Fs} {v : Value} (h : RTreeAt B w tb fs v) (hfew : fs.length ≤ 60) :
    Calls Tryz.prog 26 #[Ptr tb] w fun e w' => ∃ v, e = .returned v ∧ TRow w' v (fs.map (·.1)) ∧ Below w.heap.size w w' := by
  obtain ⟨i0, hi, hz0, hz1, hz2⟩ := info_parts Tryz.infoStr
  have hc := h.cell
  have htb := h.lt
  obtain ⟨pa, cap, rfl, hcap, hin⟩ := FRow.of_owns h.row
  have zn : (fs.length : Int) ≤ 60 := by omega
  clear h
  go_enter Tryz.func26, Tryz.ntmps26
  go_wp2
  go_loopw [3, 4] (fun out i wr => ∃ k : Nat, k ≤ fs.length ∧ i = .int .i64 k ∧ wr.ownsRow w.heap.size 9 1 out k ((fs.take k).map fun f => sv f.1) ∧ Below w.heap.size w wr) (fun _ i _ => fs.length - (intOf i).toNat)
  case atStart => exact ⟨0, Nat.zero_le _, rfl, World.ownsRow_nil _ _ _ _, Below.refl _ _⟩
  case round =>
    obtain ⟨k, hk, rfl, hown, hB⟩ := hrel
    have d0 := (hB.cell (p := ⟨tb, 0, none⟩) htb).trans hc
    have hsz := hB.size
    by_cases hlt : k < fs.length
    · obtain ⟨g, cur, rfl, hg, hcur⟩ := hin (by intro e; rw [e] at hlt; simp at hlt)
      have hgl : g < w.heap.size := (Array.getElem?_eq_some_iff.1 hg).1
      have d1 := (hB.cell (p := ⟨g, k * 2, none⟩) hgl).trans (cell_of_row hg (hcur k hlt).1)
      have c1 : (k : Int) < (fs.length : Int) := by omega
      have c0 : (0 : Int) ≤ (k : Int) := by omega
      have hst : Hid (((fs.take (k + 1)).map fun f => sv f.1) = ((fs.take k).map fun f => sv f.1) ++ [sv fs[k].1]) := by rw [List.take_succ_eq_append_getElem hlt, List.map_append]; rfl
      clear hin hcur hg
      generalize fs[k].1 = x at *
      go_wp2_with (at_builtin; refine wpList_append_own _ rfl _ _ 41 rfl w.heap.size 9 i0 (.string ⟨#[]⟩) 1 16 Tryz.underlying41 hi hz0 hz1 hz2 rfl (by decide) _ _ _ rfl (hown.alloc _) ⟨wr.heap.size, 0, none⟩ 1 1 [.string (ba x)] rfl rfl (cell_one_new _ _ _) (by simp [Value.oneCell']) (by unfold maxLen; omega) (by omega) (by simp; omega) ?_; intro v' w4 hown' hgrow _)
      go_wp2
      go_roundw
      case rel =>
        refine ⟨k + 1, by omega, by go_num, ?_, (hB.alloc hsz _).grown hgrow (by simp; omega) (row_low hown)⟩
        rw [hst.out]
        exact hown'
      case measure => simp [intOf]; omega
    · have c1 : (fs.length : Int) ≤ (k : Int) := by omega
      obtain rfl : k = fs.length := by omega
      rw [List.take_length] at hown
      clear hin
      go_wp2
      go_ret
      refine ⟨_, rfl, TRow.of_owns (base := w.heap.size) (n := fs.length) ?_, hB⟩
      rw [List.map_map]
      exact hown
end Go.Proofs.YtigcogfjclohjaaGreatDoor
