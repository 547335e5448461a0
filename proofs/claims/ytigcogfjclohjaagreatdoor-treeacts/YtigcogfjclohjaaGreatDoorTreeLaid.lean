/- What the listed variables and the world's shape give the walks of package tree; acts that came in, opened. -/
import Derived.Test.YtigcogfjclohjaaGreatDoorTreeBack
import Derived.Test.YtigcogfjclohjaaGreatDoorTLaid
import Derived.Test.YtigcogfjclohjaaGreatDoorRows
import Derived.ProofKit
import Derived.LaidMore
import Derived.OpenShut
import Derived.Stop.Joined
import Derived.Stop.LaidErr
import Derived.Lay
import Derived.HandedShaped
import Derived.Shelf.Vars
import Derived.Lib.LaidTab
import Derived.Deep.Slices
import Derived.Deep.Strs
import Derived.Carry
import Derived.SizedLaws
namespace Go.Proofs.YtigcogfjclohjaaGreatDoor.TL
open Go.ChangeShapes Go.WideShapes Go.ChangeAt Go.WideMaps Go.WideElems Go.RowKit Go.Deep

theorem cellsAct : Tryz.prog.cellsOf 37 = 3 := by kernel_rfl

section
variable {H : Type} {enc : TypeId × Value → H}
instance : Inhabited (ByteArray × ByteArray × ByteArray) := ⟨(ByteArray.empty, ByteArray.empty, ByteArray.empty)⟩

/-- An act, as it reads. -/
def actD (q : ByteArray × ByteArray × ByteArray) : DataW H := .agg [.lit (.string q.1.data.toList), .lit (.string q.2.1.data.toList), .lit (.string q.2.2.data.toList)]

set_option maxRecDepth 100000 in
/-- Acts that came in: nil, or a row of three cells an act. -/
theorem open_acts {W : World} {sp : Nat → Bool} {fuel : Nat} {cs : List Value} {x : DataW H × List MemPlace} (h : DataW.trod enc Tryz.prog W 0 sp true fuel 34 cs = some x) :
    (cs = [.slice none 0 0]) ∨
    ∃ (a : Addr) (len cap : Nat) (I : Nat → ByteArray × ByteArray × ByteArray) (spare : List (DataW H)), cs = [.slice (some a) len cap] ∧ x.1 = .slice ((List.range len).map fun i => actD (I i)) spare ∧
      ∀ i, i < len → W.cell? (a.add (i * 3)) = some (.string (I i).1) ∧ W.cell? (a.add (i * 3 + 1)) = some (.string (I i).2.1) ∧ W.cell? (a.add (i * 3 + 2)) = some (.string (I i).2.2) := by
  rcases open_slice Tryz.underlying34 h with h0 | ⟨a, len, cap, m, n, D, Pl, rfl, hb, hl, hm, hmm, rfl, hx⟩
  · exact Or.inl h0.1
  right
  have hlm : len ≤ m := by rw [hmm]; split <;> omega
  have each : ∀ i, i < m → ∃ q : ByteArray × ByteArray × ByteArray, W.cell? (a.add (i * 3)) = some (.string q.1) ∧ W.cell? (a.add (i * 3 + 1)) = some (.string q.2.1) ∧ W.cell? (a.add (i * 3 + 2)) = some (.string q.2.2) ∧ D i = actD q := by
    intro i hi
    obtain ⟨cs', h1, h2⟩ := hx i hi
    rw [cellsAct] at h1
    obtain ⟨_, hlen, hcell⟩ := World.cells?_some h1
    obtain ⟨y0, y1, y2, k, hxy, _, u0, u1, u2⟩ := trod_struct3 Tryz.underlying37 h2
    match cs', hlen with
    | [v0, v1, v2], _ =>
      simp only [cellsStr, List.drop, List.take] at u0 u1 u2
      obtain ⟨s0, e0, d0, _⟩ := DataW.trod_string Tryz.underlying9 u0
      obtain ⟨s1, e1, d1, _⟩ := DataW.trod_string Tryz.underlying9 u1
      obtain ⟨s2, e2, d2, _⟩ := DataW.trod_string Tryz.underlying9 u2
      simp only [List.cons.injEq, and_true] at e0 e1 e2
      subst e0; subst e1; subst e2
      have c0 := hcell 0 (by omega)
      have c1 := hcell 1 (by omega)
      have c2 := hcell 2 (by omega)
      rw [add_add] at c0 c1 c2
      simp only [Prod.mk.injEq] at hxy
      exact ⟨(s0, s1, s2), by simpa using c0, by simpa using c1, by simpa using c2, by rw [hxy.1, d0, d1, d2]; rfl⟩
  obtain ⟨q, hq⟩ := choose_lt each
  refine ⟨a, len, cap, q, (List.range (m - len)).map fun j => D (len + j), rfl, ?_, fun i hi => ⟨(hq i (by omega)).1, (hq i (by omega)).2.1, (hq i (by omega)).2.2.1⟩⟩
  rw [List.map_congr_left (fun i hi => (hq i (by have := List.mem_range.1 hi; omega)).2.2.2)]

theorem weightsAll_mem {P : Program} {e : TypeId} {n : Nat} : ∀ {l : List (DataW H)} {d : DataW H}, d ∈ l → n ∈ d.weights P e → n ∈ DataW.weightsAll P e l
  | x :: r, d, h, hn => by
    unfold DataW.weightsAll
    rcases List.mem_cons.1 h with rfl | h
    · exact List.mem_append_left _ hn
    · exact List.mem_append_right _ (weightsAll_mem h hn)

theorem act_sizes {l spare : List (DataW H)} {q : ByteArray × ByteArray × ByteArray} {ts : List TypeId} (h : (DataW.weightsEach Tryz.prog (34 :: ts) [.slice l spare]).all (· ≤ reachBytes) = true) (hq : actD q ∈ l) :
    q.2.1.data.toList.length ≤ reachBytes ∧ q.2.2.data.toList.length ≤ reachBytes := by
  have key : ∀ n, n ∈ (actD (H := H) q).weights Tryz.prog 37 → n ≤ reachBytes := fun n hn => by
    have hm : n ∈ DataW.weights Tryz.prog 34 (.slice l spare) := by
      unfold DataW.weights
      rw [Tryz.underlying34]
      exact List.mem_cons_of_mem _ (List.mem_append_left _ (weightsAll_mem hq hn))
    have := List.all_eq_true.1 h n (DataW.weights_mem_each (j := 0) rfl rfl n hm)
    simpa using this
  have hw : (actD (H := H) q).weights Tryz.prog 37 = [q.1.data.toList.length, q.2.1.data.toList.length, q.2.2.data.toList.length] := by
    unfold actD DataW.weights
    rw [Tryz.underlying37]
    rfl
  rw [hw] at key
  exact ⟨key _ (by simp), key _ (by simp)⟩
end

/-- The errors, by their numbers. -/
def errOf (a1 a2 a3 a4 a6 a7 a8 : Addr) : Nat → Value
  | 0 => .nilIface
  | 1 => .iface 236 (.pointer (some a1))
  | 2 => .iface 236 (.pointer (some a2))
  | 3 => .iface 236 (.pointer (some a3))
  | 4 => .iface 236 (.pointer (some a4))
  | 5 => .iface 236 (.pointer (some a4))
  | 6 => .iface 236 (.pointer (some a6))
  | 7 => .iface 236 (.pointer (some a7))
  | 8 => .iface 236 (.pointer (some a8))
  | _ + 9 => .iface 236 (.pointer (some a8))

theorem back_laid {W : World} (h : laidMetH Tryz.prog Rows.treeBackRow.laid W) : ∃ er, TErr W er ∧ Pow W := by
  rw [MakeChecks.laidMetH_plain _ _ _ (by kernel_rfl)] at h
  have h3 := h.tail.tail
  have hP := pow_laid h3
  have h := h3.tail
  obtain ⟨a1, e1⟩ := sentinel1 0 h (by kernel_rfl) (by kernel_rfl)
  have h := h.tail
  obtain ⟨a2, e2⟩ := sentinel1 4 h (by kernel_rfl) (by kernel_rfl)
  have h := h.tail
  obtain ⟨a3, e3⟩ := sentinel1 1 h (by kernel_rfl) (by kernel_rfl)
  have h := h.tail
  obtain ⟨a4, e4⟩ := sentinel1 5 h (by kernel_rfl) (by kernel_rfl)
  have h := h.tail
  obtain ⟨a6, e6⟩ := sentinel1 2 h (by kernel_rfl) (by kernel_rfl)
  have h := h.tail
  obtain ⟨a7, e7⟩ := sentinel1 7 h (by kernel_rfl) (by kernel_rfl)
  have h := h.tail
  obtain ⟨a8, e8⟩ := sentinel1 8 h (by kernel_rfl) (by kernel_rfl)
  refine ⟨errOf a1 a2 a3 a4 a6 a7 a8, ⟨e1, e2, e3, e4, e6, e7, e8, fun k => ?_, rfl⟩, hP⟩
  match k with
  | 0 => exact ⟨_, _, rfl⟩
  | 1 => exact ⟨_, _, rfl⟩
  | 2 => exact ⟨_, _, rfl⟩
  | 3 => exact ⟨_, _, rfl⟩
  | 4 => exact ⟨_, _, rfl⟩
  | 5 => exact ⟨_, _, rfl⟩
  | 6 => exact ⟨_, _, rfl⟩
  | 7 => exact ⟨_, _, rfl⟩
  | _ + 8 => exact ⟨_, _, rfl⟩

theorem back_met (os : Os) (args : Array Value) : laidMetH Tryz.prog Rows.treeBackRow.laid ((World.laidAll Tryz.prog os Rows.treeBackRow.laid).forCall (fun _ _ => 0) ⟨#[], args, []⟩).memory := by
  rw [MakeChecks.laidMetH_plain _ _ _ (by kernel_rfl)]
  exact laidMet_laidAll _ (by kernel_rfl) (by kernel_rfl)

/-- TreeBack at whatever came in. -/
theorem back_any {H : Type} {enc : TypeId × Value → H} {W : World} {v0 : Value} {d0 : DataW H} {p : List MemPlace} {ts : List TypeId} (h0 : DataW.Trod enc Tryz.prog W 0 (fun _ => true) true 34 v0 d0 p) (hsl : ∃ a len cap, v0 = .slice a len cap) (hz : (DataW.weightsEach Tryz.prog (34 :: ts) [d0]).all (· ≤ reachBytes) = true) (hL : laidMetH Tryz.prog Rows.treeBackRow.laid W) (hsh : W.ShapedOpen Tryz.prog) :
    Calls Tryz.prog 4 #[v0] W fun e w' => e = .returned (.bool true) ∧ Below W.heap.size W w' := by
  obtain ⟨er, hE, hP⟩ := back_laid hL
  obtain ⟨m, hm⟩ := maxLen_cell hsh
  obtain ⟨sa, sl, sc, rfl⟩ := hsl
  obtain ⟨fuel, hf⟩ := h0
  rcases open_acts hf with hc | ⟨a, len, cap, I, spare, hc, hx, hin⟩
  · have : (Value.slice sa sl sc).cells.toList = [.slice sa sl sc] := rfl
    rw [this] at hc
    obtain ⟨rfl, rfl, rfl⟩ : sa = none ∧ sl = 0 ∧ sc = 0 := by simpa using hc
    exact TreeBack_few W er hE hP m hm none 0 [] (by simp) (by simp) (by simp)
  · have : (Value.slice sa sl sc).cells.toList = [.slice sa sl sc] := rfl
    rw [this] at hc
    obtain ⟨rfl, rfl, rfl⟩ : sa = some a ∧ sl = len ∧ sc = cap := by simpa using hc
    simp only at hx
    subst hx
    rcases Nat.lt_or_ge 80 sl with hn | hn
    · exact TreeBack_many W er hE hP (some a) sl sc hn
    · have hll : ((List.range sl).map fun i => ((I i).1.data.toList, (I i).2.1.data.toList, (I i).2.2.data.toList)).length = sl := by simp
      have := TreeBack_few W er hE hP m hm (some a) sc ((List.range sl).map fun i => ((I i).1.data.toList, (I i).2.1.data.toList, (I i).2.2.data.toList)) (by simpa using hn) (fun x hx => by
        obtain ⟨i, hi, rfl⟩ := List.mem_map.1 hx
        obtain ⟨z1, z2⟩ := act_sizes (q := I i) hz (List.mem_map.2 ⟨i, hi, rfl⟩)
        exact ⟨Nat.le_trans z1 (by decide), Nat.le_trans z2 (by decide)⟩) (fun hne => by
        have h0 : 0 < sl := by
          rcases Nat.eq_zero_or_pos sl with e | e
          · subst e; simp at hne
          · exact e
        have hs : a.spot = none := World.cell?_spot (a := a.add (0 * 3)) (hin 0 h0).1
        obtain ⟨ab, ao, sp⟩ := a
        cases hs
        refine ⟨ab, ao, rfl, lt_of_cell (hin 0 h0).1, fun j hj => ?_⟩
        rw [hll] at hj
        obtain ⟨c0, c1, c2⟩ := hin j hj
        rw [add_plain] at c0 c1 c2
        rw [← Nat.add_assoc] at c1 c2
        simp only [List.getElem_map, List.getElem_range]
        exact ⟨c0.trans (congrArg (fun s => some (Value.string s)) (ba_self _)), c1.trans (congrArg (fun s => some (Value.string s)) (ba_self _)), c2.trans (congrArg (fun s => some (Value.string s)) (ba_self _))⟩)
      rw [hll] at this
      exact this
end Go.Proofs.YtigcogfjclohjaaGreatDoor.TL
