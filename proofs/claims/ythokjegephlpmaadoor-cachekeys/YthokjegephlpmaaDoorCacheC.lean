/- What package cache's functions are to do; the document's answer's KeyOf; the closed fact. -/
import Derived.Test.YthokjegephlpmaaDoorCacheM2
import Derived.Test.YthokjegephlpmaaDoorKeyT
import Derived.Test.YthokjegephlpmaaDoorRDecimal
import Derived.Test.YthokjegephlpmaaDoorCodedE
import Derived.Deep.RegionHeld3
namespace Go.Proofs.YthokjegephlpmaaDoor
open Go.RowKit Go.Shelf Go.Lib

/-- What package cache's functions do. At S W v m l: v is a cache with room for m that keeps l; S: the blocks that it lies in. -/
structure Caches (es : Nat → Addr) (At : (Nat → Prop) → World → Value → Nat → Cf.Ens → Prop) : Prop where
  same : ∀ (S : Nat → Prop) (W W' : World) v m l, At S W v m l → W.heap.size ≤ W'.heap.size → (∀ k, S k → W'.heap[k]? = W.heap[k]?) → At S W' v m l
  lt : ∀ (S : Nat → Prop) (W : World) v m l, At S W v m l → ∀ k, S k → k < W.heap.size
  make : ∀ (W : World) (m : Nat), 1 ≤ m → m ≤ 100 → Calls Tryd.prog 12 #[.int .i64 m] W fun e w' => ∃ p S, e = .returned (.tuple #[.pointer (some p), .nilIface]) ∧ Below W.heap.size W w' ∧ At S w' (.pointer (some p)) m [] ∧ ∀ k, S k → W.heap.size ≤ k
  no : ∀ (W : World) (m : Int), -9223372036854775808 ≤ m → m ≤ 9223372036854775807 → (m < 1 ∨ 100 < m) → W.cell? ⟨0, 0, none⟩ = some (erOf es 2) → Calls Tryd.prog 12 #[.int .i64 m] W fun e w' => e = .returned (.tuple #[.pointer none, erOf es 2]) ∧ Below W.heap.size W w'
  put : ∀ (S : Nat → Prop) (W : World) p m l (k b : List UInt8), At S W (.pointer (some p)) m l → 1 ≤ m → m ≤ 100 → Cf.Ok m l → k.length ≤ 10000 → b.length ≤ 10000 → Calls Tryd.prog 14 #[.pointer (some p), .string (ba k), .string (ba b)] W fun e w' => e = .returned (.tuple #[]) ∧ Only S W w' ∧ ∃ S', At S' w' (.pointer (some p)) m (Cf.put m l k b) ∧ ∀ j, S' j → S j ∨ W.heap.size ≤ j
  get : ∀ (S : Nat → Prop) (W : World) p m l (k : List UInt8), At S W (.pointer (some p)) m l → 1 ≤ m → m ≤ 100 → Cf.Ok m l → k.length ≤ 10000 → Calls Tryd.prog 13 #[.pointer (some p), .string (ba k)] W fun e w' => e = .returned (.tuple #[.string (ba ((Cf.find l k).getD [])), .bool (Cf.find l k).isSome]) ∧ Only S W w' ∧ ∃ S', At S' w' (.pointer (some p)) m (Cf.get m l k) ∧ ∀ j, S' j → S j ∨ W.heap.size ≤ j
  keys : ∀ (S : Nat → Prop) (W : World) p m l, At S W (.pointer (some p)) m l → 1 ≤ m → m ≤ 100 → Cf.Ok m l → Calls Tryd.prog 20 #[.pointer (some p)] W fun e w' => ∃ u, e = .returned u ∧ IRow w' u (Cf.keys l) ∧ Below W.heap.size W w'
  len : ∀ (S : Nat → Prop) (W : World) p m l, At S W (.pointer (some p)) m l → 1 ≤ m → m ≤ 100 → Cf.Ok m l → Calls Tryd.prog 15 #[.pointer (some p)] W fun e w' => e = .returned (.int .i64 (l.length : Int)) ∧ Below W.heap.size W w'
/-- What package cache's Key tells, from a world on. -/
def KeyTells (W0 : World) : Prop := ∀ (W : World), Below W0.heap.size W0 W → ∀ (kind word : List UInt8) v ins, XRow W v ins → kind.length ≤ 100 → word.length ≤ 100 → ins.length ≤ 10 → (∀ x ∈ ins, x.length ≤ 300) → Calls Tryd.prog 8 #[.string (ba kind), .string (ba word), v] W fun e w' => e = .returned (.string (ba (Kp.key kind word ins))) ∧ Below W.heap.size W w'

theorem Only.step {B : Nat} {S S' : Nat → Prop} {W w w' : World} (hB : Below B W w) (hz : B ≤ w.heap.size) (hS : ∀ j, S j → B ≤ j) (h : Only S w w') (hS' : ∀ j, S' j → S j ∨ w.heap.size ≤ j) : Below B W w' ∧ B ≤ w'.heap.size ∧ ∀ j, S' j → B ≤ j :=
  ⟨hB.trans (h.below hS hz), Nat.le_trans hz h.size, fun j hj => by
    rcases hS' j hj with h1 | h1
    · exact hS j h1
    · omega⟩

set_option maxRecDepth 100000 in
set_option maxHeartbeats 4000000 in
/-- The closed fact: one goes. -/
theorem cached_calls {es : Nat → Addr} {At : (Nat → Prop) → World → Value → Nat → Cf.Ens → Prop} (HC : Caches es At) (W : World) :
    Calls Tryd.prog 6 #[] W fun e w' => e = .returned (.bool true) ∧ Below W.heap.size W w' := by
  have HN := hid1 (HC.make W 1 (by omega) (by omega))
  have HP := hid1 HC.put
  have HG := hid1 HC.get
  have HLn := hid1 HC.len
  clear HC
  go_enter Tryd.func6, Tryd.ntmps6
  go_wp2_with fail
  refine HN.out.mono ?_
  rintro e w1 ⟨p, S, rfl, g1, hA, hS⟩
  have z1 := g1.size
  have H1 := hid1 (HP.out S w1 p 1 [] [97] [120] hA (by omega) (by omega) (Cf.Ok.nil 1) (by simp) (by simp))
  clear HN hA
  go_wp2_with fail
  refine H1.out.mono ?_
  rintro e w2 ⟨rfl, o2, S2, hA2, hS2⟩
  obtain ⟨g2, z2, t2⟩ := Only.step g1 z1 hS o2 hS2
  have H2 := hid1 (HP.out S2 w2 p 1 [([97], [120])] [98] [121] hA2 (by omega) (by omega) ⟨by simp, by simp [Cf.keys]⟩ (by simp) (by simp))
  clear H1 hA2 o2 hS2
  go_wp2_with fail
  refine H2.out.mono ?_
  rintro e w3 ⟨rfl, o3, S3, hA3, hS3⟩
  obtain ⟨g3, z3, t3⟩ := Only.step g2 z2 t2 o3 hS3
  have H3 := hid1 (HG.out S3 w3 p 1 [([98], [121])] [97] hA3 (by omega) (by omega) ⟨by simp, by simp [Cf.keys]⟩ (by simp))
  clear H2 hA3 o3 hS3 HP
  go_wp2_with fail
  refine H3.out.mono ?_
  rintro e w4 ⟨rfl, o4, S4, hA4, hS4⟩
  obtain ⟨g4, z4, t4⟩ := Only.step g3 z3 t3 o4 hS4
  have H4 := hid1 (HG.out S4 w4 p 1 [([98], [121])] [98] hA4 (by omega) (by omega) ⟨by simp, by simp [Cf.keys]⟩ (by simp))
  clear H3 hA4 o4 hS4 HG
  go_wp2_with fail
  refine H4.out.mono ?_
  rintro e w5 ⟨rfl, o5, S5, hA5, hS5⟩
  obtain ⟨g5, z5, t5⟩ := Only.step g4 z4 t4 o5 hS5
  have H5 := hid1 (HLn.out S5 w5 p 1 [([98], [121])] hA5 (by omega) (by omega) ⟨by simp, by simp [Cf.keys]⟩)
  clear H4 hA5 o5 hS5 HLn
  have e1 : Cf.find [([98], [121])] [97] = none := by decide
  have e2 : Cf.find [([98], [121])] [98] = some [121] := by decide
  rw [e1, e2]
  simp only [Option.getD_some, Option.getD_none, Option.isSome_some, Option.isSome_none]
  go_wp2_with fail
  refine H5.out.mono ?_
  rintro e w6 ⟨rfl, g6⟩
  have g7 : Below W.heap.size W w6 := g5.trans (g6.mono z5)
  clear H5
  go_wp2
  go_ret
  exact ⟨rfl, g7⟩
end Go.Proofs.YthokjegephlpmaaDoor
