import Derived.Test.YtdljhggillgpfaaGreatDoorSR23
namespace Go.Proofs.YtdljhggillgpfaaGreatDoor
open Go.RowKit Go.Shelf Go.Lib
structure Caches0 (es : Nat → Addr) (At : (Nat → Prop) → World → Value → Nat → Cf.Ens → Prop) : Prop where
 same : ∀ (S : Nat → Prop) (W W' : World) v m l,At S W v m l → W.heap.size ≤ W'.heap.size → (∀ k,S k → W'.heap[k]? = W.heap[k]?) → At S W' v m l
 lt : ∀ (S : Nat → Prop) (W : World) v m l,At S W v m l → ∀ k,S k → k < W.heap.size
 make : ∀ (W : World) (m : Nat),1 ≤ m → m ≤ 100 → Calls Tryz.prog 31 #[.int .i64 m] W fun e w' => ∃ p S,e = .returned (.tuple #[.pointer (some p),.nilIface]) ∧ Below W.heap.size W w' ∧ At S w' (.pointer (some p)) m [] ∧ ∀ k,S k → W.heap.size ≤ k
 no : ∀ (W : World) (m : Int),-9223372036854775808 ≤ m → m ≤ 9223372036854775807 → (m < 1 ∨ 100 < m) → W.cell? ⟨0,0,none⟩ = some (erOf es 2) → Calls Tryz.prog 31 #[.int .i64 m] W fun e w' => e = .returned (.tuple #[.pointer none,erOf es 2]) ∧ Below W.heap.size W w'
 put : ∀ (S : Nat → Prop) (W : World) p m l (k b : List UInt8),At S W (.pointer (some p)) m l → 1 ≤ m → m ≤ 100 → Cf.Ok m l → k.length ≤ 100000 → b.length ≤ 100000 → Calls Tryz.prog 233 #[.pointer (some p),.string (ba k),.string (ba b)] W fun e w' => e = .returned (.tuple #[]) ∧ Only S W w' ∧ ∃ S',At S' w' (.pointer (some p)) m (Cf.put m l k b) ∧ ∀ j,S' j → S j ∨ W.heap.size ≤ j
 get : ∀ (S : Nat → Prop) (W : World) p m l (k : List UInt8),At S W (.pointer (some p)) m l → 1 ≤ m → m ≤ 100 → Cf.Ok m l → k.length ≤ 100000 → Calls Tryz.prog 232 #[.pointer (some p),.string (ba k)] W fun e w' => e = .returned (.tuple #[.string (ba ((Cf.find l k).getD [])),.bool (Cf.find l k).isSome]) ∧ Only S W w' ∧ ∃ S',At S' w' (.pointer (some p)) m (Cf.get m l k) ∧ ∀ j,S' j → S j ∨ W.heap.size ≤ j
def KeyTells (W0 : World) : Prop := ∀ (W : World),Below W0.heap.size W0 W → ∀ (kind word : List UInt8) v ins,XRow W v ins → kind.length ≤ 200 → word.length ≤ 200 → ins.length ≤ 12 → (∀ x ∈ ins,x.length ≤ 3000) → Calls Tryz.prog 231 #[.string (ba kind),.string (ba word),v] W fun e w' => e = .returned (.string (ba (Kp.key kind word ins))) ∧ Below W.heap.size W w'
end Go.Proofs.YtdljhggillgpfaaGreatDoor
