import Derived.Test.YtmhipgompplkdaaGreatDoorWL09
import Derived.Test.YtmhipgompplkdaaGreatDoorWL08
import Derived.Test.YtmhipgompplkdaaGreatDoorWL07
import Derived.Deep.RegionHeld3
import Derived.Test.YtmhipgompplkdaaGreatDoorWL04
import Derived.Lib.SlicesCompact
namespace Go.Proofs.YtmhipgompplkdaaGreatDoor
open Go.RowKit Go.Extern.Stop Go.Stop Go.Extern
theorem Tryz.elemOfP (w : World) : (Rtype.elem? 222).run Tryz.prog w = .ok (some 179) w := by kernel_rfl
theorem Tryz.mkF (p : Addr) (w : World) : (ReflectliteValue.mk 179 p ReflectliteValue.flagAddr).run Tryz.prog w = .ok (.agg #[.pointer (some ⟨21, 179, none⟩), .pointer (some p), .int .u64 406]) w := by kernel_rfl
theorem Tryz.elemVP (a p : Addr) (W : World) (ha : W.cell? a = some (.pointer (some p))) :
    (ReflectliteValue.method (ReflectliteValue.valueError "reflectlite.Value.Elem" 0) ReflectliteValue.elem #[.agg #[.pointer (some ⟨21, 222, none⟩), .pointer (some a), .int .u64 150]]).run Tryz.prog W
      = .ok (.agg #[.pointer (some ⟨21, 179, none⟩), .pointer (some p), .int .u64 406]) W := by
  rw [rlm]
  simp only [Sem.run_bind, Tryz.partsP, Result.andThen]
  simp [ReflectliteValue.elem, loadVar, isAgg, underlying, Tryz.underlying222, ha, Result.andThen, Tryz.elemOfP, Tryz.mkF]
theorem rls (v x : Value) : ReflectliteValue.set #[v, x] = (do
    let (some (dst, a, fl), some (src, b, _)) := (← ReflectliteValue.parts v, ← ReflectliteValue.parts x)
      | unsupported (.noEntry "extern/(internal/reflectlite.Value).Set.zeroValue")
    if fl / ReflectliteValue.flagAddr % 2 == 0 then unsupported (.noEntry "extern/(internal/reflectlite.Value).Set.unaddressable")
    let val ← loadVar src b
    if ← Rtype.directlyAssignable dst src then storeVar dst a val
    else if ← Rtype.implements dst src then
      if (← Rtype.kind src) == 20 then
        match val with
        | .nilIface => unsupported (.noEntry "extern/reflectlite: a nil value of one interface type handed on as a value of another")
        | _ => storeVar dst a val
      else storeVar dst a (.iface src val)
    else panicString ("reflectlite.Set: value of type " ++ (← Rtype.spelt src) ++ " is not assignable to type " ++ (← Rtype.spelt dst))
    pure (.tuple #[])) := rfl
theorem Tryz.partsFa (a : Addr) (w : World) : (ReflectliteValue.parts (.agg #[.pointer (some ⟨21, 179, none⟩), .pointer (some a), .int .u64 406])).run Tryz.prog w = .ok (some (179, a, 406)) w := by kernel_rfl
theorem Tryz.partsF (a : Addr) (w : World) : (ReflectliteValue.parts (.agg #[.pointer (some ⟨21, 179, none⟩), .pointer (some a), .int .u64 150])).run Tryz.prog w = .ok (some (179, a, 150)) w := by kernel_rfl
theorem Tryz.directF (w : World) : (Rtype.directlyAssignable 179 179).run Tryz.prog w = .ok true w := by kernel_rfl
theorem Tryz.setF (ta b e : Addr) (old : Value) (W : World) (hb : W.cell? b = some (.pointer (some e))) (ht : W.cell? ta = some old) (hf : W.frozen? ta = false) :
    (ReflectliteValue.set #[.agg #[.pointer (some ⟨21, 179, none⟩), .pointer (some ta), .int .u64 406], .agg #[.pointer (some ⟨21, 179, none⟩), .pointer (some b), .int .u64 150]]).run Tryz.prog W
      = .ok (.tuple #[]) (W.setCell ta (.pointer (some e))) := by
  rw [rls]
  simp only [Sem.run_bind, Tryz.partsFa, Tryz.partsF, Result.andThen]
  simp [ReflectliteValue.flagAddr, loadVar, isAgg, underlying, Tryz.underlying179, hb, Result.andThen, Tryz.directF, storeVar, Value.cells, storeCells, Addr.add]
  rw [run_store Tryz.prog W ta _ _ (by rfl)]
  simp [ht, hf]
set_option maxHeartbeats 4000000 in
theorem as_hit (e t : Addr) (old : Value) (w : World) (hg : w.cell? ⟨12, 0, none⟩ = some (.iface 331 (.agg #[.pointer (some ⟨21, 25, none⟩)]))) (ht0 : w.cell? t = some old) (hf0 : w.frozen? t = false) :
    Calls Tryz.prog 138 #[.iface 179 (.pointer (some e)), .iface 222 (.pointer (some t))] w fun ev w' => ev = .returned (.bool true) ∧ w' = ((((w.alloc (.cells #[.pointer (some t)] 222)).alloc (.cells #[.pointer (some ⟨21, 222, none⟩), .pointer (some ⟨w.heap.size, 0, none⟩), .int .u64 150] 273)).alloc (.cells #[.pointer (some ⟨21, 222, none⟩), .pointer (some ⟨w.heap.size, 0, none⟩), .int .u64 150] 273)).alloc (.cells #[.pointer (some e)] 179)).setCell t (.pointer (some e)) := by
  have h8 := @run_callFunc_extern Tryz.prog 190 _ (ReflectliteValue.method (ReflectliteValue.valueError "reflectlite.Value.IsNil" 0) ReflectliteValue.isNil) Tryz.func190 (by kernel_rfl) (by kernel_rfl) (by kernel_rfl) (by kernel_rfl)
  have h11 := @run_callFunc_extern Tryz.prog 264 _ (ReflectliteValue.method (ReflectliteValue.valueError "reflectlite.Value.Elem" 0) ReflectliteValue.elem) Tryz.func264 (by kernel_rfl) (by kernel_rfl) (by kernel_rfl) (by kernel_rfl)
  have h12 := @run_callFunc_extern Tryz.prog 265 _ ReflectliteValue.set Tryz.func265 (by kernel_rfl) (by kernel_rfl) (by kernel_rfl) (by kernel_rfl)
  have tO := Tryz.typeOfF
  have mA := Tryz.methodAssignableTo
  have a25 := Tryz.assignableF
  have v25 := Tryz.valueOfF
  have f6 := Tryz.valueOfP
  have f7 := Tryz.typeP
  have mK := Tryz.methodKind
  have mE := Tryz.methodElem
  have mI := Tryz.methodImplements
  have k27 := Tryz.kindP
  have k25 := Tryz.kindF
  have e27 := Tryz.elemP
  have i25 := Tryz.implementsF
  have n8 := Tryz.isNilP ⟨w.heap.size, 0, none⟩ t ((w.alloc (.cells #[.pointer (some t)] 222)).alloc (.cells #[.pointer (some ⟨21, 222, none⟩), .pointer (some ⟨w.heap.size, 0, none⟩), .int .u64 150] 273)) (by simp)
  have hlt : 12 < w.heap.size := by
    rcases Nat.lt_or_ge 12 w.heap.size with h | h
    · exact h
    · simp [World.cell?, Array.getElem?_eq_none h] at hg
  have hg2 : ((w.alloc (.cells #[.pointer (some t)] 222)).alloc (.cells #[.pointer (some ⟨21, 222, none⟩), .pointer (some ⟨w.heap.size, 0, none⟩), .int .u64 150] 273)).cell? ⟨12, 0, none⟩ = some (.iface 331 (.agg #[.pointer (some ⟨21, 25, none⟩)])) := by
    rw [World.cell?_alloc_lt _ _ ⟨12, 0, none⟩ (by simp; omega), World.cell?_alloc_lt _ _ ⟨12, 0, none⟩ hlt]; exact hg
  have htl : t.block < w.heap.size := by
    rcases Nat.lt_or_ge t.block w.heap.size with h | h
    · exact h
    · simp [World.cell?, Array.getElem?_eq_none h] at ht0
  have el := Tryz.elemVP ⟨w.heap.size, 0, none⟩ t (((w.alloc (.cells #[.pointer (some t)] 222)).alloc (.cells #[.pointer (some ⟨21, 222, none⟩), .pointer (some ⟨w.heap.size, 0, none⟩), .int .u64 150] 273)).alloc (.cells #[.pointer (some ⟨21, 222, none⟩), .pointer (some ⟨w.heap.size, 0, none⟩), .int .u64 150] 273)) (by rw [World.cell?_alloc_lt _ _ ⟨w.heap.size, 0, none⟩ (by simp; omega)]; simp)
  have st := Tryz.setF t ⟨w.heap.size + 1 + 1 + 1, 0, none⟩ e old ((((w.alloc (.cells #[.pointer (some t)] 222)).alloc (.cells #[.pointer (some ⟨21, 222, none⟩), .pointer (some ⟨w.heap.size, 0, none⟩), .int .u64 150] 273)).alloc (.cells #[.pointer (some ⟨21, 222, none⟩), .pointer (some ⟨w.heap.size, 0, none⟩), .int .u64 150] 273)).alloc (.cells #[.pointer (some e)] 179))
    (by rw [World.cell?_alloc_at _ _ _ _ (by simp)]; rfl)
    (by rw [World.cell?_alloc_lt _ _ t (by simp; omega), World.cell?_alloc_lt _ _ t (by simp; omega), World.cell?_alloc_lt _ _ t (by simp; omega), World.cell?_alloc_lt _ _ t htl]; exact ht0)
    (by rw [World.frozen?_alloc_old _ _ t (by simp; omega), World.frozen?_alloc_old _ _ t (by simp; omega), World.frozen?_alloc_old _ _ t (by simp; omega), World.frozen?_alloc_old _ _ t (Nat.ne_of_lt htl)]; exact hf0)
  go_enter Tryz.func138, Tryz.ntmps138
  go_wp2
  refine wp_loop_rounds 1 ?_
  rw [rounds_succ]
  go_wp2
  go_ret
  exact ⟨rfl, rfl⟩
end Go.Proofs.YtmhipgompplkdaaGreatDoor
namespace Go.Proofs.YtmhipgompplkdaaGreatDoor
open Go.RowKit
def erOf (es : Nat → Addr) : Nat → Value
  | 0 => .nilIface
  | k + 1 => .iface 399 (.pointer (some (es k)))
end Go.Proofs.YtmhipgompplkdaaGreatDoor
namespace Go.Proofs.YtmhipgompplkdaaGreatDoor
open Go.RowKit Go.Shelf Go.Lib
structure Caches0 (es : Nat → Addr) (At : (Nat → Prop) → World → Value → Nat → Cf.Ens → Prop) : Prop where
  same : ∀ (S : Nat → Prop) (W W' : World) v m l, At S W v m l → W.heap.size ≤ W'.heap.size → (∀ k, S k → W'.heap[k]? = W.heap[k]?) → At S W' v m l
  lt : ∀ (S : Nat → Prop) (W : World) v m l, At S W v m l → ∀ k, S k → k < W.heap.size
  make : ∀ (W : World) (m : Nat), 1 ≤ m → m ≤ 100 → Calls Tryz.prog 59 #[.int .i64 m] W fun e w' => ∃ p S, e = .returned (.tuple #[.pointer (some p), .nilIface]) ∧ Below W.heap.size W w' ∧ At S w' (.pointer (some p)) m [] ∧ ∀ k, S k → W.heap.size ≤ k
  no : ∀ (W : World) (m : Int), -9223372036854775808 ≤ m → m ≤ 9223372036854775807 → (m < 1 ∨ 100 < m) → W.cell? ⟨4, 0, none⟩ = some (erOf es 2) → Calls Tryz.prog 59 #[.int .i64 m] W fun e w' => e = .returned (.tuple #[.pointer none, erOf es 2]) ∧ Below W.heap.size W w'
  put : ∀ (S : Nat → Prop) (W : World) p m l (k b : List UInt8), At S W (.pointer (some p)) m l → 1 ≤ m → m ≤ 100 → Cf.Ok m l → k.length ≤ 100000 → b.length ≤ 100000 → Calls Tryz.prog 174 #[.pointer (some p), .string (ba k), .string (ba b)] W fun e w' => e = .returned (.tuple #[]) ∧ Only S W w' ∧ ∃ S', At S' w' (.pointer (some p)) m (Cf.put m l k b) ∧ ∀ j, S' j → S j ∨ W.heap.size ≤ j
  get : ∀ (S : Nat → Prop) (W : World) p m l (k : List UInt8), At S W (.pointer (some p)) m l → 1 ≤ m → m ≤ 100 → Cf.Ok m l → k.length ≤ 100000 → Calls Tryz.prog 173 #[.pointer (some p), .string (ba k)] W fun e w' => e = .returned (.tuple #[.string (ba ((Cf.find l k).getD [])), .bool (Cf.find l k).isSome]) ∧ Only S W w' ∧ ∃ S', At S' w' (.pointer (some p)) m (Cf.get m l k) ∧ ∀ j, S' j → S j ∨ W.heap.size ≤ j
def KeyTells (W0 : World) : Prop := ∀ (W : World), Below W0.heap.size W0 W → ∀ (kind word : List UInt8) v ins, XRow W v ins → kind.length ≤ 200 → word.length ≤ 200 → ins.length ≤ 12 → (∀ x ∈ ins, x.length ≤ 3000) → Calls Tryz.prog 172 #[.string (ba kind), .string (ba word), v] W fun e w' => e = .returned (.string (ba (Kp.key kind word ins))) ∧ Below W.heap.size W w'
theorem Only.step {B : Nat} {S S' : Nat → Prop} {W w w' : World} (hB : Below B W w) (hz : B ≤ w.heap.size) (hS : ∀ j, S j → B ≤ j) (h : Only S w w') (hS' : ∀ j, S' j → S j ∨ w.heap.size ≤ j) : Below B W w' ∧ B ≤ w'.heap.size ∧ ∀ j, S' j → B ≤ j :=
  ⟨hB.trans (h.below hS hz), Nat.le_trans hz h.size, fun j hj => by
    rcases hS' j hj with h1 | h1
    · exact hS j h1
    · omega⟩
end Go.Proofs.YtmhipgompplkdaaGreatDoor
namespace Go.Proofs.YtmhipgompplkdaaGreatDoor
open Go.RowKit Go.Shelf Go.Lib
namespace Af
def lines : List UInt8 → List (List UInt8)
  | [] => []
  | c :: r => if c = 10 then [] :: lines r else match lines r with
    | [] => [[c]]
    | p :: ps => (c :: p) :: ps
def told (l : List (List UInt8)) : List UInt8 := l.flatMap fun x => x ++ [10]
def all (l : List (List UInt8)) : List (List UInt8) := l.flatMap lines
def srt (l : List (List UInt8)) : List (List UInt8) := l.mergeSort fun x y => decide (x ≤ y)
theorem cut_lines (s : List UInt8) : cutB 10 s = (if s = [] then [[]] else if s.getLast? = some 10 then lines s ++ [[]] else lines s) := by
  induction s with
  | nil => rfl
  | cons c r ih =>
    rw [if_neg (List.cons_ne_nil c r)]
    by_cases hr : r = []
    · subst hr
      by_cases hc : c = 10 <;> simp [hc, cutB, lines]
    · rw [if_neg hr] at ih
      have hg : (c :: r).getLast? = r.getLast? := by
        cases r with
        | nil => exact absurd rfl hr
        | cons x y => exact List.getLast?_cons_cons
      rw [hg]
      have hl : lines r ≠ [] := by
        cases r with
        | nil => exact absurd rfl hr
        | cons x y =>
          unfold lines
          split
          · simp
          · split <;> simp
      by_cases hc : c = 10
      · simp only [cutB, lines, if_pos hc, ih]
        split <;> simp
      · simp only [cutB, lines, if_neg hc]
        by_cases h10 : r.getLast? = some 10
        · rw [if_pos h10] at ih
          simp only [ih, if_pos h10]
          cases hL : lines r with
          | nil => exact absurd hL hl
          | cons p ps => simp
        · rw [if_neg h10] at ih
          simp only [ih, if_neg h10]
          cases lines r <;> rfl
theorem lines_ne {s : List UInt8} (h : s ≠ []) : lines s ≠ [] := by
  cases s with
  | nil => exact absurd rfl h
  | cons x y =>
    unfold lines
    split
    · simp
    · split <;> simp
theorem lines_last : ∀ {s : List UInt8}, s ≠ [] → s.getLast? ≠ some 10 → ∃ o l, lines s = o ++ [l] ∧ l ≠ []
  | [], h, _ => absurd rfl h
  | [c], _, h1 => by
    have hc : c ≠ 10 := by simpa using h1
    exact ⟨[], [c], by simp [lines, hc], by simp⟩
  | c :: x :: r, _, h1 => by
    obtain ⟨o, l, e, hl⟩ := lines_last (s := x :: r) (by simp) (by simpa using h1)
    unfold lines
    rw [e]
    by_cases hc : c = 10
    · exact ⟨[] :: o, l, by simp [hc], hl⟩
    · cases o with
      | nil => exact ⟨[], c :: l, by simp [hc], by simp⟩
      | cons p ps => exact ⟨(c :: p) :: ps, l, by simp [hc], hl⟩
theorem lines_of_cut (s : List UInt8) : ∃ o l, cutB 10 s = o ++ [l] ∧ lines s = (if l = [] then o else o ++ [l]) := by
  by_cases hs : s = []
  · subst hs
    exact ⟨[], [], rfl, rfl⟩
  · by_cases h1 : s.getLast? = some 10
    · exact ⟨lines s, [], by rw [cut_lines, if_neg hs, if_pos h1], by simp⟩
    · obtain ⟨o, l, e, hl⟩ := lines_last hs h1
      exact ⟨o, l, by rw [cut_lines, if_neg hs, if_neg h1, e], by rw [if_neg hl, e]⟩
theorem told_len : ∀ (l : List (List UInt8)), (told l).length = (l.map fun x => x.length + 1).sum
  | [] => rfl
  | x :: r => by
    have e : told (x :: r) = x ++ 10 :: told r := by simp [told]
    rw [e, List.length_append, List.length_cons, told_len r, List.map_cons, List.sum_cons]
    omega
theorem told_lines : ∀ (s : List UInt8), told (lines s) = s ∨ told (lines s) = s ++ [10]
  | [] => .inl rfl
  | c :: r => by
    have ih := told_lines r
    unfold lines
    by_cases hc : c = 10
    · rw [if_pos hc]
      have e : told ([] :: lines r) = 10 :: told (lines r) := by simp [told]
      rw [e, hc]
      rcases ih with ih | ih <;> rw [ih] <;> simp
    · rw [if_neg hc]
      cases hL : lines r with
      | nil =>
        have hr : r = [] := Classical.byContradiction fun h => lines_ne h hL
        subst hr
        right
        simp [told]
      | cons p ps =>
        rw [hL] at ih
        have e : told ((c :: p) :: ps) = c :: told (p :: ps) := by simp [told]
        simp only [e]
        rcases ih with ih | ih <;> rw [ih] <;> simp
theorem told_lines_len (s : List UInt8) : s.length ≤ (told (lines s)).length ∧ (told (lines s)).length ≤ s.length + 1 := by
  rcases told_lines s with h | h <;> rw [h] <;> simp
theorem lines_len (s : List UInt8) : (lines s).length ≤ s.length := by
  induction s with
  | nil => simp [lines]
  | cons c r ih =>
    unfold lines
    split
    · simp; omega
    · split
      · simp
      · next h => rw [h] at ih; simp at ih ⊢; omega
theorem mem_le_sum : ∀ {l : List Nat} {n : Nat}, n ∈ l → n ≤ l.sum
  | [], _, h => by simp at h
  | x :: r, n, h => by
    rw [List.sum_cons]
    rcases List.mem_cons.1 h with rfl | h
    · omega
    · have := mem_le_sum h
      omega
theorem line_len {s x : List UInt8} (h : x ∈ lines s) : x.length ≤ s.length := by
  have h1 := told_lines s
  have h2 : x.length + 1 ≤ (told (lines s)).length := by
    rw [told_len]
    have : x.length + 1 ∈ (lines s).map fun x => x.length + 1 := List.mem_map.2 ⟨x, h, rfl⟩
    exact mem_le_sum this
  have := told_lines_len s
  omega
theorem srt_perm (l : List (List UInt8)) : (srt l).Perm l := List.mergeSort_perm _ _
theorem srt_sorted (l : List (List UInt8)) : (srt l).Pairwise (fun x y => x ≤ y) := by
  have := List.pairwise_mergeSort (le := fun (x y : List UInt8) => decide (x ≤ y)) (by intro a b c h1 h2; simp at *; exact List.le_trans h1 h2) (by intro a b; simp; exact List.le_total a b) l
  exact this.imp (by intro a b h; simpa using h)
theorem srt_len (l : List (List UInt8)) : (srt l).length = l.length := (srt_perm l).length_eq
theorem told_perm {l l' : List (List UInt8)} (h : l.Perm l') : (told l).length = (told l').length := by
  rw [told_len, told_len]
  exact (h.map _).sum_nat
theorem told_append (a b : List (List UInt8)) : told (a ++ b) = told a ++ told b := by simp [told]
theorem told_all_len : ∀ (l : List (List UInt8)), (told (all l)).length ≤ (l.map fun x => x.length + 1).sum
  | [] => by simp [all, told]
  | x :: r => by
    have h1 := told_all_len r
    have h2 := (told_lines_len x).2
    have e : all (x :: r) = lines x ++ all r := by simp [all]
    rw [e, told_append]
    simp
    omega
theorem compact_succ (zs : List (List UInt8)) (m : Nat) : compactUpTo zs.toArray (m + 1) = compactUpTo zs.toArray m ++ (if keeps zs.toArray m then [zs.toArray[m]!] else []) := compactUpTo_succ _ m
theorem compact_told_len (zs : List (List UInt8)) : ∀ m, m ≤ zs.length → (told (compactUpTo zs.toArray m)).length ≤ (told (zs.take m)).length
  | 0, _ => by simp [compactUpTo, told]
  | m + 1, h => by
    have ih := compact_told_len zs m (by omega)
    have hm : m < zs.length := by omega
    rw [compact_succ, told_append, List.take_succ_eq_append_getElem hm, told_append]
    simp only [List.length_append]
    split
    · have e : zs.toArray[m]! = zs[m] := by simp [hm]
      rw [e]
      omega
    · simp [told] at ih ⊢
      omega
end Af
end Go.Proofs.YtmhipgompplkdaaGreatDoor
namespace Go.Proofs.YtmhipgompplkdaaGreatDoor
open Go.RowKit Go.Shelf Go.Lib
def byteOk (stars : Bool) (c : Nat) : Bool := letter c || (stars && c == 42)
def nameR (stars : Bool) (s : List UInt8) : Bool := !(decide (s = [])) && decide (s.length ≤ 12) && !(decide (s = [46])) && !(decide (s = [46, 46])) && s.all (fun b => byteOk stars b.toNat)
set_option maxRecDepth 100000 in
set_option maxHeartbeats 4000000 in
theorem rname_round (stars : Bool) (bs : ByteArray) (s : List UInt8) (T : Txt bs s) (hs : s.length ≤ 12) (h1 : ¬ s = []) (h3 : ¬ s = [46]) (h4 : ¬ s = [46, 46]) (w : World) :
    Calls Tryz.prog 150 #[.string bs, .bool stars] w fun e w' => e = .returned (.bool (s.all (fun b => byteOk stars b.toNat))) ∧ ∃ q, w' = w.drewN q := by
  have hz := T.size
  have hpos : 0 < s.length := List.length_pos_iff.2 h1
  have c0 : ¬ (bs.size : Int) < 1 := by omega
  have c1 : (bs.size : Int) ≤ 12 := by omega
  have e1 : bs.toList = s := by rw [T.eq, ba_toList]
  have c3 : (bs.toList == [46]) = false := by rw [e1]; simpa using h3
  have c4 : (bs.toList == [46, 46]) = false := by rw [e1]; simpa using h4
  have c0' : (1 : Int) ≤ (bs.size : Int) := by omega
  clear e1 h1 h3 h4
  go_enter Tryz.func150, Tryz.ntmps150
  go_wp2
  go_loopw [5] (fun i wr => ∃ k : Nat, k ≤ s.length ∧ i = .int .i64 k ∧ (s.take k).all (fun b => byteOk stars b.toNat) = true ∧ ∃ q, wr = w.drewN q) (fun i _ => s.length - (intOf i).toNat)
  case atStart => exact ⟨0, by omega, rfl, by simp, 0, rfl⟩
  case round =>
    obtain ⟨k, hk, rfl, hall, q, rfl⟩ := hrel
    have HA : Hid ((s.take k).all (fun b => byteOk stars b.toNat) = true) := hall
    clear hall
    by_cases hlt : k < s.length
    · have hlt2 : k < bs.size := by omega
      obtain ⟨c, hc⟩ : ∃ c : Nat, bs[k].toNat = c := ⟨_, rfl⟩
      have hsk : s[k].toNat = c := by rw [← hc, T.get k hlt hlt2]
      have hok : byteOk stars c = true → (s.take (k + 1)).all (fun b => byteOk stars b.toNat) = true := fun h => by
        rw [List.take_succ_eq_append_getElem hlt, List.all_append, HA.out]; simp [hsk, h]
      have hno : byteOk stars c = false → s.all (fun b => byteOk stars b.toNat) = false := fun h => by
        rw [List.all_eq_false]; exact ⟨s[k], List.getElem_mem hlt, by rw [hsk, h]; simp⟩
      have HOK : Hid (byteOk stars c = true → (s.take (k + 1)).all (fun b => byteOk stars b.toNat) = true) := hok
      have HNO : Hid (byteOk stars c = false → s.all (fun b => byteOk stars b.toNat) = false) := hno
      clear hok hno hsk HA
      by_cases hA : 97 ≤ c ∧ c ≤ 122
      · have a1 : (97 : Int) ≤ (c : Int) := by omega
        have a2 : (c : Int) ≤ 122 := by omega
        have hl : byteOk stars c = true := by simp [byteOk, letter]; omega
        have HK : Hid ((s.take (k + 1)).all (fun b => byteOk stars b.toNat) = true) := HOK.out hl
        clear hl HOK HNO hA
        go_wp2
        exact ⟨⟨k + 1, by omega, by go_num, HK.out, q, rfl⟩, by simp [intOf]; omega⟩
      by_cases hB : 48 ≤ c ∧ c ≤ 57
      · have a0 : ¬ (97 : Int) ≤ (c : Int) := by omega
        have a1 : (48 : Int) ≤ (c : Int) := by omega
        have a2 : (c : Int) ≤ 57 := by omega
        have hl : byteOk stars c = true := by simp [byteOk, letter]; omega
        have HK : Hid ((s.take (k + 1)).all (fun b => byteOk stars b.toNat) = true) := HOK.out hl
        clear hl HOK HNO hA hB
        go_wp2
        exact ⟨⟨k + 1, by omega, by go_num, HK.out, q, rfl⟩, by simp [intOf]; omega⟩
      by_cases h45 : c = 45
      · subst h45
        have HK : Hid ((s.take (k + 1)).all (fun b => byteOk stars b.toNat) = true) := HOK.out (by simp [byteOk, letter])
        clear HOK HNO hA hB
        go_wp2
        exact ⟨⟨k + 1, by omega, by go_num, HK.out, q, rfl⟩, by simp [intOf]; omega⟩
      by_cases h46 : c = 46
      · subst h46
        have HK : Hid ((s.take (k + 1)).all (fun b => byteOk stars b.toNat) = true) := HOK.out (by simp [byteOk, letter])
        clear HOK HNO hA hB
        go_wp2
        exact ⟨⟨k + 1, by omega, by go_num, HK.out, q, rfl⟩, by simp [intOf]; omega⟩
      by_cases h95 : c = 95
      · subst h95
        have HK : Hid ((s.take (k + 1)).all (fun b => byteOk stars b.toNat) = true) := HOK.out (by simp [byteOk, letter])
        clear HOK HNO hA hB
        go_wp2
        exact ⟨⟨k + 1, by omega, by go_num, HK.out, q, rfl⟩, by simp [intOf]; omega⟩
      have b45 : ((c : Int) == 45) = false := by simp; omega
      have b46 : ((c : Int) == 46) = false := by simp; omega
      have b95 : ((c : Int) == 95) = false := by simp; omega
      have hll : letter c = false := by simp [letter]; omega
      cases stars with
      | true =>
        by_cases h42 : c = 42
        · subst h42
          have HK : Hid ((s.take (k + 1)).all (fun b => byteOk true b.toNat) = true) := HOK.out (by simp [byteOk])
          clear HOK HNO hA hB b45 b46 b95 hll h45 h46 h95
          go_wp2
          exact ⟨⟨k + 1, by omega, by go_num, HK.out, q, rfl⟩, by simp [intOf]; omega⟩
        · have b42 : ((c : Int) == 42) = false := by simp; omega
          have HK : Hid (s.all (fun b => byteOk true b.toNat) = false) := HNO.out (by simp [byteOk, hll, h42])
          have hr : (97 ≤ c ∧ 122 < c) ∨ (c < 97 ∧ 48 ≤ c ∧ 57 < c) ∨ c < 48 := by omega
          clear HOK HNO hA hB hll h45 h46 h95 h42
          rcases hr with ⟨r1, r2⟩ | ⟨r1, r2, r3⟩ | r1
          · have d1 : (97 : Int) ≤ (c : Int) := by omega
            have d2 : decide ((c : Int) ≤ 122) = false := by simp; omega
            have d3 : (48 : Int) ≤ (c : Int) := by omega
            have d4 : decide ((c : Int) ≤ 57) = false := by simp; omega
            go_wp2
            go_ret
            exact ⟨ret_bool HK.out.symm, q, rfl⟩
          · have d1 : decide ((97 : Int) ≤ (c : Int)) = false := by simp; omega
            have d3 : (48 : Int) ≤ (c : Int) := by omega
            have d4 : decide ((c : Int) ≤ 57) = false := by simp; omega
            go_wp2
            go_ret
            exact ⟨ret_bool HK.out.symm, q, rfl⟩
          · have d1 : decide ((97 : Int) ≤ (c : Int)) = false := by simp; omega
            have d3 : decide ((48 : Int) ≤ (c : Int)) = false := by simp; omega
            go_wp2
            go_ret
            exact ⟨ret_bool HK.out.symm, q, rfl⟩
      | false =>
        have HK : Hid (s.all (fun b => byteOk false b.toNat) = false) := HNO.out (by simp [byteOk, hll])
        have hr : (97 ≤ c ∧ 122 < c) ∨ (c < 97 ∧ 48 ≤ c ∧ 57 < c) ∨ c < 48 := by omega
        clear HOK HNO hA hB hll h45 h46 h95
        rcases hr with ⟨r1, r2⟩ | ⟨r1, r2, r3⟩ | r1
        · have d1 : (97 : Int) ≤ (c : Int) := by omega
          have d2 : decide ((c : Int) ≤ 122) = false := by simp; omega
          have d3 : (48 : Int) ≤ (c : Int) := by omega
          have d4 : decide ((c : Int) ≤ 57) = false := by simp; omega
          go_wp2
          go_ret
          exact ⟨ret_bool HK.out.symm, q, rfl⟩
        · have d1 : decide ((97 : Int) ≤ (c : Int)) = false := by simp; omega
          have d3 : (48 : Int) ≤ (c : Int) := by omega
          have d4 : decide ((c : Int) ≤ 57) = false := by simp; omega
          go_wp2
          go_ret
          exact ⟨ret_bool HK.out.symm, q, rfl⟩
        · have d1 : decide ((97 : Int) ≤ (c : Int)) = false := by simp; omega
          have d3 : decide ((48 : Int) ≤ (c : Int)) = false := by simp; omega
          go_wp2
          go_ret
          exact ⟨ret_bool HK.out.symm, q, rfl⟩
    · have hge : (bs.size : Int) ≤ (k : Int) := by omega
      have HK : Hid (s.all (fun b => byteOk stars b.toNat) = true) := by
        have := HA.out
        rw [List.take_of_length_le (by omega)] at this
        exact this
      clear HA
      go_wp2
      go_ret
      exact ⟨ret_bool HK.out.symm, q, rfl⟩
end Go.Proofs.YtmhipgompplkdaaGreatDoor
