import Derived.Test.YtbgkfmodbofalaaGreatDoorPL18
import Derived.Test.YtbgkfmodbofalaaGreatDoorPL07
import Derived.Deep.RegionHeld3
import Derived.Test.YtbgkfmodbofalaaGreatDoorPL11
namespace Go.Proofs.YtbgkfmodbofalaaGreatDoor
open Go.RowKit Go.Extern.Stop Go.Stop Go.Extern
structure E12 (w : World) (es : Nat → Addr) : Prop where
  c0 : w.cell? ⟨0, 0, none⟩ = some (.iface 407 (.pointer (some (es 0))))
  c1 : w.cell? ⟨4, 0, none⟩ = some (.iface 407 (.pointer (some (es 1))))
  c2 : w.cell? ⟨1, 0, none⟩ = some (.iface 407 (.pointer (some (es 2))))
  c3 : w.cell? ⟨7, 0, none⟩ = some (.iface 407 (.pointer (some (es 3))))
  c4 : w.cell? ⟨8, 0, none⟩ = some (.iface 407 (.pointer (some (es 4))))
  c5 : w.cell? ⟨2, 0, none⟩ = some (.iface 407 (.pointer (some (es 5))))
  c6 : w.cell? ⟨9, 0, none⟩ = some (.iface 407 (.pointer (some (es 6))))
  c7 : w.cell? ⟨10, 0, none⟩ = some (.iface 407 (.pointer (some (es 7))))
  c8 : w.cell? ⟨11, 0, none⟩ = some (.iface 407 (.pointer (some (es 8))))
  c9 : w.cell? ⟨3, 0, none⟩ = some (.iface 407 (.pointer (some (es 9))))
  c10 : w.cell? ⟨6, 0, none⟩ = some (.iface 407 (.pointer (some (es 10))))
  c11 : w.cell? ⟨5, 0, none⟩ = some (.iface 407 (.pointer (some (es 11))))
  t : w.cell? ⟨12, 0, none⟩ = some (.iface 340 (.agg #[.pointer (some ⟨21, 25, none⟩)]))
  rows : ∀ k, k < 12 → ∃ c t, w.heap[(es k).block]? = some (.cells c t (0, 0))
  inj : ∀ j k, j < 12 → k < 12 → j ≠ k → es j ≠ es k
theorem blt_of_cell {w : World} {a : Addr} {v : Value} (h : w.cell? a = some v) : a.block < w.heap.size := by
  rcases Nat.lt_or_ge a.block w.heap.size with h' | h'
  · exact h'
  · simp [World.cell?, Array.getElem?_eq_none h'] at h
theorem cell_below {w w' : World} {a : Addr} {v : Value} (h : w.cell? a = some v) (hb : Below w.heap.size w w') : w'.cell? a = some v := (hb.cell (p := a) (blt_of_cell h)).trans h
theorem row_below {w w' : World} {b : Nat} {o : Obj} (h : w.heap[b]? = some o) (hb : Below w.heap.size w w') : w'.heap[b]? = some o := (hb.block b (Array.getElem?_eq_some_iff.1 h).1).trans h
theorem E12.below {w w' : World} {es : Nat → Addr} (h : E12 w es) (hb : Below w.heap.size w w') : E12 w' es :=
  ⟨cell_below h.c0 hb, cell_below h.c1 hb, cell_below h.c2 hb, cell_below h.c3 hb, cell_below h.c4 hb, cell_below h.c5 hb, cell_below h.c6 hb, cell_below h.c7 hb, cell_below h.c8 hb, cell_below h.c9 hb, cell_below h.c10 hb, cell_below h.c11 hb, cell_below h.t hb,
   fun k hk => by obtain ⟨c, t, hc⟩ := h.rows k hk; exact ⟨c, t, row_below hc hb⟩, h.inj⟩
def codeOf (es : Nat → Addr) (x : Addr) : Int :=
  match (List.range 12).find? (fun k => decide (es k = x)) with
  | some k => (k : Int) + 1
  | none => -1
theorem codeOf_none {es : Nat → Addr} {x : Addr} (h : ∀ j, j < 12 → es j ≠ x) : codeOf es x = -1 := by
  have : (List.range 12).find? (fun k => decide (es k = x)) = none := by
    rw [List.find?_eq_none]
    intro k hk
    simpa using h k (List.mem_range.1 hk)
  unfold codeOf
  rw [this]
theorem codeOf_some {es : Nat → Addr} {x : Addr} {k : Nat} (hk : k < 12) (he : es k = x) (h : ∀ j, j < k → es j ≠ x) : codeOf es x = (k : Int) + 1 := by
  have : (List.range 12).find? (fun k => decide (es k = x)) = some k := by
    rw [List.find?_range_eq_some]
    simp [he, hk]
    exact fun j hj => h j hj
  unfold codeOf
  rw [this]
theorem Code_nil (w : World) : Calls Tryz.prog 96 #[.nilIface] w fun e w' => e = .returned (.tuple #[.int .i64 0, .int .i64 (-1)]) ∧ w' = w := by
  go_enter Tryz.func96, Tryz.ntmps96
  go_wp2
  go_ret2
  exact ⟨rfl, rfl⟩
def esV (es : Nat → Addr) : Array Value := #[.iface 407 (.pointer (some (es 0))), .iface 407 (.pointer (some (es 1))), .iface 407 (.pointer (some (es 2))), .iface 407 (.pointer (some (es 3))), .iface 407 (.pointer (some (es 4))), .iface 407 (.pointer (some (es 5))), .iface 407 (.pointer (some (es 6))), .iface 407 (.pointer (some (es 7))), .iface 407 (.pointer (some (es 8))), .iface 407 (.pointer (some (es 9))), .iface 407 (.pointer (some (es 10))), .iface 407 (.pointer (some (es 11)))]
theorem es_cells (es : Nat → Addr) (w : World) (k : Nat) (hk : k < 12) : (w.alloc (.cells (esV es) 25)).cell? ⟨w.heap.size, k, none⟩ = some (.iface 407 (.pointer (some (es k)))) := by
  have : k = 0 ∨ k = 1 ∨ k = 2 ∨ k = 3 ∨ k = 4 ∨ k = 5 ∨ k = 6 ∨ k = 7 ∨ k = 8 ∨ k = 9 ∨ k = 10 ∨ k = 11 := by omega
  rcases this with rfl | rfl | rfl | rfl | rfl | rfl | rfl | rfl | rfl | rfl | rfl | rfl <;> simp [esV]
set_option maxHeartbeats 2000000 in
theorem Code_ptr (x : Addr) (es : Nat → Addr) (cx : Array Value) (tx : TypeId) (w : World) (hE : E12 w es) (hx : w.heap[x.block]? = some (.cells cx tx (0, 0))) :
    Calls Tryz.prog 96 #[.iface 407 (.pointer (some x))] w fun e w' => e = .returned (.tuple #[.int .i64 (codeOf es x), .int .i64 (-1)]) ∧ Below w.heap.size w w' := by
  have hB0 : Below w.heap.size w (w.alloc (.cells #[.pointer none] 188)) := (Below.refl _ w).alloc (Nat.le_refl _) _
  have hE0 := hE.below hB0
  go_enter Tryz.func96, Tryz.ntmps96
  go_wp2_with fail
  refine (as_miss x _ _ hE0.t).mono ?_
  rintro e w1 ⟨rfl, hb1'⟩
  have hB1 := hB0.trans (hb1'.mono hB0.size)
  have hE1 := hE.below hB1
  have hx1 := row_below hx hB1
  have k0 := hE1.c0; have k1 := hE1.c1; have k2 := hE1.c2; have k3 := hE1.c3; have k4 := hE1.c4; have k5 := hE1.c5
  have k6 := hE1.c6; have k7 := hE1.c7; have k8 := hE1.c8; have k9 := hE1.c9; have k10 := hE1.c10; have k11 := hE1.c11
  clear hE0 hB0 hb1'
  go_wp2
  have hB2 : Below w1.heap.size w1 (w1.alloc (.cells (esV es) 25)) := (Below.refl _ w1).alloc (Nat.le_refl _) _
  have hE2 := hE1.below hB2
  have hx2 := row_below hx1 hB2
  have hBB := hB1.trans (hB2.mono hB1.size)
  have hsl := es_cells es w1
  unfold esV at hB2 hE2 hx2 hBB hsl
  clear k0 k1 k2 k3 k4 k5 k6 k7 k8 k9 k10 k11 hE1 hB2 hx1 hE hx
  generalize w1.alloc _ = W2 at *
  have HE : Hid (E12 W2 es) := hE2
  clear hE2
  go_loop [3, 30] (fun a i => a = .int .i64 (-1) ∧ ∃ k : Nat, k ≤ 12 ∧ i = .int .i64 k ∧ ∀ j, j < k → es j ≠ x) (fun _ i => 12 - (intOf i).toNat)
  case atStart => exact ⟨rfl, 0, by omega, rfl, fun j hj => by omega⟩
  case round =>
    obtain ⟨rfl, k, hk, rfl, hno⟩ := hrel
    have HN : Hid (∀ j, j < k → es j ≠ x) := hno
    clear hno
    by_cases hlt : k < 12
    · have hck := hsl k hlt
      have hlt' : (k : Int) < 12 := by omega
      have hk0 : (0 : Int) ≤ (k : Int) := by omega
      by_cases hek : es k = x
      · have hc := codeOf_some hlt hek HN.out
        have HC : Hid (codeOf es x = (k : Int) + 1) := hc
        have HK : Hid (es k = x) := hek
        clear hc hsl hek
        go_wp2_with fail
        rw [HK.out]
        refine (is_same x _).mono ?_
        rintro e w' ⟨rfl, rfl⟩
        go_wp2
        go_ret2
        exact ⟨by rw [HC.out]; rfl, hBB⟩
      · obtain ⟨c, t, hr⟩ := HE.out.rows k hlt
        have hio := is_other x (es k) cx c tx t W2 (fun e => hek e.symm) hx2 hr
        have HI : Hid (Calls Tryz.prog 151 #[.iface 407 (.pointer (some x)), .iface 407 (.pointer (some (es k)))] W2 fun e w' => e = .returned (.bool false) ∧ w' = W2) := hio
        have HK : Hid (¬ es k = x) := hek
        clear hio hsl hek hr
        go_wp2_with fail
        refine HI.out.mono ?_
        rintro e w' ⟨rfl, rfl⟩
        go_wp2
        go_round
        case rel =>
          refine ⟨rfl, k + 1, by omega, by go_num, fun j hj => ?_⟩
          rcases Nat.lt_or_ge j k with h | h
          · exact HN.out j h
          · obtain rfl : j = k := by omega
            exact HK.out
        case measure => simp [intOf]; omega
    · have hc := codeOf_none (es := es) (x := x) (fun j hj => HN.out j (by omega))
      have HC : Hid (codeOf es x = -1) := hc
      have hge : (12 : Int) ≤ (k : Int) := by omega
      clear hc hsl
      go_wp2
      go_ret2
      exact ⟨by rw [HC.out]; rfl, hBB⟩
end Go.Proofs.YtbgkfmodbofalaaGreatDoor
namespace Go.Proofs.YtbgkfmodbofalaaGreatDoor
open Go.RowKit Go.Extern.Stop Go.Stop Go.Extern
theorem Tryz.elemOfP (w : World) : (Rtype.elem? 229).run Tryz.prog w = .ok (some 188) w := by kernel_rfl
theorem Tryz.mkF (p : Addr) (w : World) : (ReflectliteValue.mk 188 p ReflectliteValue.flagAddr).run Tryz.prog w = .ok (.agg #[.pointer (some ⟨21, 188, none⟩), .pointer (some p), .int .u64 406]) w := by kernel_rfl
theorem Tryz.elemVP (a p : Addr) (W : World) (ha : W.cell? a = some (.pointer (some p))) :
    (ReflectliteValue.method (ReflectliteValue.valueError "reflectlite.Value.Elem" 0) ReflectliteValue.elem #[.agg #[.pointer (some ⟨21, 229, none⟩), .pointer (some a), .int .u64 150]]).run Tryz.prog W
      = .ok (.agg #[.pointer (some ⟨21, 188, none⟩), .pointer (some p), .int .u64 406]) W := by
  rw [rlm]
  simp only [Sem.run_bind, Tryz.partsP, Result.andThen]
  simp [ReflectliteValue.elem, loadVar, isAgg, underlying, Tryz.underlying229, ha, Result.andThen, Tryz.elemOfP, Tryz.mkF]
theorem rls (v x : Value) : ReflectliteValue.set #[v, x] = (do
    let (some (dst, a, fl), some (src, b, _)) := (← ReflectliteValue.parts v, ← ReflectliteValue.parts x)
      | unsupported (.noEntry "extern/(internal/reflectlite.Value).Set.zeroValue")
    if fl / ReflectliteValue.flagAddr % 2 == 0 then unsupported (.noEntry "extern/(internal/reflectlite.Value).Set.unaddressable")
    let val ← loadVar src b
    if ← Rtype.directlyAssignable dst src then storeVar dst a val
    else if ← Rtype.implements dst src then
      if (← Rtype.kind src) == 20 then
        match val with
        | .nilIface => unsupported (.noEntry "extern/reflectlite: a nil value of one interface type handed on as a value of another")
        | _ => storeVar dst a val
      else storeVar dst a (.iface src val)
    else panicString ("reflectlite.Set: value of type " ++ (← Rtype.spelt src) ++ " is not assignable to type " ++ (← Rtype.spelt dst))
    pure (.tuple #[])) := rfl
theorem Tryz.partsFa (a : Addr) (w : World) : (ReflectliteValue.parts (.agg #[.pointer (some ⟨21, 188, none⟩), .pointer (some a), .int .u64 406])).run Tryz.prog w = .ok (some (188, a, 406)) w := by kernel_rfl
theorem Tryz.partsF (a : Addr) (w : World) : (ReflectliteValue.parts (.agg #[.pointer (some ⟨21, 188, none⟩), .pointer (some a), .int .u64 150])).run Tryz.prog w = .ok (some (188, a, 150)) w := by kernel_rfl
theorem Tryz.directF (w : World) : (Rtype.directlyAssignable 188 188).run Tryz.prog w = .ok true w := by kernel_rfl
theorem Tryz.setF (ta b e : Addr) (old : Value) (W : World) (hb : W.cell? b = some (.pointer (some e))) (ht : W.cell? ta = some old) (hf : W.frozen? ta = false) :
    (ReflectliteValue.set #[.agg #[.pointer (some ⟨21, 188, none⟩), .pointer (some ta), .int .u64 406], .agg #[.pointer (some ⟨21, 188, none⟩), .pointer (some b), .int .u64 150]]).run Tryz.prog W
      = .ok (.tuple #[]) (W.setCell ta (.pointer (some e))) := by
  rw [rls]
  simp only [Sem.run_bind, Tryz.partsFa, Tryz.partsF, Result.andThen]
  simp [ReflectliteValue.flagAddr, loadVar, isAgg, underlying, Tryz.underlying188, hb, Result.andThen, Tryz.directF, storeVar, Value.cells, storeCells, Addr.add]
  rw [run_store Tryz.prog W ta _ _ (by rfl)]
  simp [ht, hf]
set_option maxHeartbeats 4000000 in
theorem as_hit (e t : Addr) (old : Value) (w : World) (hg : w.cell? ⟨12, 0, none⟩ = some (.iface 340 (.agg #[.pointer (some ⟨21, 25, none⟩)]))) (ht0 : w.cell? t = some old) (hf0 : w.frozen? t = false) :
    Calls Tryz.prog 150 #[.iface 188 (.pointer (some e)), .iface 229 (.pointer (some t))] w fun ev w' => ev = .returned (.bool true) ∧ w' = ((((w.alloc (.cells #[.pointer (some t)] 229)).alloc (.cells #[.pointer (some ⟨21, 229, none⟩), .pointer (some ⟨w.heap.size, 0, none⟩), .int .u64 150] 282)).alloc (.cells #[.pointer (some ⟨21, 229, none⟩), .pointer (some ⟨w.heap.size, 0, none⟩), .int .u64 150] 282)).alloc (.cells #[.pointer (some e)] 188)).setCell t (.pointer (some e)) := by
  have h8 := @run_callFunc_extern Tryz.prog 205 _ (ReflectliteValue.method (ReflectliteValue.valueError "reflectlite.Value.IsNil" 0) ReflectliteValue.isNil) Tryz.func205 (by kernel_rfl) (by kernel_rfl) (by kernel_rfl) (by kernel_rfl)
  have h11 := @run_callFunc_extern Tryz.prog 279 _ (ReflectliteValue.method (ReflectliteValue.valueError "reflectlite.Value.Elem" 0) ReflectliteValue.elem) Tryz.func279 (by kernel_rfl) (by kernel_rfl) (by kernel_rfl) (by kernel_rfl)
  have h12 := @run_callFunc_extern Tryz.prog 280 _ ReflectliteValue.set Tryz.func280 (by kernel_rfl) (by kernel_rfl) (by kernel_rfl) (by kernel_rfl)
  have tO := Tryz.typeOfF
  have mA := Tryz.methodAssignableTo
  have a25 := Tryz.assignableF
  have v25 := Tryz.valueOfF
  have f6 := Tryz.valueOfP
  have f7 := Tryz.typeP
  have mK := Tryz.methodKind
  have mE := Tryz.methodElem
  have mI := Tryz.methodImplements
  have k27 := Tryz.kindP
  have k25 := Tryz.kindF
  have e27 := Tryz.elemP
  have i25 := Tryz.implementsF
  have n8 := Tryz.isNilP ⟨w.heap.size, 0, none⟩ t ((w.alloc (.cells #[.pointer (some t)] 229)).alloc (.cells #[.pointer (some ⟨21, 229, none⟩), .pointer (some ⟨w.heap.size, 0, none⟩), .int .u64 150] 282)) (by simp)
  have hlt : 12 < w.heap.size := by
    rcases Nat.lt_or_ge 12 w.heap.size with h | h
    · exact h
    · simp [World.cell?, Array.getElem?_eq_none h] at hg
  have hg2 : ((w.alloc (.cells #[.pointer (some t)] 229)).alloc (.cells #[.pointer (some ⟨21, 229, none⟩), .pointer (some ⟨w.heap.size, 0, none⟩), .int .u64 150] 282)).cell? ⟨12, 0, none⟩ = some (.iface 340 (.agg #[.pointer (some ⟨21, 25, none⟩)])) := by
    rw [World.cell?_alloc_lt _ _ ⟨12, 0, none⟩ (by simp; omega), World.cell?_alloc_lt _ _ ⟨12, 0, none⟩ hlt]; exact hg
  have htl : t.block < w.heap.size := by
    rcases Nat.lt_or_ge t.block w.heap.size with h | h
    · exact h
    · simp [World.cell?, Array.getElem?_eq_none h] at ht0
  have el := Tryz.elemVP ⟨w.heap.size, 0, none⟩ t (((w.alloc (.cells #[.pointer (some t)] 229)).alloc (.cells #[.pointer (some ⟨21, 229, none⟩), .pointer (some ⟨w.heap.size, 0, none⟩), .int .u64 150] 282)).alloc (.cells #[.pointer (some ⟨21, 229, none⟩), .pointer (some ⟨w.heap.size, 0, none⟩), .int .u64 150] 282)) (by rw [World.cell?_alloc_lt _ _ ⟨w.heap.size, 0, none⟩ (by simp; omega)]; simp)
  have st := Tryz.setF t ⟨w.heap.size + 1 + 1 + 1, 0, none⟩ e old ((((w.alloc (.cells #[.pointer (some t)] 229)).alloc (.cells #[.pointer (some ⟨21, 229, none⟩), .pointer (some ⟨w.heap.size, 0, none⟩), .int .u64 150] 282)).alloc (.cells #[.pointer (some ⟨21, 229, none⟩), .pointer (some ⟨w.heap.size, 0, none⟩), .int .u64 150] 282)).alloc (.cells #[.pointer (some e)] 188))
    (by rw [World.cell?_alloc_at _ _ _ _ (by simp)]; rfl)
    (by rw [World.cell?_alloc_lt _ _ t (by simp; omega), World.cell?_alloc_lt _ _ t (by simp; omega), World.cell?_alloc_lt _ _ t (by simp; omega), World.cell?_alloc_lt _ _ t htl]; exact ht0)
    (by rw [World.frozen?_alloc_old _ _ t (by simp; omega), World.frozen?_alloc_old _ _ t (by simp; omega), World.frozen?_alloc_old _ _ t (by simp; omega), World.frozen?_alloc_old _ _ t (Nat.ne_of_lt htl)]; exact hf0)
  go_enter Tryz.func150, Tryz.ntmps150
  go_wp2
  refine wp_loop_rounds 1 ?_
  rw [rounds_succ]
  go_wp2
  go_ret
  exact ⟨rfl, rfl⟩
set_option maxHeartbeats 2000000 in
theorem is_fault_same (pb : Nat) (b : Addr) (w : World) (h1 : w.cell? ⟨pb, 1, none⟩ = some (.iface 407 (.pointer (some b)))) :
    Calls Tryz.prog 151 #[.iface 188 (.pointer (some ⟨pb, 0, none⟩)), .iface 407 (.pointer (some b))] w fun e w' => e = .returned (.bool true) ∧ w' = w := by
  obtain ⟨i, hi, hcmp⟩ := Option.map_eq_some_iff.1 Tryz.isComp
  obtain ⟨j, hj, hjs⟩ := Option.map_eq_some_iff.1 Tryz.isSize
  have tT := Tryz.isTypeOf
  have cT := Tryz.isComparable
  have mR := Tryz.isMethodComparable
  have nF := Tryz.noIsF
  have uF := Tryz.hasUnwrapF
  have mU := Tryz.methodUnwrap
  have heq := run_eql_iface_ptr_same (P := Tryz.prog) w b Tryz.underlying25 Tryz.underlying407 hi hcmp hj
  have hty := run_eql_iface_types (P := Tryz.prog) 188 407 (.pointer (some ⟨pb, 0, none⟩)) (.pointer (some b)) Tryz.underlying25 (by decide) w
  go_enter Tryz.func151, Tryz.ntmps151
  go_wp2
  refine wp_loop_rounds 2 ?_
  rw [rounds_succ]
  go_wp2
  rw [rounds_succ]
  go_wp2
  go_ret
  exact ⟨rfl, rfl⟩
set_option maxHeartbeats 2000000 in
theorem is_fault_other (pb : Nat) (a b : Addr) (ca cb : Array Value) (ta tb : TypeId) (w : World) (h1 : w.cell? ⟨pb, 1, none⟩ = some (.iface 407 (.pointer (some a)))) (hne : a ≠ b) (ha : w.heap[a.block]? = some (.cells ca ta (0, 0))) (hb : w.heap[b.block]? = some (.cells cb tb (0, 0))) :
    Calls Tryz.prog 151 #[.iface 188 (.pointer (some ⟨pb, 0, none⟩)), .iface 407 (.pointer (some b))] w fun e w' => e = .returned (.bool false) ∧ w' = w := by
  obtain ⟨i, hi, hcmp⟩ := Option.map_eq_some_iff.1 Tryz.isComp
  obtain ⟨j, hj, hjs⟩ := Option.map_eq_some_iff.1 Tryz.isSize
  have tT := Tryz.isTypeOf
  have cT := Tryz.isComparable
  have mR := Tryz.isMethodComparable
  have nF := Tryz.noIsF
  have uF := Tryz.hasUnwrapF
  have mU := Tryz.methodUnwrap
  have nE := Tryz.noIsE
  have uE := Tryz.noUnwrapE
  have vE := Tryz.noUnwrapsE
  have heq := run_eql_iface_ptr_other (P := Tryz.prog) w Tryz.underlying25 Tryz.underlying407 hi hcmp hj (by rw [hjs]; decide) hne ha hb
  have hty := run_eql_iface_types (P := Tryz.prog) 188 407 (.pointer (some ⟨pb, 0, none⟩)) (.pointer (some b)) Tryz.underlying25 (by decide) w
  go_enter Tryz.func151, Tryz.ntmps151
  go_wp2
  refine wp_loop_rounds 2 ?_
  rw [rounds_succ]
  go_wp2
  rw [rounds_succ]
  go_wp2
  go_ret
  exact ⟨rfl, rfl⟩
end Go.Proofs.YtbgkfmodbofalaaGreatDoor
namespace Go.Proofs.YtbgkfmodbofalaaGreatDoor
open Go.RowKit Go.Extern.Stop Go.Stop Go.Extern
set_option maxHeartbeats 2000000 in
theorem Code_fault (pb : Nat) (n : Int) (m : Nat) (hm : m < 12) (es : Nat → Addr) (w : World) (hE : E12 w es)
    (h0 : w.cell? ⟨pb, 0, none⟩ = some (.int .i64 n)) (h1 : w.cell? ⟨pb, 1, none⟩ = some (.iface 407 (.pointer (some (es m))))) :
    Calls Tryz.prog 96 #[.iface 188 (.pointer (some ⟨pb, 0, none⟩))] w fun e w' => e = .returned (.tuple #[.int .i64 ((m : Int) + 1), .int .i64 n]) ∧ Below w.heap.size w w' := by
  have hB0 : Below w.heap.size w (w.alloc (.cells #[.pointer none] 188)) := (Below.refl _ w).alloc (Nat.le_refl _) _
  have hE0 := hE.below hB0
  go_enter Tryz.func96, Tryz.ntmps96
  go_wp2_with fail
  refine (as_hit ⟨pb, 0, none⟩ ⟨w.heap.size, 0, none⟩ (.pointer none) _ hE0.t (by simp) (by simp)).mono ?_
  rintro e w1 ⟨rfl, hw1⟩
  have hB1 : Below w.heap.size w w1 := by
    rw [hw1]
    exact (((((hB0.alloc (by simp) _).alloc (by simp; omega) _).alloc (by simp; omega) _).alloc (by simp; omega) _).setCell (p := ⟨w.heap.size, 0, none⟩) (Nat.le_refl _) _)
  have hc1 : w1.cell? ⟨w.heap.size, 0, none⟩ = some (.pointer (some ⟨pb, 0, none⟩)) := by
    rw [hw1]
    refine World.cell?_setCell_same' _ _ _ ?_
    rw [World.cell?_alloc_lt _ _ ⟨w.heap.size, 0, none⟩ (by simp; omega), World.cell?_alloc_lt _ _ ⟨w.heap.size, 0, none⟩ (by simp; omega), World.cell?_alloc_lt _ _ ⟨w.heap.size, 0, none⟩ (by simp; omega), World.cell?_alloc_lt _ _ ⟨w.heap.size, 0, none⟩ (by simp)]
    simp
  clear hw1
  have hE1 := hE.below hB1
  have g0 := cell_below h0 hB1
  have g1 := cell_below h1 hB1
  have k0 := hE1.c0; have k1 := hE1.c1; have k2 := hE1.c2; have k3 := hE1.c3; have k4 := hE1.c4; have k5 := hE1.c5
  have k6 := hE1.c6; have k7 := hE1.c7; have k8 := hE1.c8; have k9 := hE1.c9; have k10 := hE1.c10; have k11 := hE1.c11
  clear hE0 hB0
  go_wp2
  have hB2 : Below w1.heap.size w1 (w1.alloc (.cells (esV es) 25)) := (Below.refl _ w1).alloc (Nat.le_refl _) _
  have hE2 := hE1.below hB2
  have g2 := cell_below g1 hB2
  have hBB := hB1.trans (hB2.mono hB1.size)
  have hsl := es_cells es w1
  unfold esV at hB2 hE2 g2 hBB hsl
  clear k0 k1 k2 k3 k4 k5 k6 k7 k8 k9 k10 k11 hE1 hB2 hE g0 g1 h0 h1 hc1
  generalize w1.alloc _ = W2 at *
  have HE : Hid (E12 W2 es) := hE2
  clear hE2
  go_loop [3, 30] (fun a i => a = .int .i64 n ∧ ∃ k : Nat, k ≤ m ∧ i = .int .i64 k) (fun _ i => 12 - (intOf i).toNat)
  case atStart => exact ⟨rfl, 0, by omega, rfl⟩
  case round =>
    obtain ⟨rfl, k, hk, rfl⟩ := hrel
    have hlt : k < 12 := by omega
    have hck := hsl k hlt
    have hlt' : (k : Int) < 12 := by omega
    have hk0 : (0 : Int) ≤ (k : Int) := by omega
    by_cases hek : k = m
    · subst hek
      clear hsl
      go_wp2_with fail
      refine (is_fault_same pb (es k) _ g2).mono ?_
      rintro e w' ⟨rfl, rfl⟩
      go_wp2
      go_ret2
      exact ⟨rfl, hBB⟩
    · obtain ⟨c, t, hr⟩ := HE.out.rows k hlt
      obtain ⟨c', t', hr'⟩ := HE.out.rows m hm
      have hio := is_fault_other pb (es m) (es k) c' c t' t W2 g2 (HE.out.inj m k hm hlt (fun e => hek e.symm)) hr' hr
      have HI : Hid (Calls Tryz.prog 151 #[.iface 188 (.pointer (some ⟨pb, 0, none⟩)), .iface 407 (.pointer (some (es k)))] W2 fun e w' => e = .returned (.bool false) ∧ w' = W2) := hio
      have hkm : k < m := by omega
      clear hio hsl hr hr' hek
      go_wp2_with fail
      refine HI.out.mono ?_
      rintro e w' ⟨rfl, rfl⟩
      go_wp2
      go_round
      case rel => exact ⟨rfl, k + 1, by omega, by go_num⟩
      case measure => simp [intOf]; omega
end Go.Proofs.YtbgkfmodbofalaaGreatDoor
namespace Go.Proofs.YtbgkfmodbofalaaGreatDoor
open Go.RowKit
theorem codeOf_es {w : World} {es : Nat → Addr} (h : E12 w es) (k : Nat) (hk : k < 12) : codeOf es (es k) = (k : Int) + 1 :=
  codeOf_some hk rfl (fun j hj => h.inj j k (by omega) hk (by omega))
def erOf (es : Nat → Addr) : Nat → Value
  | 0 => .nilIface
  | k + 1 => .iface 407 (.pointer (some (es k)))
end Go.Proofs.YtbgkfmodbofalaaGreatDoor
namespace Go.Proofs.YtbgkfmodbofalaaGreatDoor
open Go.RowKit Go.Shelf Go.Lib
structure Caches0 (es : Nat → Addr) (At : (Nat → Prop) → World → Value → Nat → Cf.Ens → Prop) : Prop where
  same : ∀ (S : Nat → Prop) (W W' : World) v m l, At S W v m l → W.heap.size ≤ W'.heap.size → (∀ k, S k → W'.heap[k]? = W.heap[k]?) → At S W' v m l
  lt : ∀ (S : Nat → Prop) (W : World) v m l, At S W v m l → ∀ k, S k → k < W.heap.size
  make : ∀ (W : World) (m : Nat), 1 ≤ m → m ≤ 100 → Calls Tryz.prog 61 #[.int .i64 m] W fun e w' => ∃ p S, e = .returned (.tuple #[.pointer (some p), .nilIface]) ∧ Below W.heap.size W w' ∧ At S w' (.pointer (some p)) m [] ∧ ∀ k, S k → W.heap.size ≤ k
  no : ∀ (W : World) (m : Int), -9223372036854775808 ≤ m → m ≤ 9223372036854775807 → (m < 1 ∨ 100 < m) → W.cell? ⟨4, 0, none⟩ = some (erOf es 2) → Calls Tryz.prog 61 #[.int .i64 m] W fun e w' => e = .returned (.tuple #[.pointer none, erOf es 2]) ∧ Below W.heap.size W w'
  put : ∀ (S : Nat → Prop) (W : World) p m l (k b : List UInt8), At S W (.pointer (some p)) m l → 1 ≤ m → m ≤ 100 → Cf.Ok m l → k.length ≤ 100000 → b.length ≤ 100000 → Calls Tryz.prog 186 #[.pointer (some p), .string (ba k), .string (ba b)] W fun e w' => e = .returned (.tuple #[]) ∧ Only S W w' ∧ ∃ S', At S' w' (.pointer (some p)) m (Cf.put m l k b) ∧ ∀ j, S' j → S j ∨ W.heap.size ≤ j
  get : ∀ (S : Nat → Prop) (W : World) p m l (k : List UInt8), At S W (.pointer (some p)) m l → 1 ≤ m → m ≤ 100 → Cf.Ok m l → k.length ≤ 100000 → Calls Tryz.prog 185 #[.pointer (some p), .string (ba k)] W fun e w' => e = .returned (.tuple #[.string (ba ((Cf.find l k).getD [])), .bool (Cf.find l k).isSome]) ∧ Only S W w' ∧ ∃ S', At S' w' (.pointer (some p)) m (Cf.get m l k) ∧ ∀ j, S' j → S j ∨ W.heap.size ≤ j
def KeyTells (W0 : World) : Prop := ∀ (W : World), Below W0.heap.size W0 W → ∀ (kind word : List UInt8) v ins, XRow W v ins → kind.length ≤ 200 → word.length ≤ 200 → ins.length ≤ 12 → (∀ x ∈ ins, x.length ≤ 3000) → Calls Tryz.prog 184 #[.string (ba kind), .string (ba word), v] W fun e w' => e = .returned (.string (ba (Kp.key kind word ins))) ∧ Below W.heap.size W w'
theorem Only.step {B : Nat} {S S' : Nat → Prop} {W w w' : World} (hB : Below B W w) (hz : B ≤ w.heap.size) (hS : ∀ j, S j → B ≤ j) (h : Only S w w') (hS' : ∀ j, S' j → S j ∨ w.heap.size ≤ j) : Below B W w' ∧ B ≤ w'.heap.size ∧ ∀ j, S' j → B ≤ j :=
  ⟨hB.trans (h.below hS hz), Nat.le_trans hz h.size, fun j hj => by
    rcases hS' j hj with h1 | h1
    · exact hS j h1
    · omega⟩
end Go.Proofs.YtbgkfmodbofalaaGreatDoor
namespace Go.Proofs.YtbgkfmodbofalaaGreatDoor
open Go.RowKit Go.Shelf Go.Lib
theorem E12.ae {w : World} {es : Nat → Addr} (h : E12 w es) (hm : ∃ m, w.cell? ⟨14, 0, none⟩ = some (.int .i64 m)) (hP : Pow w) (hS : SynAt w) (hb : 20 < w.heap.size) : AE w (erOf es) :=
  ⟨⟨hm, hP, h.c2, h.c9, hb⟩, hS, h.c4, fun _ => ⟨_, _, rfl⟩, rfl⟩
theorem AE.stays {w W : World} {er : Nat → Value} (h : AE w er) (hb : Below w.heap.size w W) : AE W er := by
  have h0 := h.aw.big
  exact ⟨h.aw.stays hb, h.syn.below hb, (cell_below2 hb (by omega)).trans h.kind, h.iface, h.zero⟩
theorem actE_le (nm wd : List UInt8) (n : Int) : Af.actE nm wd n = 0 ∨ ∃ k, k < 12 ∧ Af.actE nm wd n = k + 1 := by
  unfold Af.actE
  split
  · exact .inr ⟨4, by omega, rfl⟩
  · split
    · exact .inr ⟨2, by omega, rfl⟩
    · split
      · exact .inr ⟨9, by omega, rfl⟩
      · exact .inl rfl
end Go.Proofs.YtbgkfmodbofalaaGreatDoor
namespace Go.Proofs.YtbgkfmodbofalaaGreatDoor
open Go.RowKit Go.Shelf Go.Lib
namespace Ru
def twiceAt (r : Ru) (i : Nat) : Bool := decide (r.ins[i]? = some r.out) || decide (∃ x ∈ r.ins.take i, r.ins[i]? = some x)
def twice (r : Ru) : Bool := (List.range r.ins.length).any r.twiceAt
def err (r : Ru) : Nat :=
  if pathB r.out = false then 4
  else if Af.actE r.kind r.word r.ins.length ≠ 0 then Af.actE r.kind r.word r.ins.length
  else if r.ins.all pathB = false then 4
  else if r.twice = true then 7 else 0
def errAt (l : List Ru) (i : Nat) : Nat :=
  match l[i]? with
  | some r => if r.err ≠ 0 then r.err else if r.out ∈ (l.take i).map Ru.out then 7 else 0
  | none => 0
def fault (l : List Ru) : Nat × Int :=
  if 40 < l.length then (2, -1) else match first (errAt l) l.length with | some k => (errAt l k, (k : Int)) | none => (0, -1)
theorem fault_many {l : List Ru} (h : 40 < l.length) : fault l = (2, -1) := by unfold fault; rw [if_pos h]
theorem fault_none {l : List Ru} (h0 : l.length ≤ 40) (h : ∀ j, j < l.length → errAt l j = 0) : fault l = (0, -1) := by
  unfold fault
  rw [if_neg (by omega), first_none h]
theorem fault_some {l : List Ru} {m : Nat} (h0 : l.length ≤ 40) (hm : m < l.length) (hc : errAt l m ≠ 0) (h : ∀ j, j < m → errAt l j = 0) : fault l = (errAt l m, (m : Int)) := by
  unfold fault
  rw [if_neg (by omega), first_some hm hc h]
theorem twice_iff {r : Ru} : r.twice = true ↔ ∃ i, i < r.ins.length ∧ r.twiceAt i = true := by
  unfold twice
  simp [List.any_eq_true]
theorem twiceAt_eq {r : Ru} {i : Nat} (h : i < r.ins.length) : r.twiceAt i = (decide (r.ins[i] = r.out) || decide (r.ins[i] ∈ r.ins.take i)) := by
  unfold twiceAt
  rw [List.getElem?_eq_getElem h]
  congr 1
  · simp
  · rw [decide_eq_decide]
    constructor
    · rintro ⟨x, hx, e⟩
      rw [Option.some.inj e]
      exact hx
    · exact fun hx => ⟨_, hx, rfl⟩
theorem errAt_eq {l : List Ru} {i : Nat} (h : i < l.length) : errAt l i = if l[i].err ≠ 0 then l[i].err else if l[i].out ∈ (l.take i).map Ru.out then 7 else 0 := by
  unfold errAt
  rw [List.getElem?_eq_getElem h]
theorem err_le (r : Ru) : r.err = 0 ∨ ∃ k, k < 12 ∧ r.err = k + 1 := by
  unfold err
  split
  · exact .inr ⟨3, by omega, rfl⟩
  · split
    · exact actE_le _ _ _
    · split
      · exact .inr ⟨3, by omega, rfl⟩
      · split
        · exact .inr ⟨6, by omega, rfl⟩
        · exact .inl rfl
theorem errAt_le (l : List Ru) (i : Nat) : errAt l i = 0 ∨ ∃ k, k < 12 ∧ errAt l i = k + 1 := by
  unfold errAt
  split
  · split
    · exact err_le _
    · split
      · exact .inr ⟨6, by omega, rfl⟩
      · exact .inl rfl
  · exact .inl rfl
end Ru
def ErrV (w : World) (es : Nat → Addr) (v : Value) (f : Nat × Int) : Prop :=
  (f.2 = -1 ∧ v = erOf es f.1 ∧ f.1 ≤ 12) ∨ (∃ pb m, v = .iface 188 (.pointer (some ⟨pb, 0, none⟩)) ∧ m < 12 ∧ f.1 = m + 1 ∧ w.cell? ⟨pb, 0, none⟩ = some (.int .i64 f.2) ∧ w.cell? ⟨pb, 1, none⟩ = some (erOf es f.1))
theorem ErrV.below {w w' : World} {es : Nat → Addr} {v : Value} {f : Nat × Int} (h : ErrV w es v f) (hb : Below w.heap.size w w') : ErrV w' es v f := by
  rcases h with h | ⟨pb, m, e, hm, h0, h1, h2⟩
  · exact .inl h
  · exact .inr ⟨pb, m, e, hm, h0, cell_below' h1 hb, cell_below' h2 hb⟩
theorem ErrV.nil {w : World} {es : Nat → Addr} : ErrV w es .nilIface (0, -1) := .inl ⟨rfl, rfl, by simp⟩
theorem ErrV.bare {w : World} {es : Nat → Addr} {c : Nat} (h : c ≤ 12) : ErrV w es (erOf es c) (c, -1) := .inl ⟨rfl, rfl, h⟩
structure ES (w : World) (es : Nat → Addr) : Prop where
  c1 : w.cell? ⟨4, 0, none⟩ = some (.iface 407 (.pointer (some (es 1))))
  c3 : w.cell? ⟨7, 0, none⟩ = some (.iface 407 (.pointer (some (es 3))))
  c6 : w.cell? ⟨9, 0, none⟩ = some (.iface 407 (.pointer (some (es 6))))
  t : w.cell? ⟨12, 0, none⟩ = some (.iface 340 (.agg #[.pointer (some ⟨21, 25, none⟩)]))
theorem ES.below {w w' : World} {es : Nat → Addr} (h : ES w es) (hb : Below w.heap.size w w') : ES w' es :=
  ⟨cell_below' h.c1 hb, cell_below' h.c3 hb, cell_below' h.c6 hb, cell_below' h.t hb⟩
theorem E12.es {w : World} {es : Nat → Addr} (h : E12 w es) : ES w es := ⟨h.c1, h.c3, h.c6, h.t⟩
end Go.Proofs.YtbgkfmodbofalaaGreatDoor
namespace Go.Proofs.YtbgkfmodbofalaaGreatDoor
open Go.RowKit Go.Shelf Go.Lib Go.Extern.Stop Go.Stop Go.Extern
def Told (w : World) (es : Nat → Addr) (n : Nat) (c : Nat → Nat) (u : Value) : Prop :=
  ((∀ j, j < n → c j = 0) ∧ u = .nilIface) ∨ ∃ k pb, k < n ∧ c k ≠ 0 ∧ (∀ j, j < k → c j = 0) ∧ u = .iface 188 (.pointer (some ⟨pb, 0, none⟩)) ∧ w.cell? ⟨pb, 0, none⟩ = some (.int .i64 k) ∧ w.cell? ⟨pb, 1, none⟩ = some (erOf es (c k))
set_option maxRecDepth 100000 in
set_option maxHeartbeats 4000000 in
theorem searchS_calls {w : World} {es : Nat → Addr} (v : Value) (l : List (List UInt8)) (hrow : XRow w v l) (hl : l.length ≤ 1000000) (f : Nat) (caps : Array Value) (eg : ∀ args w, (callFunc f args).run Tryz.prog w = .ok (.enter f args) w) (c : Nat → Nat)
    (HS : Hid (∀ k (hk : k < l.length) W, Below w.heap.size w W → Calls Tryz.prog f (#[.int .i64 k, .string (ba l[k])] ++ caps) W fun e w' => e = .returned (erOf es (c k)) ∧ Below W.heap.size W w')) :
    Calls Tryz.prog 270 #[v, .func (.func f) #[] caps] w fun e w' => ∃ u, e = .returned u ∧ Below w.heap.size w w' ∧ Told w' es l.length c u := by
  obtain ⟨p, cap, rfl, hcap, _, hin⟩ := hrow
  have HI := hid1 hin
  clear hin
  have zl : (l.length : Int) ≤ 1000000 := by omega
  go_enter Tryz.func270, Tryz.ntmps270
  go_wp2
  go_loopw [10] (fun i wr => ∃ k : Nat, k ≤ l.length ∧ i = .int .i64 k ∧ (∀ j, j < k → c j = 0) ∧ Below w.heap.size w wr) (fun i _ => l.length - (intOf i).toNat)
  case atStart => exact ⟨0, Nat.zero_le _, rfl, fun j h => by omega, Below.refl _ _⟩
  case round =>
    obtain ⟨k, hk, rfl, hz, hB⟩ := hrel
    have HZ := hid1 hz
    clear hz
    have c0 : (0 : Int) ≤ (k : Int) := by omega
    by_cases hlt : k < l.length
    · have c1 : (k : Int) < (l.length : Int) := by omega
      obtain ⟨g', o, rfl, hg, hcur⟩ := HI.out (by intro e; rw [e] at hlt; simp at hlt)
      have hcell := (hB.cell (p := ⟨g', o + k, none⟩) hg).trans (hcur k hlt)
      have HC := HS.out k hlt wr hB
      clear hcur HI HS
      generalize l[k] = y at *
      cases hc : c k with
      | zero =>
        rw [hc] at HC
        simp only [erOf] at HC
        have HN : Hid (∀ j, j < k + 1 → c j = 0) := hid1 fun j hj => by
          rcases Nat.lt_or_ge j k with h | h
          · exact HZ.out j h
          · obtain rfl : j = k := by omega
            exact hc
        clear hc HZ
        go_wp2_with fail
        refine Calls.mono HC ?_
        rintro e w1 ⟨rfl, hb1⟩
        clear HC
        go_wp2
        exact ⟨⟨k + 1, by omega, by go_num, HN.out, below_then hB hb1⟩, by simp [intOf]; omega⟩
      | succ m =>
        rw [hc] at HC
        have HE := hid1 hc
        clear hc
        simp only [erOf] at HC
        go_wp2_with fail
        refine Calls.mono HC ?_
        rintro e w1 ⟨rfl, hb1⟩
        clear HC
        go_wp2
        go_ret
        refine ⟨_, rfl, (below_then hB hb1).alloc (below_then hB hb1).size _, .inr ⟨k, w1.heap.size, hlt, by rw [HE.out]; omega, HZ.out, rfl, ?_, ?_⟩⟩
        · simp
        · rw [HE.out]
          simp [erOf]
    · have c1 : (l.length : Int) ≤ (k : Int) := by omega
      have HN : Hid (∀ j, j < l.length → c j = 0) := hid1 fun j hj => HZ.out j (by omega)
      clear HI HS HZ
      go_wp2
      go_ret
      exact ⟨_, rfl, hB, .inl ⟨HN.out, rfl⟩⟩
set_option maxHeartbeats 4000000 in
theorem as_nil (t : Value) (w : World) : Calls Tryz.prog 150 #[.nilIface, t] w fun e w' => e = .returned (.bool false) ∧ w' = w := by
  go_enter Tryz.func150, Tryz.ntmps150
  go_wp2
  go_ret
  exact ⟨rfl, rfl⟩
set_option maxHeartbeats 4000000 in
theorem bare_nil (w : World) : Calls Tryz.prog 272 #[.nilIface] w fun e w' => e = .returned .nilIface ∧ Below w.heap.size w w' := by
  have HA := hid1 fun t W => as_nil t W
  go_enter Tryz.func272, Tryz.ntmps272
  go_wp2_with fail
  refine (HA.out _ _).mono ?_
  rintro e w1 ⟨rfl, rfl⟩
  go_wp2
  go_ret
  exact ⟨rfl, (Below.refl _ w).alloc (Nat.le_refl _) _⟩
set_option maxHeartbeats 4000000 in
theorem bare_fault {w : World} {es : Nat → Addr} (hE : ES w es) (pb : Nat) (t : TypeId) (u : Value) (h1 : w.cell? ⟨pb, 1, none⟩ = some (.iface t u)) :
    Calls Tryz.prog 272 #[.iface 188 (.pointer (some ⟨pb, 0, none⟩))] w fun e w' => e = .returned (.iface t u) ∧ Below w.heap.size w w' := by
  have hB0 : Below w.heap.size w (w.alloc (.cells #[.pointer none] 188)) := (Below.refl _ w).alloc (Nat.le_refl _) _
  have hE0 := hE.below hB0
  go_enter Tryz.func272, Tryz.ntmps272
  go_wp2_with fail
  refine (as_hit ⟨pb, 0, none⟩ ⟨w.heap.size, 0, none⟩ (.pointer none) _ hE0.t (by simp) (by simp)).mono ?_
  rintro e w1 ⟨rfl, hw1⟩
  have hB1 : Below w.heap.size w w1 := by
    rw [hw1]
    exact (((((hB0.alloc (by simp) _).alloc (by simp; omega) _).alloc (by simp; omega) _).alloc (by simp; omega) _).setCell (p := ⟨w.heap.size, 0, none⟩) (Nat.le_refl _) _)
  have hc1 : w1.cell? ⟨w.heap.size, 0, none⟩ = some (.pointer (some ⟨pb, 0, none⟩)) := by
    rw [hw1]
    refine World.cell?_setCell_same' _ _ _ ?_
    rw [World.cell?_alloc_lt _ _ ⟨w.heap.size, 0, none⟩ (by simp; omega), World.cell?_alloc_lt _ _ ⟨w.heap.size, 0, none⟩ (by simp; omega), World.cell?_alloc_lt _ _ ⟨w.heap.size, 0, none⟩ (by simp; omega), World.cell?_alloc_lt _ _ ⟨w.heap.size, 0, none⟩ (by simp)]
    simp
  clear hw1
  have g1 := cell_below h1 hB1
  clear hE0 hB0 h1 hE
  go_wp2
  go_ret
  exact ⟨rfl, hB1⟩
theorem bare_told {w : World} {es : Nat → Addr} (hE : ES w es) {n : Nat} {c : Nat → Nat} {u : Value} (h : Told w es n c u) :
    Calls Tryz.prog 272 #[u] w fun e w' => e = .returned (erOf es (Ru.firstC c n)) ∧ Below w.heap.size w w' := by
  rcases h with ⟨h0, rfl⟩ | ⟨k, pb, hk, hc, h0, rfl, _, h1⟩
  · rw [Ru.firstC_none h0]
    exact bare_nil w
  · rw [Ru.firstC_some hk hc h0]
    obtain ⟨m, hm⟩ : ∃ m, c k = m + 1 := ⟨c k - 1, by omega⟩
    rw [hm] at h1 ⊢
    exact bare_fault hE pb _ _ h1
end Go.Proofs.YtbgkfmodbofalaaGreatDoor
