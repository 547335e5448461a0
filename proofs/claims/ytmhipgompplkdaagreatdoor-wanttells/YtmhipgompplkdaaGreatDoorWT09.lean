import Derived.Test.YtmhipgompplkdaaGreatDoorWT07
import Derived.Test.YtmhipgompplkdaaGreatDoorChecked
import Derived.WalkKit
import Derived.LaidEql
import Derived.Stop.Asserts
import Derived.RowKitTokens
import Derived.Below
namespace Go.Proofs.YtmhipgompplkdaaGreatDoor
open Go.RowKit Go.Shelf Go.Lib
structure Only (S : Nat → Prop) (w w' : World) : Prop where
  os : w'.os = w.os
  tape : w'.tape = w.tape
  output : w'.output = w.output
  size : w.heap.size ≤ w'.heap.size
  block : ∀ j, j < w.heap.size → ¬ S j → w'.heap[j]? = w.heap[j]?
theorem Only.of {S : Nat → Prop} {w w' : World} (h : Below w.heap.size w w') : Only S w w' := ⟨h.os, h.tape, h.output, h.size, fun j hj _ => h.block j hj⟩
theorem Only.below {S : Nat → Prop} {w w' : World} (h : Only S w w') {B : Nat} (hS : ∀ j, S j → B ≤ j) (hB : B ≤ w.heap.size) : Below B w w' :=
  ⟨h.os, h.tape, h.output, h.size, fun j hj => h.block j (by omega) fun hs => by have := hS j hs; omega⟩
theorem Only.trans {S S' : Nat → Prop} {a b c : World} (h : Only S a b) (h' : Only S' b c) (hS : ∀ j, S' j → S j ∨ a.heap.size ≤ j) : Only S a c :=
  ⟨h'.os.trans h.os, h'.tape.trans h.tape, h'.output.trans h.output, Nat.le_trans h.size h'.size, fun j hj hs => (h'.block j (Nat.lt_of_lt_of_le hj h.size) fun h1 => by
    rcases hS j h1 with h2 | h2
    · exact hs h2
    · omega).trans (h.block j hj hs)⟩
theorem Only.cell {S : Nat → Prop} {w w' : World} (h : Only S w w') {a : Addr} {u : Value} (hc : w.cell? a = some u) (hs : ¬ S a.block) : w'.cell? a = some u :=
  (World.cell?_of_block (h.block a.block (lt_of_cell hc) hs)).trans hc
def enCells (l : Cf.Ens) : List Value := l.flatMap fun e => [Value.string (ba e.1), Value.string (ba e.2)]
theorem enCells_get : ∀ (l : Cf.Ens) (j : Nat) (hj : j < l.length), (enCells l)[j * 2]? = some (.string (ba l[j].1)) ∧ (enCells l)[j * 2 + 1]? = some (.string (ba l[j].2))
  | [], j, hj => by simp at hj
  | x :: t, 0, _ => by simp [enCells]
  | x :: t, j + 1, hj => by
    have := enCells_get t j (by simpa using hj)
    have e : enCells (x :: t) = Value.string (ba x.1) :: Value.string (ba x.2) :: enCells t := by simp [enCells]
    rw [e, show (j + 1) * 2 = j * 2 + 1 + 1 by omega]
    simpa using this
def MERow (w : World) (v : Value) (T : Nat → Prop) (l : Cf.Ens) : Prop :=
  ∃ p cap, v = .slice p l.length cap ∧ l.length ≤ cap ∧ (l ≠ [] → ∃ g o, p = some ⟨g, o, none⟩ ∧ T g ∧ g < w.heap.size ∧ ∀ j (hj : j < l.length), w.cell? ⟨g, o + j * 2, none⟩ = some (.string (ba l[j].1)) ∧ w.cell? ⟨g, o + j * 2 + 1, none⟩ = some (.string (ba l[j].2)))
theorem MERow.same {w w' : World} {v : Value} {T : Nat → Prop} {l : Cf.Ens} (h : MERow w v T l) (hz : w.heap.size ≤ w'.heap.size) (hb : ∀ k, T k → w'.heap[k]? = w.heap[k]?) : MERow w' v T l := by
  obtain ⟨p, cap, e, h0, h1⟩ := h
  refine ⟨p, cap, e, h0, fun hl => ?_⟩
  obtain ⟨g, o, e, hT, hg, hc⟩ := h1 hl
  exact ⟨g, o, e, hT, Nat.lt_of_lt_of_le hg hz, fun j hj => ⟨(World.cell?_of_block (a := ⟨g, o + j * 2, none⟩) (hb g hT)).trans (hc j hj).1, (World.cell?_of_block (a := ⟨g, o + j * 2 + 1, none⟩) (hb g hT)).trans (hc j hj).2⟩⟩
structure MAt (T : Nat → Prop) (W : World) (v : Value) (m : Nat) (l : Cf.Ens) : Prop where
  lies : ∃ mb u, v = .pointer (some ⟨mb, 0, none⟩) ∧ T mb ∧ W.cell? ⟨mb, 0, none⟩ = some (.int .i64 m) ∧ W.cell? ⟨mb, 1, none⟩ = some u ∧ W.frozen? ⟨mb, 1, none⟩ = false ∧ MERow W u (fun k => T k ∧ k ≠ mb) l
  lt : ∀ k, T k → k < W.heap.size
theorem MAt.same {T : Nat → Prop} {W W' : World} {v : Value} {m : Nat} {l : Cf.Ens} (h : MAt T W v m l) (hz : W.heap.size ≤ W'.heap.size) (hb : ∀ k, T k → W'.heap[k]? = W.heap[k]?) : MAt T W' v m l := by
  obtain ⟨mb, u, e, hT, c0, c1, f1, hr⟩ := h.lies
  exact ⟨⟨mb, u, e, hT, (World.cell?_of_block (a := ⟨mb, 0, none⟩) (hb mb hT)).trans c0, (World.cell?_of_block (a := ⟨mb, 1, none⟩) (hb mb hT)).trans c1, (World.frozen?_of_block (a := ⟨mb, 1, none⟩) (hb mb hT)).trans f1, hr.same hz fun k hk => hb k hk.1⟩, fun k hk => Nat.lt_of_lt_of_le (h.lt k hk) hz⟩
theorem MAt.below {T : Nat → Prop} {W W' : World} {v : Value} {m : Nat} {l : Cf.Ens} (h : MAt T W v m l) (hb : Below W.heap.size W W') : MAt T W' v m l := h.same hb.size fun k hk => hb.block k (h.lt k hk)
end Go.Proofs.YtmhipgompplkdaaGreatDoor
namespace Go.Proofs.YtmhipgompplkdaaGreatDoor
open Go.RowKit Go.Shelf Go.Lib
theorem MERow.of_owns {w : World} {B : Nat} {v : Value} {l : Cf.Ens} (h : w.ownsRow B 265 2 v l.length (enCells l)) : ∃ p cap, v = .slice p l.length cap ∧ l.length ≤ cap ∧ (l ≠ [] → ∃ g, p = some ⟨g, 0, none⟩ ∧ B ≤ g ∧ g < w.heap.size ∧ ∀ j (hj : j < l.length), w.cell? ⟨g, j * 2, none⟩ = some (.string (ba l[j].1)) ∧ w.cell? ⟨g, j * 2 + 1, none⟩ = some (.string (ba l[j].2))) := by
  rcases h.2 with ⟨rfl, hn⟩ | ⟨g, cap, cur, rfl, hB, hb, h1, _, hcs, h4⟩
  · exact ⟨none, 0, by rw [hn], by omega, fun hl => absurd (List.length_eq_zero_iff.1 hn) hl⟩
  · refine ⟨_, cap, rfl, h1, fun _ => ⟨g, rfl, hB, (Array.getElem?_eq_some_iff.1 hb).1, fun j hj => ?_⟩⟩
    have hg := enCells_get l j hj
    have key : ∀ i, i < l.length * 2 → cur[i]? = (enCells l)[i]? := fun i hi => by
      have := congrArg (fun x => x[i]?) h4
      simp only [List.getElem?_take, hi, if_true, Array.getElem?_toList] at this
      exact this
    refine ⟨?_, ?_⟩
    · simp only [World.cell?, hb]
      simpa using (key (j * 2) (by omega)).trans hg.1
    · simp only [World.cell?, hb]
      simpa using (key (j * 2 + 1) (by omega)).trans hg.2
theorem MAt.stored {T : Nat → Prop} {W w5 : World} {mb m g o n cap : Nat} {l : Cf.Ens} (HT : T mb) (hmb : mb < W.heap.size) (B5 : Below W.heap.size W w5) (c0 : W.cell? ⟨mb, 0, none⟩ = some (.int .i64 m)) (c1 : (W.cell? ⟨mb, 1, none⟩).isSome = true) (f1 : W.frozen? ⟨mb, 1, none⟩ = false)
    (hg : W.heap.size ≤ g) (hg2 : g < w5.heap.size) (hn : n = l.length) (hcap : n ≤ cap) (hc : ∀ j (hj : j < l.length), w5.cell? ⟨g, o + j * 2, none⟩ = some (.string (ba l[j].1)) ∧ w5.cell? ⟨g, o + j * 2 + 1, none⟩ = some (.string (ba l[j].2))) :
    Only T W (w5.setCell ⟨mb, 1, none⟩ (.slice (some ⟨g, o, none⟩) n cap)) ∧ ∃ T', MAt T' (w5.setCell ⟨mb, 1, none⟩ (.slice (some ⟨g, o, none⟩) n cap)) (.pointer (some ⟨mb, 0, none⟩)) m l ∧ ∀ j, T' j → T j ∨ W.heap.size ≤ j := by
  subst hn
  have d0 := cell_below' c0 B5
  have d1 : (w5.cell? ⟨mb, 1, none⟩).isSome = true := by rw [B5.cell (p := ⟨mb, 1, none⟩) hmb]; exact c1
  have e1 : w5.frozen? ⟨mb, 1, none⟩ = false := (B5.frozen (p := ⟨mb, 1, none⟩) hmb).trans f1
  have hS : ∀ c, c ≠ mb → (w5.setCell ⟨mb, 1, none⟩ (.slice (some ⟨g, o, none⟩) l.length cap)).heap[c]? = w5.heap[c]? := fun c hc => Below.heap_setCell w5 ⟨mb, 1, none⟩ _ c hc
  have hz : (w5.setCell ⟨mb, 1, none⟩ (.slice (some ⟨g, o, none⟩) l.length cap)).heap.size = w5.heap.size := by simp
  have h5 := B5.size
  refine ⟨⟨B5.os, B5.tape, B5.output, by rw [hz]; exact h5, fun j hj hs => (hS j fun e => hs (e ▸ HT)).trans (B5.block j hj)⟩, fun j => j = mb ∨ j = g, ⟨⟨mb, _, rfl, .inl rfl, ?_, World.cell?_setCell_same' _ _ _ d1, by rw [World.frozen?_setCell]; exact e1, ?_⟩, ?_⟩, ?_⟩
  · rw [World.cell?_setCell_other]
    · exact d0
    · simp
  · refine ⟨_, cap, rfl, hcap, fun _ => ⟨g, o, rfl, ⟨.inr rfl, by omega⟩, by rw [hz]; exact hg2, fun j hj => ⟨?_, ?_⟩⟩⟩
    · exact (World.cell?_of_block (a := ⟨g, o + j * 2, none⟩) (hS g (by omega))).trans (hc j hj).1
    · exact (World.cell?_of_block (a := ⟨g, o + j * 2 + 1, none⟩) (hS g (by omega))).trans (hc j hj).2
  · rintro j (rfl | rfl)
    · rw [hz]; omega
    · rw [hz]; exact hg2
  · rintro j (rfl | rfl)
    · exact .inl HT
    · exact .inr hg
end Go.Proofs.YtmhipgompplkdaaGreatDoor
namespace Go.Proofs.YtmhipgompplkdaaGreatDoor
open Go.RowKit Go.Shelf Go.Lib Go.Maps
set_option maxRecDepth 100000 in
theorem Byte_calls (n : Nat) (hn : n < 256) (w : World) : Calls Tryz.prog 153 #[.int .i64 n] w fun e w' => e = .returned (.string (ba [UInt8.ofNat n])) ∧ Below w.heap.size w w' := by
  have z0 : (0 : Int) ≤ (n : Int) := by omega
  have z1 : (n : Int) < 256 := by omega
  have hk := (MapKept.heap_alloc w (.cells #[.int .u8 (n : Int)] 5)).1
  have hcv : (convert 141 9 (.slice (some ⟨w.heap.size, 0, none⟩) 1 1)).run Tryz.prog (w.alloc (.cells #[.int .u8 (n : Int)] 5)) = .ok (.string (ba [UInt8.ofNat n])) (w.alloc (.cells #[.int .u8 (n : Int)] 5)) := run_convert_bytes_back (P := Tryz.prog) (w.alloc (.cells #[.int .u8 (n : Int)] 5)) 141 9 5 ⟨w.heap.size, 0, none⟩ 1 [UInt8.ofNat n] Tryz.underlying141 Tryz.underlying5 Tryz.underlying9
    (fun j hj => by
      match j, hj with
      | 0, _ =>
        have e : ((UInt8.ofNat n).toNat : Int) = (n : Int) := by simp; omega
        show _ = some (Value.int .u8 ((UInt8.ofNat n).toNat : Int))
        rw [e]
        exact cell_of_row hk rfl)
  go_enter Tryz.func153, Tryz.ntmps153
  go_wp2
  go_ret
  exact ⟨rfl, (Below.refl _ w).alloc (Nat.le_refl _) _⟩
theorem add48 (n : Nat) : 48 + UInt8.ofNat n = UInt8.ofNat (48 + n) := (UInt8.ofNat_add 48 n).symm
theorem digits_len' (n : Nat) (h : n ≤ 1000000) : (Lib.decDigits n).length ≤ 21 := by
  have := Lib.itoa_length_le (n : Int) (by omega) (by omega)
  rwa [Lib.itoa_nonneg] at this
set_option maxRecDepth 100000 in
set_option maxHeartbeats 2000000 in
theorem rbelow_calls : ∀ (n : Nat), n ≤ 1000000 → ∀ (w : World), Calls Tryz.prog 142 #[.int .i64 (-(n : Int))] w fun e w' => e = .returned (.string (ba (Lib.decDigits n))) ∧ Below w.heap.size w w' := by
  intro n
  induction n using Nat.strongRecOn with
  | _ n ih =>
    intro hn w
    rw [Lib.decDigits]
    by_cases h : n < 10
    · rw [dif_pos h]
      have HB : Hid (∀ W, Calls Tryz.prog 153 #[.int .i64 (48 + (n : Int))] W fun e w' => e = .returned (.string (ba [UInt8.ofNat (48 + n)])) ∧ Below W.heap.size W w') := fun W => by
        have := Byte_calls (48 + n) (by omega) W
        rwa [show ((48 + n : Nat) : Int) = 48 + (n : Int) by omega] at this
      have z1 : (-10 : Int) < -(n : Int) := by omega
      have z2 : (0 : Int) ≤ (n : Int) := by omega
      have z3 : (n : Int) < 10 := by omega
      clear ih
      go_enter Tryz.func142, Tryz.ntmps142
      go_wp2_with fail
      refine (HB.out _).mono ?_
      rintro e w1 ⟨rfl, g1⟩
      go_wp2
      go_ret
      exact ⟨congrArg (fun x => Ending.returned (.string (ba x))) (show [48 + UInt8.ofNat n] = [UInt8.ofNat (48 + n)] by rw [add48]), g1⟩
    · rw [dif_neg h]
      have HR : Hid (∀ W, Calls Tryz.prog 142 #[.int .i64 (-((n / 10 : Nat) : Int))] W fun e w' => e = .returned (.string (ba (Lib.decDigits (n / 10)))) ∧ Below W.heap.size W w') := fun W => ih (n / 10) (by omega) (by omega) W
      have HB : Hid (∀ W, Calls Tryz.prog 153 #[.int .i64 (48 + ((n % 10 : Nat) : Int))] W fun e w' => e = .returned (.string (ba [UInt8.ofNat (48 + n % 10)])) ∧ Below W.heap.size W w') := fun W => by
        have := Byte_calls (48 + n % 10) (by omega) W
        rwa [show ((48 + n % 10 : Nat) : Int) = 48 + ((n % 10 : Nat) : Int) by omega] at this
      have z1 : ¬ (-10 : Int) < -(n : Int) := by omega
      have z1' : -(n : Int) ≤ -10 := by omega
      have z2 : (0 : Int) ≤ (n : Int) := by omega
      have z3 : (n : Int) ≤ 1000000 := by omega
      have q1 : (-(n : Int)).tdiv 10 = -((n / 10 : Nat) : Int) := by rw [Int.neg_tdiv]; rfl
      have q2 : (-(n : Int)).tmod 10 = -((n % 10 : Nat) : Int) := by rw [Int.neg_tmod]; rfl
      have q3 : ((n / 10 : Nat) : Int) ≤ 100000 := by omega
      have q4 : (0 : Int) ≤ ((n / 10 : Nat) : Int) := by omega
      have q5 : ((n % 10 : Nat) : Int) < 10 := by omega
      have q6 : (0 : Int) ≤ ((n % 10 : Nat) : Int) := by omega
      have hlen := digits_len' (n / 10) (by omega)
      clear ih
      go_enter Tryz.func142, Tryz.ntmps142
      go_wp2_with fail
      refine (HR.out _).mono ?_
      rintro e w1 ⟨rfl, g1⟩
      go_wp2_with fail
      refine (HB.out _).mono ?_
      rintro e w2 ⟨rfl, g2⟩
      go_wp2
      go_ret
      exact ⟨congrArg (fun x => Ending.returned (.string (ba x))) (show Lib.decDigits (n / 10) ++ [48 + UInt8.ofNat (n % 10)] = Lib.decDigits (n / 10) ++ [UInt8.ofNat (48 + n % 10)] by rw [add48]), g1.trans (g2.mono g1.size)⟩
theorem Decimal_calls (n : Nat) (hn : n ≤ 1000000) (w : World) : Calls Tryz.prog 88 #[.int .i64 (n : Int)] w fun e w' => e = .returned (.string (ba (Lib.decDigits n))) ∧ Below w.heap.size w w' := by
  have HB : Hid (∀ W, Calls Tryz.prog 142 #[.int .i64 (-(n : Int))] W fun e w' => e = .returned (.string (ba (Lib.decDigits n))) ∧ Below W.heap.size W w') := fun W => rbelow_calls n hn W
  have z1 : ¬ (n : Int) < 0 := by omega
  have z2 : (0 : Int) ≤ (n : Int) := by omega
  have z3 : (n : Int) ≤ 1000000 := by omega
  go_enter Tryz.func88, Tryz.ntmps88
  go_wp2_with fail
  refine (HB.out _).mono ?_
  rintro e w1 ⟨rfl, g1⟩
  go_wp2
  go_ret
  exact ⟨rfl, g1⟩
end Go.Proofs.YtmhipgompplkdaaGreatDoor
namespace Go.Proofs.YtmhipgompplkdaaGreatDoor
open Go.RowKit Go.Extern.Stop Go.Stop Go.Extern
theorem Tryz.isTypeOf (v : Value) (w : World) : (callFunc 192 #[.iface 399 v]).run Tryz.prog w = .ok (.value (.iface 331 (.agg #[.pointer (some ⟨21, 399, none⟩)]))) w := by kernel_rfl
theorem Tryz.isComparable (w : World) : (callFunc 368 #[.agg #[.pointer (some ⟨21, 399, none⟩)]]).run Tryz.prog w = .ok (.value (.bool true)) w := by kernel_rfl
theorem Tryz.isMethodComparable (v : Value) (w : World) : (Go.method 533 331 v "Comparable").run Tryz.prog w = .ok (368, v) w := by kernel_rfl
theorem Tryz.isComp : (Tryz.prog.info? 399).map (·.comparable) = some true := by kernel_rfl
theorem Tryz.isSize : (Tryz.prog.info? 401).map (·.size) = some 1 := by kernel_rfl
theorem Tryz.noIsE (v : Value) (xT : TypeId) (w : World) : (Instr.typeAssert (.iface 399 v) xT 342 true).run Tryz.prog w = .ok (.tuple #[.nilIface, .bool false]) w := run_typeAssert_lacksB Tryz.underlying342 (by kernel_rfl) (by kernel_rfl) v xT w
theorem Tryz.noAsE (v : Value) (xT : TypeId) (w : World) : (Instr.typeAssert (.iface 399 v) xT 335 true).run Tryz.prog w = .ok (.tuple #[.nilIface, .bool false]) w := run_typeAssert_lacksB Tryz.underlying335 (by kernel_rfl) (by kernel_rfl) v xT w
theorem Tryz.noUnwrapE (v : Value) (xT : TypeId) (w : World) : (Instr.typeAssert (.iface 399 v) xT 338 true).run Tryz.prog w = .ok (.tuple #[.nilIface, .bool false]) w := run_typeAssert_lacksB Tryz.underlying338 (by kernel_rfl) (by kernel_rfl) v xT w
theorem Tryz.noUnwrapsE (v : Value) (xT : TypeId) (w : World) : (Instr.typeAssert (.iface 399 v) xT 340 true).run Tryz.prog w = .ok (.tuple #[.nilIface, .bool false]) w := run_typeAssert_lacksB Tryz.underlying340 (by kernel_rfl) (by kernel_rfl) v xT w
theorem Tryz.noIsF (v : Value) (xT : TypeId) (w : World) : (Instr.typeAssert (.iface 179 v) xT 342 true).run Tryz.prog w = .ok (.tuple #[.nilIface, .bool false]) w := run_typeAssert_lacksB Tryz.underlying342 (by kernel_rfl) (by kernel_rfl) v xT w
theorem Tryz.hasUnwrapF (v : Value) (xT : TypeId) (w : World) : (Instr.typeAssert (.iface 179 v) xT 338 true).run Tryz.prog w = .ok (.tuple #[.iface 179 v, .bool true]) w := run_typeAssert_hasB Tryz.underlying338 (by kernel_rfl) v xT w
theorem Tryz.methodUnwrap (v : Value) (w : World) : (Go.method 533 179 v "Unwrap").run Tryz.prog w = .ok (362, v) w := by kernel_rfl
theorem is_same (a : Addr) (w : World) :
    Calls Tryz.prog 139 #[.iface 399 (.pointer (some a)), .iface 399 (.pointer (some a))] w fun e w' => e = .returned (.bool true) ∧ w' = w := by
  obtain ⟨i, hi, hcmp⟩ := Option.map_eq_some_iff.1 Tryz.isComp
  obtain ⟨j, hj, hjs⟩ := Option.map_eq_some_iff.1 Tryz.isSize
  have tT := Tryz.isTypeOf
  have cT := Tryz.isComparable
  have mR := Tryz.isMethodComparable
  have heq := run_eql_iface_ptr_same (P := Tryz.prog) w a Tryz.underlying25 Tryz.underlying399 hi hcmp hj
  go_enter Tryz.func139, Tryz.ntmps139
  go_wp2
  refine wp_loop_rounds 1 ?_
  rw [rounds_succ]
  go_wp2
  go_ret
  exact ⟨rfl, rfl⟩
theorem is_other (a b : Addr) (ca cb : Array Value) (ta tb : TypeId) (w : World) (hne : a ≠ b) (ha : w.heap[a.block]? = some (.cells ca ta (0, 0))) (hb : w.heap[b.block]? = some (.cells cb tb (0, 0))) :
    Calls Tryz.prog 139 #[.iface 399 (.pointer (some a)), .iface 399 (.pointer (some b))] w fun e w' => e = .returned (.bool false) ∧ w' = w := by
  obtain ⟨i, hi, hcmp⟩ := Option.map_eq_some_iff.1 Tryz.isComp
  obtain ⟨j, hj, hjs⟩ := Option.map_eq_some_iff.1 Tryz.isSize
  have tT := Tryz.isTypeOf
  have cT := Tryz.isComparable
  have mR := Tryz.isMethodComparable
  have nE := Tryz.noIsE
  have uE := Tryz.noUnwrapE
  have vE := Tryz.noUnwrapsE
  have heq := run_eql_iface_ptr_other (P := Tryz.prog) w Tryz.underlying25 Tryz.underlying399 hi hcmp hj (by rw [hjs]; decide) hne ha hb
  go_enter Tryz.func139, Tryz.ntmps139
  go_wp2
  refine wp_loop_rounds 1 ?_
  rw [rounds_succ]
  go_wp2
  go_ret
  exact ⟨rfl, rfl⟩
end Go.Proofs.YtmhipgompplkdaaGreatDoor
namespace Go.Proofs.YtmhipgompplkdaaGreatDoor
open Go.RowKit Go.Extern.Stop Go.Stop Go.Extern
theorem Tryz.valueOfP (t : Addr) (w : World) : (callFunc 188 #[.iface 222 (.pointer (some t))]).run Tryz.prog w
    = .ok (.value (.agg #[.pointer (some ⟨21, 222, none⟩), .pointer (some ⟨w.heap.size, 0, none⟩), .int .u64 150])) (w.alloc (.cells #[.pointer (some t)] 222)) := by kernel_rfl
theorem Tryz.typeP (a : Addr) (w : World) : (callFunc 189 #[.agg #[.pointer (some ⟨21, 222, none⟩), .pointer (some a), .int .u64 150]]).run Tryz.prog w
    = .ok (.value (.iface 331 (.agg #[.pointer (some ⟨21, 222, none⟩)]))) w := by kernel_rfl
theorem Tryz.methodKind (h : Value) (w : World) : (Go.method 533 331 (.agg #[h]) "Kind").run Tryz.prog w = .ok (356, h) w := by kernel_rfl
theorem Tryz.methodElem (h : Value) (w : World) : (Go.method 533 331 (.agg #[h]) "Elem").run Tryz.prog w = .ok (369, .agg #[h]) w := by kernel_rfl
theorem Tryz.methodImplements (h : Value) (w : World) : (Go.method 533 331 (.agg #[h]) "Implements").run Tryz.prog w = .ok (370, .agg #[h]) w := by kernel_rfl
theorem Tryz.methodAssignableTo (h : Value) (w : World) : (Go.method 533 331 (.agg #[h]) "AssignableTo").run Tryz.prog w = .ok (367, .agg #[h]) w := by kernel_rfl
theorem Tryz.kindP (w : World) : (callFunc 356 #[.pointer (some ⟨21, 222, none⟩)]).run Tryz.prog w = .ok (.value (.int .u8 22)) w := by kernel_rfl
theorem Tryz.kindF (w : World) : (callFunc 356 #[.pointer (some ⟨21, 179, none⟩)]).run Tryz.prog w = .ok (.value (.int .u8 22)) w := by kernel_rfl
theorem Tryz.elemP (w : World) : (callFunc 369 #[.agg #[.pointer (some ⟨21, 222, none⟩)]]).run Tryz.prog w = .ok (.value (.iface 331 (.agg #[.pointer (some ⟨21, 179, none⟩)]))) w := by kernel_rfl
theorem Tryz.implementsF (w : World) : (callFunc 370 #[.agg #[.pointer (some ⟨21, 179, none⟩)], .iface 331 (.agg #[.pointer (some ⟨21, 25, none⟩)])]).run Tryz.prog w = .ok (.value (.bool true)) w := by kernel_rfl
theorem Tryz.typeOfF (v : Value) (w : World) : (callFunc 192 #[.iface 179 v]).run Tryz.prog w = .ok (.value (.iface 331 (.agg #[.pointer (some ⟨21, 179, none⟩)]))) w := by kernel_rfl
theorem Tryz.assignableF (w : World) : (callFunc 367 #[.agg #[.pointer (some ⟨21, 179, none⟩)], .iface 331 (.agg #[.pointer (some ⟨21, 179, none⟩)])]).run Tryz.prog w = .ok (.value (.bool true)) w := by kernel_rfl
theorem Tryz.assignableE (w : World) : (callFunc 367 #[.agg #[.pointer (some ⟨21, 399, none⟩)], .iface 331 (.agg #[.pointer (some ⟨21, 179, none⟩)])]).run Tryz.prog w = .ok (.value (.bool false)) w := by kernel_rfl
theorem Tryz.valueOfF (e : Addr) (w : World) : (callFunc 188 #[.iface 179 (.pointer (some e))]).run Tryz.prog w
    = .ok (.value (.agg #[.pointer (some ⟨21, 179, none⟩), .pointer (some ⟨w.heap.size, 0, none⟩), .int .u64 150])) (w.alloc (.cells #[.pointer (some e)] 179)) := by kernel_rfl
theorem rlm (z : Sem Value) (f : TypeId → Addr → Nat → Nat → Sem Value) (v : Value) :
    ReflectliteValue.method z f #[v] = (do match ← ReflectliteValue.parts v with | none => z | some (t, a, fl) => f t a fl (fl % 32)) := rfl
theorem Tryz.partsP (a : Addr) (w : World) : (ReflectliteValue.parts (.agg #[.pointer (some ⟨21, 222, none⟩), .pointer (some a), .int .u64 150])).run Tryz.prog w = .ok (some (222, a, 150)) w := by kernel_rfl
theorem Tryz.isNilP (a p : Addr) (W : World) (ha : W.cell? a = some (.pointer (some p))) :
    (ReflectliteValue.method (ReflectliteValue.valueError "reflectlite.Value.IsNil" 0) ReflectliteValue.isNil #[.agg #[.pointer (some ⟨21, 222, none⟩), .pointer (some a), .int .u64 150]]).run Tryz.prog W = .ok (.bool false) W := by
  rw [rlm]
  simp only [Sem.run_bind, Tryz.partsP, Result.andThen]
  simp [ReflectliteValue.isNil, loadVar, isAgg, underlying, Tryz.underlying222, ha, Result.andThen]
set_option maxHeartbeats 4000000 in
theorem as_miss (x t : Addr) (w : World) (hg : w.cell? ⟨12, 0, none⟩ = some (.iface 331 (.agg #[.pointer (some ⟨21, 25, none⟩)]))) :
    Calls Tryz.prog 138 #[.iface 399 (.pointer (some x)), .iface 222 (.pointer (some t))] w fun ev w' => ev = .returned (.bool false) ∧ Below w.heap.size w w' := by
  have h8 := @run_callFunc_extern Tryz.prog 190 _ (ReflectliteValue.method (ReflectliteValue.valueError "reflectlite.Value.IsNil" 0) ReflectliteValue.isNil) Tryz.func190 (by kernel_rfl) (by kernel_rfl) (by kernel_rfl) (by kernel_rfl)
  have tO := Tryz.isTypeOf
  have mA := Tryz.methodAssignableTo
  have aE := Tryz.assignableE
  have f6 := Tryz.valueOfP
  have f7 := Tryz.typeP
  have mK := Tryz.methodKind
  have mE := Tryz.methodElem
  have mI := Tryz.methodImplements
  have k27 := Tryz.kindP
  have k25 := Tryz.kindF
  have e27 := Tryz.elemP
  have i25 := Tryz.implementsF
  have nE := Tryz.noAsE
  have uE := Tryz.noUnwrapE
  have vE := Tryz.noUnwrapsE
  have n8 := Tryz.isNilP ⟨w.heap.size, 0, none⟩ t ((w.alloc (.cells #[.pointer (some t)] 222)).alloc (.cells #[.pointer (some ⟨21, 222, none⟩), .pointer (some ⟨w.heap.size, 0, none⟩), .int .u64 150] 273)) (by simp)
  have hlt : 12 < w.heap.size := by
    rcases Nat.lt_or_ge 12 w.heap.size with h | h
    · exact h
    · simp [World.cell?, Array.getElem?_eq_none h] at hg
  have hg2 : ((w.alloc (.cells #[.pointer (some t)] 222)).alloc (.cells #[.pointer (some ⟨21, 222, none⟩), .pointer (some ⟨w.heap.size, 0, none⟩), .int .u64 150] 273)).cell? ⟨12, 0, none⟩ = some (.iface 331 (.agg #[.pointer (some ⟨21, 25, none⟩)])) := by
    rw [World.cell?_alloc_lt _ _ ⟨12, 0, none⟩ (by simp; omega), World.cell?_alloc_lt _ _ ⟨12, 0, none⟩ hlt]; exact hg
  go_enter Tryz.func138, Tryz.ntmps138
  go_wp2
  refine wp_loop_rounds 1 ?_
  rw [rounds_succ]
  go_wp2
  go_ret
  exact ⟨rfl, (((Below.refl _ w).alloc (Nat.le_refl _) _).alloc (by simp) _).alloc (by simp; omega) _⟩
end Go.Proofs.YtmhipgompplkdaaGreatDoor
namespace Go.Proofs.YtmhipgompplkdaaGreatDoor
open Go.RowKit Go.Extern.Stop Go.Stop Go.Extern
structure E12 (w : World) (es : Nat → Addr) : Prop where
  c0 : w.cell? ⟨0, 0, none⟩ = some (.iface 399 (.pointer (some (es 0))))
  c1 : w.cell? ⟨4, 0, none⟩ = some (.iface 399 (.pointer (some (es 1))))
  c2 : w.cell? ⟨1, 0, none⟩ = some (.iface 399 (.pointer (some (es 2))))
  c3 : w.cell? ⟨7, 0, none⟩ = some (.iface 399 (.pointer (some (es 3))))
  c4 : w.cell? ⟨8, 0, none⟩ = some (.iface 399 (.pointer (some (es 4))))
  c5 : w.cell? ⟨2, 0, none⟩ = some (.iface 399 (.pointer (some (es 5))))
  c6 : w.cell? ⟨9, 0, none⟩ = some (.iface 399 (.pointer (some (es 6))))
  c7 : w.cell? ⟨10, 0, none⟩ = some (.iface 399 (.pointer (some (es 7))))
  c8 : w.cell? ⟨11, 0, none⟩ = some (.iface 399 (.pointer (some (es 8))))
  c9 : w.cell? ⟨3, 0, none⟩ = some (.iface 399 (.pointer (some (es 9))))
  c10 : w.cell? ⟨6, 0, none⟩ = some (.iface 399 (.pointer (some (es 10))))
  c11 : w.cell? ⟨5, 0, none⟩ = some (.iface 399 (.pointer (some (es 11))))
  t : w.cell? ⟨12, 0, none⟩ = some (.iface 331 (.agg #[.pointer (some ⟨21, 25, none⟩)]))
  rows : ∀ k, k < 12 → ∃ c t, w.heap[(es k).block]? = some (.cells c t (0, 0))
  inj : ∀ j k, j < 12 → k < 12 → j ≠ k → es j ≠ es k
theorem blt_of_cell {w : World} {a : Addr} {v : Value} (h : w.cell? a = some v) : a.block < w.heap.size := by
  rcases Nat.lt_or_ge a.block w.heap.size with h' | h'
  · exact h'
  · simp [World.cell?, Array.getElem?_eq_none h'] at h
theorem cell_below {w w' : World} {a : Addr} {v : Value} (h : w.cell? a = some v) (hb : Below w.heap.size w w') : w'.cell? a = some v := (hb.cell (p := a) (blt_of_cell h)).trans h
theorem row_below {w w' : World} {b : Nat} {o : Obj} (h : w.heap[b]? = some o) (hb : Below w.heap.size w w') : w'.heap[b]? = some o := (hb.block b (Array.getElem?_eq_some_iff.1 h).1).trans h
theorem E12.below {w w' : World} {es : Nat → Addr} (h : E12 w es) (hb : Below w.heap.size w w') : E12 w' es :=
  ⟨cell_below h.c0 hb, cell_below h.c1 hb, cell_below h.c2 hb, cell_below h.c3 hb, cell_below h.c4 hb, cell_below h.c5 hb, cell_below h.c6 hb, cell_below h.c7 hb, cell_below h.c8 hb, cell_below h.c9 hb, cell_below h.c10 hb, cell_below h.c11 hb, cell_below h.t hb,
   fun k hk => by obtain ⟨c, t, hc⟩ := h.rows k hk; exact ⟨c, t, row_below hc hb⟩, h.inj⟩
def codeOf (es : Nat → Addr) (x : Addr) : Int :=
  match (List.range 12).find? (fun k => decide (es k = x)) with
  | some k => (k : Int) + 1
  | none => -1
theorem codeOf_none {es : Nat → Addr} {x : Addr} (h : ∀ j, j < 12 → es j ≠ x) : codeOf es x = -1 := by
  have : (List.range 12).find? (fun k => decide (es k = x)) = none := by
    rw [List.find?_eq_none]
    intro k hk
    simpa using h k (List.mem_range.1 hk)
  unfold codeOf
  rw [this]
theorem codeOf_some {es : Nat → Addr} {x : Addr} {k : Nat} (hk : k < 12) (he : es k = x) (h : ∀ j, j < k → es j ≠ x) : codeOf es x = (k : Int) + 1 := by
  have : (List.range 12).find? (fun k => decide (es k = x)) = some k := by
    rw [List.find?_range_eq_some]
    simp [he, hk]
    exact fun j hj => h j hj
  unfold codeOf
  rw [this]
theorem Code_nil (w : World) : Calls Tryz.prog 84 #[.nilIface] w fun e w' => e = .returned (.tuple #[.int .i64 0, .int .i64 (-1)]) ∧ w' = w := by
  go_enter Tryz.func84, Tryz.ntmps84
  go_wp2
  go_ret2
  exact ⟨rfl, rfl⟩
def esV (es : Nat → Addr) : Array Value := #[.iface 399 (.pointer (some (es 0))), .iface 399 (.pointer (some (es 1))), .iface 399 (.pointer (some (es 2))), .iface 399 (.pointer (some (es 3))), .iface 399 (.pointer (some (es 4))), .iface 399 (.pointer (some (es 5))), .iface 399 (.pointer (some (es 6))), .iface 399 (.pointer (some (es 7))), .iface 399 (.pointer (some (es 8))), .iface 399 (.pointer (some (es 9))), .iface 399 (.pointer (some (es 10))), .iface 399 (.pointer (some (es 11)))]
theorem es_cells (es : Nat → Addr) (w : World) (k : Nat) (hk : k < 12) : (w.alloc (.cells (esV es) 25)).cell? ⟨w.heap.size, k, none⟩ = some (.iface 399 (.pointer (some (es k)))) := by
  have : k = 0 ∨ k = 1 ∨ k = 2 ∨ k = 3 ∨ k = 4 ∨ k = 5 ∨ k = 6 ∨ k = 7 ∨ k = 8 ∨ k = 9 ∨ k = 10 ∨ k = 11 := by omega
  rcases this with rfl | rfl | rfl | rfl | rfl | rfl | rfl | rfl | rfl | rfl | rfl | rfl <;> simp [esV]
set_option maxHeartbeats 2000000 in
theorem Code_ptr (x : Addr) (es : Nat → Addr) (cx : Array Value) (tx : TypeId) (w : World) (hE : E12 w es) (hx : w.heap[x.block]? = some (.cells cx tx (0, 0))) :
    Calls Tryz.prog 84 #[.iface 399 (.pointer (some x))] w fun e w' => e = .returned (.tuple #[.int .i64 (codeOf es x), .int .i64 (-1)]) ∧ Below w.heap.size w w' := by
  have hB0 : Below w.heap.size w (w.alloc (.cells #[.pointer none] 179)) := (Below.refl _ w).alloc (Nat.le_refl _) _
  have hE0 := hE.below hB0
  go_enter Tryz.func84, Tryz.ntmps84
  go_wp2_with fail
  refine (as_miss x _ _ hE0.t).mono ?_
  rintro e w1 ⟨rfl, hb1'⟩
  have hB1 := hB0.trans (hb1'.mono hB0.size)
  have hE1 := hE.below hB1
  have hx1 := row_below hx hB1
  have k0 := hE1.c0; have k1 := hE1.c1; have k2 := hE1.c2; have k3 := hE1.c3; have k4 := hE1.c4; have k5 := hE1.c5
  have k6 := hE1.c6; have k7 := hE1.c7; have k8 := hE1.c8; have k9 := hE1.c9; have k10 := hE1.c10; have k11 := hE1.c11
  clear hE0 hB0 hb1'
  go_wp2
  have hB2 : Below w1.heap.size w1 (w1.alloc (.cells (esV es) 25)) := (Below.refl _ w1).alloc (Nat.le_refl _) _
  have hE2 := hE1.below hB2
  have hx2 := row_below hx1 hB2
  have hBB := hB1.trans (hB2.mono hB1.size)
  have hsl := es_cells es w1
  unfold esV at hB2 hE2 hx2 hBB hsl
  clear k0 k1 k2 k3 k4 k5 k6 k7 k8 k9 k10 k11 hE1 hB2 hx1 hE hx
  generalize w1.alloc _ = W2 at *
  have HE : Hid (E12 W2 es) := hE2
  clear hE2
  go_loop [3, 30] (fun a i => a = .int .i64 (-1) ∧ ∃ k : Nat, k ≤ 12 ∧ i = .int .i64 k ∧ ∀ j, j < k → es j ≠ x) (fun _ i => 12 - (intOf i).toNat)
  case atStart => exact ⟨rfl, 0, by omega, rfl, fun j hj => by omega⟩
  case round =>
    obtain ⟨rfl, k, hk, rfl, hno⟩ := hrel
    have HN : Hid (∀ j, j < k → es j ≠ x) := hno
    clear hno
    by_cases hlt : k < 12
    · have hck := hsl k hlt
      have hlt' : (k : Int) < 12 := by omega
      have hk0 : (0 : Int) ≤ (k : Int) := by omega
      by_cases hek : es k = x
      · have hc := codeOf_some hlt hek HN.out
        have HC : Hid (codeOf es x = (k : Int) + 1) := hc
        have HK : Hid (es k = x) := hek
        clear hc hsl hek
        go_wp2_with fail
        rw [HK.out]
        refine (is_same x _).mono ?_
        rintro e w' ⟨rfl, rfl⟩
        go_wp2
        go_ret2
        exact ⟨by rw [HC.out]; rfl, hBB⟩
      · obtain ⟨c, t, hr⟩ := HE.out.rows k hlt
        have hio := is_other x (es k) cx c tx t W2 (fun e => hek e.symm) hx2 hr
        have HI : Hid (Calls Tryz.prog 139 #[.iface 399 (.pointer (some x)), .iface 399 (.pointer (some (es k)))] W2 fun e w' => e = .returned (.bool false) ∧ w' = W2) := hio
        have HK : Hid (¬ es k = x) := hek
        clear hio hsl hek hr
        go_wp2_with fail
        refine HI.out.mono ?_
        rintro e w' ⟨rfl, rfl⟩
        go_wp2
        go_round
        case rel =>
          refine ⟨rfl, k + 1, by omega, by go_num, fun j hj => ?_⟩
          rcases Nat.lt_or_ge j k with h | h
          · exact HN.out j h
          · obtain rfl : j = k := by omega
            exact HK.out
        case measure => simp [intOf]; omega
    · have hc := codeOf_none (es := es) (x := x) (fun j hj => HN.out j (by omega))
      have HC : Hid (codeOf es x = -1) := hc
      have hge : (12 : Int) ≤ (k : Int) := by omega
      clear hc hsl
      go_wp2
      go_ret2
      exact ⟨by rw [HC.out]; rfl, hBB⟩
end Go.Proofs.YtmhipgompplkdaaGreatDoor
