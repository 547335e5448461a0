/- The last statement of ActHeads, in whatever order. -/
import Derived.Test.YtigcogfjclohjaaGreatDoorAHeads
import Derived.Test.YtigcogfjclohjaaGreatDoorARegion
namespace Go.Proofs.YtigcogfjclohjaaGreatDoor
open Go.RowKit Go.Shelf Go.Lib
open Go.Sort (grow Holds putRow)

set_option maxRecDepth 100000 in
set_option maxHeartbeats 8000000 in
theorem heads_end (s x l n : List UInt8) (N : Nat) (p10 : Option Addr) (c10 : Nat) (a : Act) (W : World) (Q : Exit → Act → World → Prop) (hQ : ∀ c i v a w, Q (.panic c) (a.put i v) w → Q (.panic c) a w)
    (hn : a.tmps.size = 149) (f0 : a.eval (.tmp 0) = .string (ba s)) (f9 : a.eval (.tmp 9) = .string (ba x)) (f15 : a.eval (.tmp 15) = .string (ba l)) (f17 : a.eval (.tmp 17) = .string (ba n)) (f19 : a.eval (.tmp 19) = .slice p10 N c10)
    (hl1 : s.length ≤ l.length) (hl2 : l.length ≤ s.length + 1) (hxl : x.length ≤ l.length) (hp : l.take x.length = x) (hN : N ≤ 1000000) (hs : s.length ≤ 1500)
    (HN : Hid (∀ W, Calls Tryz.prog 30 #[.string (ba n), .int .u8 32] W fun e w' => ∃ v g k c, e = .returned v ∧ v = .slice (some ⟨g, 0, none⟩) (k + 1) c ∧ g < w'.heap.size ∧ w'.cell? ⟨g, 0, none⟩ = some (.string (ba (Lib.decDigits N))) ∧ Below W.heap.size W w'))
    (HDec : Hid (∀ (k : Nat) W, k ≤ 1000000 → Calls Tryz.prog 31 #[.int .i64 (k : Int)] W fun e w' => e = .returned (.string (ba (Lib.decDigits k))) ∧ Below W.heap.size W w'))
    (hK : ∀ a' w', a'.tmps.size = 149 → a'.defers = a.defers → a'.eval (.tmp 6) = .bool true → Below W.heap.size W w' → Q .normal a' w') :
    (Code.region 15 #[
    { dst := some 111, op := Op.move (Operand.tmp 15), type := 9, pos := "more.go:99", after := #[], guard := none },
    { dst := some 112, op := Op.call { callee := Callee.builtin Builtin.len, args := #[Operand.tmp 111], argTypes := #[9] }, type := 3, pos := "more.go:99", after := #[{ on := 0, ground := Ground.data }], guard := none },
    { dst := some 113, op := Op.move (Operand.tmp 0), type := 9, pos := "more.go:99", after := #[], guard := none },
    { dst := some 114, op := Op.call { callee := Callee.builtin Builtin.len, args := #[Operand.tmp 113], argTypes := #[9] }, type := 3, pos := "more.go:99", after := #[{ on := 2, ground := Ground.data }], guard := none },
    { dst := some 115, op := Op.binOp BinOp.geq 3 (Operand.tmp 112) (Operand.tmp 114) 3, type := 4, pos := "more.go:99", after := #[{ on := 1, ground := Ground.data }, { on := 3, ground := Ground.data }], guard := none },
    { dst := some 116, op := Op.move (Operand.tmp 115), type := 4, pos := "more.go:99", after := #[{ on := 4, ground := Ground.data }], guard := none },
    { dst := some 117, op := Op.move (Operand.tmp 15), type := 9, pos := "more.go:99", after := #[{ on := 5, ground := Ground.guard }], guard := some (5, true) },
    { dst := some 118, op := Op.call { callee := Callee.builtin Builtin.len, args := #[Operand.tmp 117], argTypes := #[9] }, type := 3, pos := "more.go:99", after := #[{ on := 6, ground := Ground.data }, { on := 5, ground := Ground.guard }], guard := some (5, true) },
    { dst := some 119, op := Op.move (Operand.tmp 0), type := 9, pos := "more.go:99", after := #[{ on := 5, ground := Ground.guard }], guard := some (5, true) },
    { dst := some 120, op := Op.call { callee := Callee.builtin Builtin.len, args := #[Operand.tmp 119], argTypes := #[9] }, type := 3, pos := "more.go:99", after := #[{ on := 8, ground := Ground.data }, { on := 5, ground := Ground.guard }], guard := some (5, true) },
    { dst := some 121, op := Op.binOp BinOp.add 3 (Operand.tmp 120) (Operand.const (Value.int IntKind.i64 1)) 3, type := 3, pos := "more.go:99", after := #[{ on := 9, ground := Ground.data }, { on := 5, ground := Ground.guard }], guard := some (5, true) },
    { dst := some 122, op := Op.binOp BinOp.leq 3 (Operand.tmp 118) (Operand.tmp 121) 3, type := 4, pos := "more.go:99", after := #[{ on := 7, ground := Ground.data }, { on := 10, ground := Ground.data }, { on := 5, ground := Ground.guard }], guard := some (5, true) },
    { dst := some 123, op := Op.pick (Operand.tmp 116) (Operand.tmp 122) (Operand.const (Value.bool false)), type := 4, pos := "more.go:99", after := #[{ on := 5, ground := Ground.data }, { on := 11, ground := Ground.data }], guard := none },
    { dst := some 124, op := Op.move (Operand.tmp 123), type := 4, pos := "more.go:99", after := #[{ on := 12, ground := Ground.data }, { on := 5, ground := Ground.chain }], guard := none },
    { dst := some 125, op := Op.move (Operand.tmp 17), type := 9, pos := "more.go:99", after := #[{ on := 13, ground := Ground.guard }], guard := some (13, true) },
    { dst := some 126, op := Op.call { callee := Callee.value (Operand.func 30), args := #[Operand.tmp 125, Operand.const (Value.int IntKind.u8 32)], argTypes := #[9, 5] }, type := 41, pos := "more.go:99", after := #[{ on := 14, ground := Ground.data }, { on := 13, ground := Ground.chain }, { on := 13, ground := Ground.guard }], guard := some (13, true) },
    { dst := some 127, op := Op.indexAddr 41 (Operand.tmp 126) (Operand.const (Value.int IntKind.i64 0)), type := 0, pos := "more.go:99", after := #[{ on := 15, ground := Ground.data }, { on := 13, ground := Ground.guard }], guard := some (13, true) },
    { dst := some 128, op := Op.load 9 (Operand.tmp 127), type := 9, pos := "more.go:99", after := #[{ on := 16, ground := Ground.data }, { on := 13, ground := Ground.guard }], guard := some (13, true) },
    { dst := some 129, op := Op.move (Operand.tmp 19), type := 41, pos := "more.go:99", after := #[{ on := 13, ground := Ground.guard }], guard := some (13, true) },
    { dst := some 130, op := Op.call { callee := Callee.builtin Builtin.len, args := #[Operand.tmp 129], argTypes := #[41] }, type := 3, pos := "more.go:99", after := #[{ on := 18, ground := Ground.data }, { on := 13, ground := Ground.guard }], guard := some (13, true) },
    { dst := some 131, op := Op.call { callee := Callee.value (Operand.func 31), args := #[Operand.tmp 130], argTypes := #[3] }, type := 9, pos := "more.go:99", after := #[{ on := 19, ground := Ground.data }, { on := 15, ground := Ground.chain }, { on := 13, ground := Ground.guard }], guard := some (13, true) },
    { dst := some 132, op := Op.binOp BinOp.eql 9 (Operand.tmp 128) (Operand.tmp 131) 9, type := 4, pos := "more.go:99", after := #[{ on := 17, ground := Ground.data }, { on := 20, ground := Ground.data }, { on := 13, ground := Ground.guard }], guard := some (13, true) },
    { dst := some 133, op := Op.pick (Operand.tmp 124) (Operand.tmp 132) (Operand.const (Value.bool false)), type := 4, pos := "more.go:99", after := #[{ on := 13, ground := Ground.data }, { on := 21, ground := Ground.data }], guard := none },
    { dst := some 134, op := Op.move (Operand.tmp 133), type := 4, pos := "more.go:99", after := #[{ on := 22, ground := Ground.data }, { on := 20, ground := Ground.chain }], guard := none },
    { dst := some 135, op := Op.move (Operand.tmp 9), type := 9, pos := "more.go:99", after := #[{ on := 23, ground := Ground.guard }], guard := some (23, true) },
    { dst := some 136, op := Op.call { callee := Callee.builtin Builtin.len, args := #[Operand.tmp 135], argTypes := #[9] }, type := 3, pos := "more.go:99", after := #[{ on := 24, ground := Ground.data }, { on := 23, ground := Ground.guard }], guard := some (23, true) },
    { dst := some 137, op := Op.move (Operand.tmp 15), type := 9, pos := "more.go:99", after := #[{ on := 23, ground := Ground.guard }], guard := some (23, true) },
    { dst := some 138, op := Op.call { callee := Callee.builtin Builtin.len, args := #[Operand.tmp 137], argTypes := #[9] }, type := 3, pos := "more.go:99", after := #[{ on := 26, ground := Ground.data }, { on := 23, ground := Ground.guard }], guard := some (23, true) },
    { dst := some 139, op := Op.binOp BinOp.leq 3 (Operand.tmp 136) (Operand.tmp 138) 3, type := 4, pos := "more.go:99", after := #[{ on := 25, ground := Ground.data }, { on := 27, ground := Ground.data }, { on := 23, ground := Ground.guard }], guard := some (23, true) },
    { dst := some 140, op := Op.pick (Operand.tmp 134) (Operand.tmp 139) (Operand.const (Value.bool false)), type := 4, pos := "more.go:99", after := #[{ on := 23, ground := Ground.data }, { on := 28, ground := Ground.data }], guard := none },
    { dst := some 141, op := Op.move (Operand.tmp 140), type := 4, pos := "more.go:99", after := #[{ on := 29, ground := Ground.data }, { on := 23, ground := Ground.chain }], guard := none },
    { dst := some 142, op := Op.move (Operand.tmp 15), type := 9, pos := "more.go:99", after := #[{ on := 30, ground := Ground.guard }], guard := some (30, true) },
    { dst := some 143, op := Op.move (Operand.tmp 9), type := 9, pos := "more.go:99", after := #[{ on := 30, ground := Ground.guard }], guard := some (30, true) },
    { dst := some 144, op := Op.call { callee := Callee.builtin Builtin.len, args := #[Operand.tmp 143], argTypes := #[9] }, type := 3, pos := "more.go:99", after := #[{ on := 32, ground := Ground.data }, { on := 30, ground := Ground.guard }], guard := some (30, true) },
    { dst := some 145, op := Op.slice 9 (Operand.tmp 142) none (some (Operand.tmp 144)) none, type := 9, pos := "more.go:99", after := #[{ on := 31, ground := Ground.data }, { on := 33, ground := Ground.data }, { on := 30, ground := Ground.guard }], guard := some (30, true) },
    { dst := some 146, op := Op.move (Operand.tmp 9), type := 9, pos := "more.go:99", after := #[{ on := 30, ground := Ground.guard }], guard := some (30, true) },
    { dst := some 147, op := Op.binOp BinOp.eql 9 (Operand.tmp 145) (Operand.tmp 146) 9, type := 4, pos := "more.go:99", after := #[{ on := 34, ground := Ground.data }, { on := 35, ground := Ground.data }, { on := 30, ground := Ground.guard }], guard := some (30, true) },
    { dst := some 148, op := Op.pick (Operand.tmp 141) (Operand.tmp 147) (Operand.const (Value.bool false)), type := 4, pos := "more.go:99", after := #[{ on := 30, ground := Ground.data }, { on := 36, ground := Ground.data }], guard := none },
    { dst := some 6, op := Op.assign (Operand.tmp 148), type := 4, pos := "more.go:99", after := #[{ on := 37, ground := Ground.data }, { on := 30, ground := Ground.chain }, { on := 0, ground := Ground.phase }, { on := 1, ground := Ground.phase }, { on := 2, ground := Ground.phase }, { on := 3, ground := Ground.phase }, { on := 4, ground := Ground.phase }, { on := 5, ground := Ground.phase }, { on := 6, ground := Ground.phase }, { on := 7, ground := Ground.phase }, { on := 8, ground := Ground.phase }, { on := 9, ground := Ground.phase }, { on := 10, ground := Ground.phase }, { on := 11, ground := Ground.phase }, { on := 12, ground := Ground.phase }, { on := 13, ground := Ground.phase }, { on := 14, ground := Ground.phase }, { on := 15, ground := Ground.phase }, { on := 16, ground := Ground.phase }, { on := 17, ground := Ground.phase }, { on := 18, ground := Ground.phase }, { on := 19, ground := Ground.phase }, { on := 20, ground := Ground.phase }, { on := 21, ground := Ground.phase }, { on := 22, ground := Ground.phase }, { on := 23, ground := Ground.phase }, { on := 24, ground := Ground.phase }, { on := 25, ground := Ground.phase }, { on := 26, ground := Ground.phase }, { on := 27, ground := Ground.phase }, { on := 28, ground := Ground.phase }, { on := 29, ground := Ground.phase }, { on := 30, ground := Ground.phase }, { on := 31, ground := Ground.phase }, { on := 32, ground := Ground.phase }, { on := 33, ground := Ground.phase }, { on := 34, ground := Ground.phase }, { on := 35, ground := Ground.phase }, { on := 36, ground := Ground.phase }, { on := 37, ground := Ground.phase }], guard := none }] true).wp Tryz.prog Q a W := by
  obtain ⟨dfs, hd⟩ : ∃ dfs, a.defers = dfs := ⟨_, rfl⟩
  rw [hd] at hK
  have y1 : decide ((s.length : Int) ≤ (l.length : Int)) = true := decide_eq_true (by omega)
  have y2 : decide ((l.length : Int) ≤ (s.length : Int) + 1) = true := decide_eq_true (by omega)
  have y3 : decide ((x.length : Int) ≤ (l.length : Int)) = true := decide_eq_true (by omega)
  have y4 : IntKind.i64.wrap ((s.length : Int) + 1) = (s.length : Int) + 1 := by rw [IntKind.wrap_i64]; omega
  have y5 : (x.length : Int) ≤ (l.length : Int) := by omega
  have y6 : (0 : Int) ≤ (x.length : Int) := by omega
  have y7 : x.length ≤ l.length := hxl
  have HP := hid1 hp
  clear hp
  have y8 : (ba l).extract 0 x.length = ba x := by
    have := (Txt.mk (bs := ba l) (s := l) rfl).extract 0 x.length
    rw [List.drop_zero, HP.out] at this
    exact this
  refine wp_region_held_drew (S := fun _ => True) (by kernel_rfl) trivial (fun hHeld => ?_)
  refine take1 0 111 (.string (ba l)) 149 (oi := { dst := some 111, op := Op.move (Operand.tmp 15), type := 9, pos := "more.go:99", after := #[], guard := none }) hn (by decide) rfl rfl (by kernel_rfl) (by kernel_rfl) (by kernel_rfl) hQ rfl (fun w _ => ex_move (.inl rfl) f15 w) (by assumption) ?_
  intro a hn hdf f111 ho
  replace f0 := (ho 0 (by decide)).trans f0
  replace f9 := (ho 9 (by decide)).trans f9
  replace f15 := (ho 15 (by decide)).trans f15
  replace f17 := (ho 17 (by decide)).trans f17
  replace f19 := (ho 19 (by decide)).trans f19
  replace hd := hdf.trans hd
  clear ho hdf
  refine take1 1 112 (.int .i64 (l.length : Int)) 149 (oi := { dst := some 112, op := Op.call { callee := Callee.builtin Builtin.len, args := #[Operand.tmp 111], argTypes := #[9] }, type := 3, pos := "more.go:99", after := #[{ on := 0, ground := Ground.data }], guard := none }) hn (by decide) rfl rfl (by kernel_rfl) (by kernel_rfl) (by kernel_rfl) hQ rfl (fun w hS => by
    simp only [execOp, resolve, List.map_toArray, List.map_cons, List.map_nil]
    rw [f111]
    go_simp
    all_goals with_reducible rfl) (by assumption) ?_
  intro a hn hdf f112 ho
  replace f0 := (ho 0 (by decide)).trans f0
  replace f9 := (ho 9 (by decide)).trans f9
  replace f15 := (ho 15 (by decide)).trans f15
  replace f17 := (ho 17 (by decide)).trans f17
  replace f19 := (ho 19 (by decide)).trans f19
  replace f111 := (ho 111 (by decide)).trans f111
  replace hd := hdf.trans hd
  clear ho hdf
  refine take1 2 113 (.string (ba s)) 149 (oi := { dst := some 113, op := Op.move (Operand.tmp 0), type := 9, pos := "more.go:99", after := #[], guard := none }) hn (by decide) rfl rfl (by kernel_rfl) (by kernel_rfl) (by kernel_rfl) hQ rfl (fun w _ => ex_move (.inl rfl) f0 w) (by assumption) ?_
  intro a hn hdf f113 ho
  replace f0 := (ho 0 (by decide)).trans f0
  replace f9 := (ho 9 (by decide)).trans f9
  replace f15 := (ho 15 (by decide)).trans f15
  replace f17 := (ho 17 (by decide)).trans f17
  replace f19 := (ho 19 (by decide)).trans f19
  replace f111 := (ho 111 (by decide)).trans f111
  replace f112 := (ho 112 (by decide)).trans f112
  replace hd := hdf.trans hd
  clear ho hdf
  refine take1 3 114 (.int .i64 (s.length : Int)) 149 (oi := { dst := some 114, op := Op.call { callee := Callee.builtin Builtin.len, args := #[Operand.tmp 113], argTypes := #[9] }, type := 3, pos := "more.go:99", after := #[{ on := 2, ground := Ground.data }], guard := none }) hn (by decide) rfl rfl (by kernel_rfl) (by kernel_rfl) (by kernel_rfl) hQ rfl (fun w hS => by
    simp only [execOp, resolve, List.map_toArray, List.map_cons, List.map_nil]
    rw [f113]
    go_simp
    all_goals with_reducible rfl) (by assumption) ?_
  intro a hn hdf f114 ho
  replace f0 := (ho 0 (by decide)).trans f0
  replace f9 := (ho 9 (by decide)).trans f9
  replace f15 := (ho 15 (by decide)).trans f15
  replace f17 := (ho 17 (by decide)).trans f17
  replace f19 := (ho 19 (by decide)).trans f19
  replace f111 := (ho 111 (by decide)).trans f111
  replace f112 := (ho 112 (by decide)).trans f112
  replace f113 := (ho 113 (by decide)).trans f113
  replace hd := hdf.trans hd
  clear ho hdf
  refine take1 4 115 (.bool true) 149 (oi := { dst := some 115, op := Op.binOp BinOp.geq 3 (Operand.tmp 112) (Operand.tmp 114) 3, type := 4, pos := "more.go:99", after := #[{ on := 1, ground := Ground.data }, { on := 3, ground := Ground.data }], guard := none }) hn (by decide) rfl rfl (by kernel_rfl) (by kernel_rfl) (by kernel_rfl) hQ rfl (fun w hS => by
    simp only [execOp]
    rw [f112, f114]
    go_simp
    all_goals with_reducible rfl) (by assumption) ?_
  intro a hn hdf f115 ho
  replace f0 := (ho 0 (by decide)).trans f0
  replace f9 := (ho 9 (by decide)).trans f9
  replace f15 := (ho 15 (by decide)).trans f15
  replace f17 := (ho 17 (by decide)).trans f17
  replace f19 := (ho 19 (by decide)).trans f19
  replace f111 := (ho 111 (by decide)).trans f111
  replace f112 := (ho 112 (by decide)).trans f112
  replace f113 := (ho 113 (by decide)).trans f113
  replace f114 := (ho 114 (by decide)).trans f114
  replace hd := hdf.trans hd
  clear ho hdf
  refine take1 5 116 (.bool true) 149 (oi := { dst := some 116, op := Op.move (Operand.tmp 115), type := 4, pos := "more.go:99", after := #[{ on := 4, ground := Ground.data }], guard := none }) hn (by decide) rfl rfl (by kernel_rfl) (by kernel_rfl) (by kernel_rfl) hQ rfl (fun w _ => ex_move (.inl rfl) f115 w) (by assumption) ?_
  intro a hn hdf f116 ho
  replace f0 := (ho 0 (by decide)).trans f0
  replace f9 := (ho 9 (by decide)).trans f9
  replace f15 := (ho 15 (by decide)).trans f15
  replace f17 := (ho 17 (by decide)).trans f17
  replace f19 := (ho 19 (by decide)).trans f19
  replace f111 := (ho 111 (by decide)).trans f111
  replace f112 := (ho 112 (by decide)).trans f112
  replace f113 := (ho 113 (by decide)).trans f113
  replace f114 := (ho 114 (by decide)).trans f114
  replace f115 := (ho 115 (by decide)).trans f115
  replace hd := hdf.trans hd
  clear ho hdf
  refine take1 6 117 (.string (ba l)) 149 (oi := { dst := some 117, op := Op.move (Operand.tmp 15), type := 9, pos := "more.go:99", after := #[{ on := 5, ground := Ground.guard }], guard := some (5, true) }) hn (by decide) rfl rfl (by kernel_rfl) (by kernel_rfl) (by kernel_rfl) hQ (wants rfl rfl 149 hn (by decide) f116) (fun w _ => ex_move (.inl rfl) f15 w) (by assumption) ?_
  intro a hn hdf f117 ho
  replace f0 := (ho 0 (by decide)).trans f0
  replace f9 := (ho 9 (by decide)).trans f9
  replace f15 := (ho 15 (by decide)).trans f15
  replace f17 := (ho 17 (by decide)).trans f17
  replace f19 := (ho 19 (by decide)).trans f19
  replace f111 := (ho 111 (by decide)).trans f111
  replace f112 := (ho 112 (by decide)).trans f112
  replace f113 := (ho 113 (by decide)).trans f113
  replace f114 := (ho 114 (by decide)).trans f114
  replace f115 := (ho 115 (by decide)).trans f115
  replace f116 := (ho 116 (by decide)).trans f116
  replace hd := hdf.trans hd
  clear ho hdf
  refine take1 7 118 (.int .i64 (l.length : Int)) 149 (oi := { dst := some 118, op := Op.call { callee := Callee.builtin Builtin.len, args := #[Operand.tmp 117], argTypes := #[9] }, type := 3, pos := "more.go:99", after := #[{ on := 6, ground := Ground.data }, { on := 5, ground := Ground.guard }], guard := some (5, true) }) hn (by decide) rfl rfl (by kernel_rfl) (by kernel_rfl) (by kernel_rfl) hQ (wants rfl rfl 149 hn (by decide) f116) (fun w hS => by
    simp only [execOp, resolve, List.map_toArray, List.map_cons, List.map_nil]
    rw [f117]
    go_simp
    all_goals with_reducible rfl) (by assumption) ?_
  intro a hn hdf f118 ho
  replace f0 := (ho 0 (by decide)).trans f0
  replace f9 := (ho 9 (by decide)).trans f9
  replace f15 := (ho 15 (by decide)).trans f15
  replace f17 := (ho 17 (by decide)).trans f17
  replace f19 := (ho 19 (by decide)).trans f19
  replace f111 := (ho 111 (by decide)).trans f111
  replace f112 := (ho 112 (by decide)).trans f112
  replace f113 := (ho 113 (by decide)).trans f113
  replace f114 := (ho 114 (by decide)).trans f114
  replace f115 := (ho 115 (by decide)).trans f115
  replace f116 := (ho 116 (by decide)).trans f116
  replace f117 := (ho 117 (by decide)).trans f117
  replace hd := hdf.trans hd
  clear ho hdf
  refine take1 8 119 (.string (ba s)) 149 (oi := { dst := some 119, op := Op.move (Operand.tmp 0), type := 9, pos := "more.go:99", after := #[{ on := 5, ground := Ground.guard }], guard := some (5, true) }) hn (by decide) rfl rfl (by kernel_rfl) (by kernel_rfl) (by kernel_rfl) hQ (wants rfl rfl 149 hn (by decide) f116) (fun w _ => ex_move (.inl rfl) f0 w) (by assumption) ?_
  intro a hn hdf f119 ho
  replace f0 := (ho 0 (by decide)).trans f0
  replace f9 := (ho 9 (by decide)).trans f9
  replace f15 := (ho 15 (by decide)).trans f15
  replace f17 := (ho 17 (by decide)).trans f17
  replace f19 := (ho 19 (by decide)).trans f19
  replace f111 := (ho 111 (by decide)).trans f111
  replace f112 := (ho 112 (by decide)).trans f112
  replace f113 := (ho 113 (by decide)).trans f113
  replace f114 := (ho 114 (by decide)).trans f114
  replace f115 := (ho 115 (by decide)).trans f115
  replace f116 := (ho 116 (by decide)).trans f116
  replace f117 := (ho 117 (by decide)).trans f117
  replace f118 := (ho 118 (by decide)).trans f118
  replace hd := hdf.trans hd
  clear ho hdf
  refine take1 9 120 (.int .i64 (s.length : Int)) 149 (oi := { dst := some 120, op := Op.call { callee := Callee.builtin Builtin.len, args := #[Operand.tmp 119], argTypes := #[9] }, type := 3, pos := "more.go:99", after := #[{ on := 8, ground := Ground.data }, { on := 5, ground := Ground.guard }], guard := some (5, true) }) hn (by decide) rfl rfl (by kernel_rfl) (by kernel_rfl) (by kernel_rfl) hQ (wants rfl rfl 149 hn (by decide) f116) (fun w hS => by
    simp only [execOp, resolve, List.map_toArray, List.map_cons, List.map_nil]
    rw [f119]
    go_simp
    all_goals with_reducible rfl) (by assumption) ?_
  intro a hn hdf f120 ho
  replace f0 := (ho 0 (by decide)).trans f0
  replace f9 := (ho 9 (by decide)).trans f9
  replace f15 := (ho 15 (by decide)).trans f15
  replace f17 := (ho 17 (by decide)).trans f17
  replace f19 := (ho 19 (by decide)).trans f19
  replace f111 := (ho 111 (by decide)).trans f111
  replace f112 := (ho 112 (by decide)).trans f112
  replace f113 := (ho 113 (by decide)).trans f113
  replace f114 := (ho 114 (by decide)).trans f114
  replace f115 := (ho 115 (by decide)).trans f115
  replace f116 := (ho 116 (by decide)).trans f116
  replace f117 := (ho 117 (by decide)).trans f117
  replace f118 := (ho 118 (by decide)).trans f118
  replace f119 := (ho 119 (by decide)).trans f119
  replace hd := hdf.trans hd
  clear ho hdf
  refine take1 10 121 (.int .i64 ((s.length : Int) + 1 : Int)) 149 (oi := { dst := some 121, op := Op.binOp BinOp.add 3 (Operand.tmp 120) (Operand.const (Value.int IntKind.i64 1)) 3, type := 3, pos := "more.go:99", after := #[{ on := 9, ground := Ground.data }, { on := 5, ground := Ground.guard }], guard := some (5, true) }) hn (by decide) rfl rfl (by kernel_rfl) (by kernel_rfl) (by kernel_rfl) hQ (wants rfl rfl 149 hn (by decide) f116) (fun w hS => by
    simp only [execOp]
    rw [f120]
    go_simp
    all_goals with_reducible rfl) (by assumption) ?_
  intro a hn hdf f121 ho
  replace f0 := (ho 0 (by decide)).trans f0
  replace f9 := (ho 9 (by decide)).trans f9
  replace f15 := (ho 15 (by decide)).trans f15
  replace f17 := (ho 17 (by decide)).trans f17
  replace f19 := (ho 19 (by decide)).trans f19
  replace f111 := (ho 111 (by decide)).trans f111
  replace f112 := (ho 112 (by decide)).trans f112
  replace f113 := (ho 113 (by decide)).trans f113
  replace f114 := (ho 114 (by decide)).trans f114
  replace f115 := (ho 115 (by decide)).trans f115
  replace f116 := (ho 116 (by decide)).trans f116
  replace f117 := (ho 117 (by decide)).trans f117
  replace f118 := (ho 118 (by decide)).trans f118
  replace f119 := (ho 119 (by decide)).trans f119
  replace f120 := (ho 120 (by decide)).trans f120
  replace hd := hdf.trans hd
  clear ho hdf
  refine take1 11 122 (.bool true) 149 (oi := { dst := some 122, op := Op.binOp BinOp.leq 3 (Operand.tmp 118) (Operand.tmp 121) 3, type := 4, pos := "more.go:99", after := #[{ on := 7, ground := Ground.data }, { on := 10, ground := Ground.data }, { on := 5, ground := Ground.guard }], guard := some (5, true) }) hn (by decide) rfl rfl (by kernel_rfl) (by kernel_rfl) (by kernel_rfl) hQ (wants rfl rfl 149 hn (by decide) f116) (fun w hS => by
    simp only [execOp]
    rw [f118, f121]
    go_simp
    all_goals with_reducible rfl) (by assumption) ?_
  intro a hn hdf f122 ho
  replace f0 := (ho 0 (by decide)).trans f0
  replace f9 := (ho 9 (by decide)).trans f9
  replace f15 := (ho 15 (by decide)).trans f15
  replace f17 := (ho 17 (by decide)).trans f17
  replace f19 := (ho 19 (by decide)).trans f19
  replace f111 := (ho 111 (by decide)).trans f111
  replace f112 := (ho 112 (by decide)).trans f112
  replace f113 := (ho 113 (by decide)).trans f113
  replace f114 := (ho 114 (by decide)).trans f114
  replace f115 := (ho 115 (by decide)).trans f115
  replace f116 := (ho 116 (by decide)).trans f116
  replace f117 := (ho 117 (by decide)).trans f117
  replace f118 := (ho 118 (by decide)).trans f118
  replace f119 := (ho 119 (by decide)).trans f119
  replace f120 := (ho 120 (by decide)).trans f120
  replace f121 := (ho 121 (by decide)).trans f121
  replace hd := hdf.trans hd
  clear ho hdf
  refine take1 12 123 (.bool true) 149 (oi := { dst := some 123, op := Op.pick (Operand.tmp 116) (Operand.tmp 122) (Operand.const (Value.bool false)), type := 4, pos := "more.go:99", after := #[{ on := 5, ground := Ground.data }, { on := 11, ground := Ground.data }], guard := none }) hn (by decide) rfl rfl (by kernel_rfl) (by kernel_rfl) (by kernel_rfl) hQ rfl (fun w _ => ex_pickT rfl f116 f122 w) (by assumption) ?_
  intro a hn hdf f123 ho
  replace f0 := (ho 0 (by decide)).trans f0
  replace f9 := (ho 9 (by decide)).trans f9
  replace f15 := (ho 15 (by decide)).trans f15
  replace f17 := (ho 17 (by decide)).trans f17
  replace f19 := (ho 19 (by decide)).trans f19
  replace f111 := (ho 111 (by decide)).trans f111
  replace f112 := (ho 112 (by decide)).trans f112
  replace f113 := (ho 113 (by decide)).trans f113
  replace f114 := (ho 114 (by decide)).trans f114
  replace f115 := (ho 115 (by decide)).trans f115
  replace f116 := (ho 116 (by decide)).trans f116
  replace f117 := (ho 117 (by decide)).trans f117
  replace f118 := (ho 118 (by decide)).trans f118
  replace f119 := (ho 119 (by decide)).trans f119
  replace f120 := (ho 120 (by decide)).trans f120
  replace f121 := (ho 121 (by decide)).trans f121
  replace f122 := (ho 122 (by decide)).trans f122
  replace hd := hdf.trans hd
  clear ho hdf
  refine take1 13 124 (.bool true) 149 (oi := { dst := some 124, op := Op.move (Operand.tmp 123), type := 4, pos := "more.go:99", after := #[{ on := 12, ground := Ground.data }, { on := 5, ground := Ground.chain }], guard := none }) hn (by decide) rfl rfl (by kernel_rfl) (by kernel_rfl) (by kernel_rfl) hQ rfl (fun w _ => ex_move (.inl rfl) f123 w) (by assumption) ?_
  intro a hn hdf f124 ho
  replace f0 := (ho 0 (by decide)).trans f0
  replace f9 := (ho 9 (by decide)).trans f9
  replace f15 := (ho 15 (by decide)).trans f15
  replace f17 := (ho 17 (by decide)).trans f17
  replace f19 := (ho 19 (by decide)).trans f19
  replace f111 := (ho 111 (by decide)).trans f111
  replace f112 := (ho 112 (by decide)).trans f112
  replace f113 := (ho 113 (by decide)).trans f113
  replace f114 := (ho 114 (by decide)).trans f114
  replace f115 := (ho 115 (by decide)).trans f115
  replace f116 := (ho 116 (by decide)).trans f116
  replace f117 := (ho 117 (by decide)).trans f117
  replace f118 := (ho 118 (by decide)).trans f118
  replace f119 := (ho 119 (by decide)).trans f119
  replace f120 := (ho 120 (by decide)).trans f120
  replace f121 := (ho 121 (by decide)).trans f121
  replace f122 := (ho 122 (by decide)).trans f122
  replace f123 := (ho 123 (by decide)).trans f123
  replace hd := hdf.trans hd
  clear ho hdf
  refine take1 14 125 (.string (ba n)) 149 (oi := { dst := some 125, op := Op.move (Operand.tmp 17), type := 9, pos := "more.go:99", after := #[{ on := 13, ground := Ground.guard }], guard := some (13, true) }) hn (by decide) rfl rfl (by kernel_rfl) (by kernel_rfl) (by kernel_rfl) hQ (wants rfl rfl 149 hn (by decide) f124) (fun w _ => ex_move (.inl rfl) f17 w) (by assumption) ?_
  intro a hn hdf f125 ho
  replace f0 := (ho 0 (by decide)).trans f0
  replace f9 := (ho 9 (by decide)).trans f9
  replace f15 := (ho 15 (by decide)).trans f15
  replace f17 := (ho 17 (by decide)).trans f17
  replace f19 := (ho 19 (by decide)).trans f19
  replace f111 := (ho 111 (by decide)).trans f111
  replace f112 := (ho 112 (by decide)).trans f112
  replace f113 := (ho 113 (by decide)).trans f113
  replace f114 := (ho 114 (by decide)).trans f114
  replace f115 := (ho 115 (by decide)).trans f115
  replace f116 := (ho 116 (by decide)).trans f116
  replace f117 := (ho 117 (by decide)).trans f117
  replace f118 := (ho 118 (by decide)).trans f118
  replace f119 := (ho 119 (by decide)).trans f119
  replace f120 := (ho 120 (by decide)).trans f120
  replace f121 := (ho 121 (by decide)).trans f121
  replace f122 := (ho 122 (by decide)).trans f122
  replace f123 := (ho 123 (by decide)).trans f123
  replace f124 := (ho 124 (by decide)).trans f124
  replace hd := hdf.trans hd
  clear ho hdf
  refine take1 18 129 (.slice p10 N c10) 149 (oi := { dst := some 129, op := Op.move (Operand.tmp 19), type := 41, pos := "more.go:99", after := #[{ on := 13, ground := Ground.guard }], guard := some (13, true) }) hn (by decide) rfl rfl (by kernel_rfl) (by kernel_rfl) (by kernel_rfl) hQ (wants rfl rfl 149 hn (by decide) f124) (fun w _ => ex_move (.inl rfl) f19 w) (by assumption) ?_
  intro a hn hdf f129 ho
  replace f0 := (ho 0 (by decide)).trans f0
  replace f9 := (ho 9 (by decide)).trans f9
  replace f15 := (ho 15 (by decide)).trans f15
  replace f17 := (ho 17 (by decide)).trans f17
  replace f19 := (ho 19 (by decide)).trans f19
  replace f111 := (ho 111 (by decide)).trans f111
  replace f112 := (ho 112 (by decide)).trans f112
  replace f113 := (ho 113 (by decide)).trans f113
  replace f114 := (ho 114 (by decide)).trans f114
  replace f115 := (ho 115 (by decide)).trans f115
  replace f116 := (ho 116 (by decide)).trans f116
  replace f117 := (ho 117 (by decide)).trans f117
  replace f118 := (ho 118 (by decide)).trans f118
  replace f119 := (ho 119 (by decide)).trans f119
  replace f120 := (ho 120 (by decide)).trans f120
  replace f121 := (ho 121 (by decide)).trans f121
  replace f122 := (ho 122 (by decide)).trans f122
  replace f123 := (ho 123 (by decide)).trans f123
  replace f124 := (ho 124 (by decide)).trans f124
  replace f125 := (ho 125 (by decide)).trans f125
  replace hd := hdf.trans hd
  clear ho hdf
  refine take1 19 130 (.int .i64 (N : Int)) 149 (oi := { dst := some 130, op := Op.call { callee := Callee.builtin Builtin.len, args := #[Operand.tmp 129], argTypes := #[41] }, type := 3, pos := "more.go:99", after := #[{ on := 18, ground := Ground.data }, { on := 13, ground := Ground.guard }], guard := some (13, true) }) hn (by decide) rfl rfl (by kernel_rfl) (by kernel_rfl) (by kernel_rfl) hQ (wants rfl rfl 149 hn (by decide) f124) (fun w hS => by
    simp only [execOp, resolve, List.map_toArray, List.map_cons, List.map_nil]
    rw [f129]
    go_simp
    all_goals with_reducible rfl) (by assumption) ?_
  intro a hn hdf f130 ho
  replace f0 := (ho 0 (by decide)).trans f0
  replace f9 := (ho 9 (by decide)).trans f9
  replace f15 := (ho 15 (by decide)).trans f15
  replace f17 := (ho 17 (by decide)).trans f17
  replace f19 := (ho 19 (by decide)).trans f19
  replace f111 := (ho 111 (by decide)).trans f111
  replace f112 := (ho 112 (by decide)).trans f112
  replace f113 := (ho 113 (by decide)).trans f113
  replace f114 := (ho 114 (by decide)).trans f114
  replace f115 := (ho 115 (by decide)).trans f115
  replace f116 := (ho 116 (by decide)).trans f116
  replace f117 := (ho 117 (by decide)).trans f117
  replace f118 := (ho 118 (by decide)).trans f118
  replace f119 := (ho 119 (by decide)).trans f119
  replace f120 := (ho 120 (by decide)).trans f120
  replace f121 := (ho 121 (by decide)).trans f121
  replace f122 := (ho 122 (by decide)).trans f122
  replace f123 := (ho 123 (by decide)).trans f123
  replace f124 := (ho 124 (by decide)).trans f124
  replace f125 := (ho 125 (by decide)).trans f125
  replace f129 := (ho 129 (by decide)).trans f129
  replace hd := hdf.trans hd
  clear ho hdf
  refine wpAnyH_ready (rs := [15]) (by kernel_rfl) (by simp) (AllReadyH.cons (o := { dst := some 126, op := Op.call { callee := Callee.value (Operand.func 30), args := #[Operand.tmp 125, Operand.const (Value.int IntKind.u8 32)], argTypes := #[9, 5] }, type := 41, pos := "more.go:99", after := #[{ on := 14, ground := Ground.data }, { on := 13, ground := Ground.chain }, { on := 13, ground := Ground.guard }], guard := some (13, true) }) rfl (fun K hK' => ?_) AllReadyH.nil)
  rw [if_pos (wants rfl rfl 149 hn (by decide) f124)]
  unfold Oper.wp
  simp only [execOp, resolve, List.map_toArray, List.map_cons, List.map_nil, ev_func, ev_const, f125]
  go_simp
  refine Calls.mono (HN.out _) ?_
  rintro e wa ⟨_, ga, ka, ca, rfl, rfl, hga, cA, hba⟩
  show K { tmps := a.tmps.setIfInBounds 126 (.slice (some ⟨ga, 0, none⟩) (ka + 1) ca), defers := dfs } _
  rw [putEq hd]
  refine hK'.out _ _ trivial (fun _ => ?_)
  clear hK' K
  refine wpAnyH_mono (S' := fun w' => w'.cell? ⟨ga, 0, none⟩ = some (.string (ba (Lib.decDigits N)))) (fun _ _ => trivial) _ _ _ _ ?_
  have hHeld : (fun w' : World => w'.cell? ⟨ga, 0, none⟩ = some (.string (ba (Lib.decDigits N)))) wa := cA
  obtain ⟨b, hb⟩ : ∃ b, b = a.put (some 126) (.slice (some ⟨ga, 0, none⟩) (ka + 1) ca) := ⟨_, rfl⟩
  rw [← hb]
  replace f0 : b.eval (.tmp 0) = .string (ba s) := by
    rw [hb]
    exact (ev_other (by decide)).trans f0
  replace f9 : b.eval (.tmp 9) = .string (ba x) := by
    rw [hb]
    exact (ev_other (by decide)).trans f9
  replace f15 : b.eval (.tmp 15) = .string (ba l) := by
    rw [hb]
    exact (ev_other (by decide)).trans f15
  replace f17 : b.eval (.tmp 17) = .string (ba n) := by
    rw [hb]
    exact (ev_other (by decide)).trans f17
  replace f19 : b.eval (.tmp 19) = .slice p10 N c10 := by
    rw [hb]
    exact (ev_other (by decide)).trans f19
  replace f111 : b.eval (.tmp 111) = .string (ba l) := by
    rw [hb]
    exact (ev_other (by decide)).trans f111
  replace f112 : b.eval (.tmp 112) = .int .i64 (l.length : Int) := by
    rw [hb]
    exact (ev_other (by decide)).trans f112
  replace f113 : b.eval (.tmp 113) = .string (ba s) := by
    rw [hb]
    exact (ev_other (by decide)).trans f113
  replace f114 : b.eval (.tmp 114) = .int .i64 (s.length : Int) := by
    rw [hb]
    exact (ev_other (by decide)).trans f114
  replace f115 : b.eval (.tmp 115) = .bool true := by
    rw [hb]
    exact (ev_other (by decide)).trans f115
  replace f116 : b.eval (.tmp 116) = .bool true := by
    rw [hb]
    exact (ev_other (by decide)).trans f116
  replace f117 : b.eval (.tmp 117) = .string (ba l) := by
    rw [hb]
    exact (ev_other (by decide)).trans f117
  replace f118 : b.eval (.tmp 118) = .int .i64 (l.length : Int) := by
    rw [hb]
    exact (ev_other (by decide)).trans f118
  replace f119 : b.eval (.tmp 119) = .string (ba s) := by
    rw [hb]
    exact (ev_other (by decide)).trans f119
  replace f120 : b.eval (.tmp 120) = .int .i64 (s.length : Int) := by
    rw [hb]
    exact (ev_other (by decide)).trans f120
  replace f121 : b.eval (.tmp 121) = .int .i64 ((s.length : Int) + 1 : Int) := by
    rw [hb]
    exact (ev_other (by decide)).trans f121
  replace f122 : b.eval (.tmp 122) = .bool true := by
    rw [hb]
    exact (ev_other (by decide)).trans f122
  replace f123 : b.eval (.tmp 123) = .bool true := by
    rw [hb]
    exact (ev_other (by decide)).trans f123
  replace f124 : b.eval (.tmp 124) = .bool true := by
    rw [hb]
    exact (ev_other (by decide)).trans f124
  replace f125 : b.eval (.tmp 125) = .string (ba n) := by
    rw [hb]
    exact (ev_other (by decide)).trans f125
  replace f129 : b.eval (.tmp 129) = .slice p10 N c10 := by
    rw [hb]
    exact (ev_other (by decide)).trans f129
  replace f130 : b.eval (.tmp 130) = .int .i64 (N : Int) := by
    rw [hb]
    exact (ev_other (by decide)).trans f130
  have f126 : b.eval (.tmp 126) = .slice (some ⟨ga, 0, none⟩) (ka + 1) ca := by
    rw [hb]
    exact ev_same (by rw [hn]; decide)
  replace hd : b.defers = dfs := by
    rw [hb]
    exact hd
  replace hn : b.tmps.size = 149 := by
    rw [hb]
    exact sz_put.trans hn
  clear hb
  clear a
  generalize b = a at *
  refine take1 16 127 (.pointer (some ⟨ga, 0, none⟩)) 149 (oi := { dst := some 127, op := Op.indexAddr 41 (Operand.tmp 126) (Operand.const (Value.int IntKind.i64 0)), type := 0, pos := "more.go:99", after := #[{ on := 15, ground := Ground.data }, { on := 13, ground := Ground.guard }], guard := some (13, true) }) hn (by decide) rfl rfl (by kernel_rfl) (by kernel_rfl) (by kernel_rfl) hQ (wants rfl rfl 149 hn (by decide) f124) (fun w hS => by
    simp only [execOp]
    rw [f126]
    go_simp
    all_goals with_reducible rfl) (by assumption) ?_
  intro a hn hdf f127 ho
  replace f0 := (ho 0 (by decide)).trans f0
  replace f9 := (ho 9 (by decide)).trans f9
  replace f15 := (ho 15 (by decide)).trans f15
  replace f17 := (ho 17 (by decide)).trans f17
  replace f19 := (ho 19 (by decide)).trans f19
  replace f111 := (ho 111 (by decide)).trans f111
  replace f112 := (ho 112 (by decide)).trans f112
  replace f113 := (ho 113 (by decide)).trans f113
  replace f114 := (ho 114 (by decide)).trans f114
  replace f115 := (ho 115 (by decide)).trans f115
  replace f116 := (ho 116 (by decide)).trans f116
  replace f117 := (ho 117 (by decide)).trans f117
  replace f118 := (ho 118 (by decide)).trans f118
  replace f119 := (ho 119 (by decide)).trans f119
  replace f120 := (ho 120 (by decide)).trans f120
  replace f121 := (ho 121 (by decide)).trans f121
  replace f122 := (ho 122 (by decide)).trans f122
  replace f123 := (ho 123 (by decide)).trans f123
  replace f124 := (ho 124 (by decide)).trans f124
  replace f125 := (ho 125 (by decide)).trans f125
  replace f126 := (ho 126 (by decide)).trans f126
  replace f129 := (ho 129 (by decide)).trans f129
  replace f130 := (ho 130 (by decide)).trans f130
  replace hd := hdf.trans hd
  clear ho hdf
  refine take1 17 128 (.string (ba (Lib.decDigits N))) 149 (oi := { dst := some 128, op := Op.load 9 (Operand.tmp 127), type := 9, pos := "more.go:99", after := #[{ on := 16, ground := Ground.data }, { on := 13, ground := Ground.guard }], guard := some (13, true) }) hn (by decide) rfl rfl (by kernel_rfl) (by kernel_rfl) (by kernel_rfl) hQ (wants rfl rfl 149 hn (by decide) f124) (fun w hS => by
    simp only [execOp]
    rw [f127]
    have cS : w.cell? ⟨ga, 0, none⟩ = some (.string (ba (Lib.decDigits N))) := hS
    go_simp
    all_goals with_reducible rfl) (by assumption) ?_
  intro a hn hdf f128 ho
  replace f0 := (ho 0 (by decide)).trans f0
  replace f9 := (ho 9 (by decide)).trans f9
  replace f15 := (ho 15 (by decide)).trans f15
  replace f17 := (ho 17 (by decide)).trans f17
  replace f19 := (ho 19 (by decide)).trans f19
  replace f111 := (ho 111 (by decide)).trans f111
  replace f112 := (ho 112 (by decide)).trans f112
  replace f113 := (ho 113 (by decide)).trans f113
  replace f114 := (ho 114 (by decide)).trans f114
  replace f115 := (ho 115 (by decide)).trans f115
  replace f116 := (ho 116 (by decide)).trans f116
  replace f117 := (ho 117 (by decide)).trans f117
  replace f118 := (ho 118 (by decide)).trans f118
  replace f119 := (ho 119 (by decide)).trans f119
  replace f120 := (ho 120 (by decide)).trans f120
  replace f121 := (ho 121 (by decide)).trans f121
  replace f122 := (ho 122 (by decide)).trans f122
  replace f123 := (ho 123 (by decide)).trans f123
  replace f124 := (ho 124 (by decide)).trans f124
  replace f125 := (ho 125 (by decide)).trans f125
  replace f126 := (ho 126 (by decide)).trans f126
  replace f127 := (ho 127 (by decide)).trans f127
  replace f129 := (ho 129 (by decide)).trans f129
  replace f130 := (ho 130 (by decide)).trans f130
  replace hd := hdf.trans hd
  clear ho hdf
  refine wpAnyH_ready (rs := [20]) (by kernel_rfl) (by simp) (AllReadyH.cons (o := { dst := some 131, op := Op.call { callee := Callee.value (Operand.func 31), args := #[Operand.tmp 130], argTypes := #[3] }, type := 9, pos := "more.go:99", after := #[{ on := 19, ground := Ground.data }, { on := 15, ground := Ground.chain }, { on := 13, ground := Ground.guard }], guard := some (13, true) }) rfl (fun K hK' => ?_) AllReadyH.nil)
  rw [if_pos (wants rfl rfl 149 hn (by decide) f124)]
  unfold Oper.wp
  simp only [execOp, resolve, List.map_toArray, List.map_cons, List.map_nil, ev_func, f130]
  go_simp
  refine Calls.mono (HDec.out N _ hN) ?_
  rintro e wb ⟨rfl, hbb⟩
  show K { tmps := a.tmps.setIfInBounds 131 (.string (ba (Lib.decDigits N))), defers := dfs } _
  rw [putEq hd]
  refine hK'.out _ _ ((cell_below2 hbb hga).trans cA) (fun _ => ?_)
  clear hK' K
  have hHeld : (fun w' : World => w'.cell? ⟨ga, 0, none⟩ = some (.string (ba (Lib.decDigits N)))) wb := (cell_below2 hbb hga).trans cA
  obtain ⟨b, hb⟩ : ∃ b, b = a.put (some 131) (.string (ba (Lib.decDigits N))) := ⟨_, rfl⟩
  rw [← hb]
  replace f0 : b.eval (.tmp 0) = .string (ba s) := by
    rw [hb]
    exact (ev_other (by decide)).trans f0
  replace f9 : b.eval (.tmp 9) = .string (ba x) := by
    rw [hb]
    exact (ev_other (by decide)).trans f9
  replace f15 : b.eval (.tmp 15) = .string (ba l) := by
    rw [hb]
    exact (ev_other (by decide)).trans f15
  replace f17 : b.eval (.tmp 17) = .string (ba n) := by
    rw [hb]
    exact (ev_other (by decide)).trans f17
  replace f19 : b.eval (.tmp 19) = .slice p10 N c10 := by
    rw [hb]
    exact (ev_other (by decide)).trans f19
  replace f111 : b.eval (.tmp 111) = .string (ba l) := by
    rw [hb]
    exact (ev_other (by decide)).trans f111
  replace f112 : b.eval (.tmp 112) = .int .i64 (l.length : Int) := by
    rw [hb]
    exact (ev_other (by decide)).trans f112
  replace f113 : b.eval (.tmp 113) = .string (ba s) := by
    rw [hb]
    exact (ev_other (by decide)).trans f113
  replace f114 : b.eval (.tmp 114) = .int .i64 (s.length : Int) := by
    rw [hb]
    exact (ev_other (by decide)).trans f114
  replace f115 : b.eval (.tmp 115) = .bool true := by
    rw [hb]
    exact (ev_other (by decide)).trans f115
  replace f116 : b.eval (.tmp 116) = .bool true := by
    rw [hb]
    exact (ev_other (by decide)).trans f116
  replace f117 : b.eval (.tmp 117) = .string (ba l) := by
    rw [hb]
    exact (ev_other (by decide)).trans f117
  replace f118 : b.eval (.tmp 118) = .int .i64 (l.length : Int) := by
    rw [hb]
    exact (ev_other (by decide)).trans f118
  replace f119 : b.eval (.tmp 119) = .string (ba s) := by
    rw [hb]
    exact (ev_other (by decide)).trans f119
  replace f120 : b.eval (.tmp 120) = .int .i64 (s.length : Int) := by
    rw [hb]
    exact (ev_other (by decide)).trans f120
  replace f121 : b.eval (.tmp 121) = .int .i64 ((s.length : Int) + 1 : Int) := by
    rw [hb]
    exact (ev_other (by decide)).trans f121
  replace f122 : b.eval (.tmp 122) = .bool true := by
    rw [hb]
    exact (ev_other (by decide)).trans f122
  replace f123 : b.eval (.tmp 123) = .bool true := by
    rw [hb]
    exact (ev_other (by decide)).trans f123
  replace f124 : b.eval (.tmp 124) = .bool true := by
    rw [hb]
    exact (ev_other (by decide)).trans f124
  replace f125 : b.eval (.tmp 125) = .string (ba n) := by
    rw [hb]
    exact (ev_other (by decide)).trans f125
  replace f126 : b.eval (.tmp 126) = .slice (some ⟨ga, 0, none⟩) (ka + 1) ca := by
    rw [hb]
    exact (ev_other (by decide)).trans f126
  replace f127 : b.eval (.tmp 127) = .pointer (some ⟨ga, 0, none⟩) := by
    rw [hb]
    exact (ev_other (by decide)).trans f127
  replace f128 : b.eval (.tmp 128) = .string (ba (Lib.decDigits N)) := by
    rw [hb]
    exact (ev_other (by decide)).trans f128
  replace f129 : b.eval (.tmp 129) = .slice p10 N c10 := by
    rw [hb]
    exact (ev_other (by decide)).trans f129
  replace f130 : b.eval (.tmp 130) = .int .i64 (N : Int) := by
    rw [hb]
    exact (ev_other (by decide)).trans f130
  have f131 : b.eval (.tmp 131) = .string (ba (Lib.decDigits N)) := by
    rw [hb]
    exact ev_same (by rw [hn]; decide)
  replace hd : b.defers = dfs := by
    rw [hb]
    exact hd
  replace hn : b.tmps.size = 149 := by
    rw [hb]
    exact sz_put.trans hn
  clear hb
  clear a
  generalize b = a at *
  refine take1 21 132 (.bool true) 149 (oi := { dst := some 132, op := Op.binOp BinOp.eql 9 (Operand.tmp 128) (Operand.tmp 131) 9, type := 4, pos := "more.go:99", after := #[{ on := 17, ground := Ground.data }, { on := 20, ground := Ground.data }, { on := 13, ground := Ground.guard }], guard := some (13, true) }) hn (by decide) rfl rfl (by kernel_rfl) (by kernel_rfl) (by kernel_rfl) hQ (wants rfl rfl 149 hn (by decide) f124) (fun w hS => by
    simp only [execOp]
    rw [f128, f131]
    go_simp
    all_goals with_reducible rfl) (by assumption) ?_
  intro a hn hdf f132 ho
  replace f0 := (ho 0 (by decide)).trans f0
  replace f9 := (ho 9 (by decide)).trans f9
  replace f15 := (ho 15 (by decide)).trans f15
  replace f17 := (ho 17 (by decide)).trans f17
  replace f19 := (ho 19 (by decide)).trans f19
  replace f111 := (ho 111 (by decide)).trans f111
  replace f112 := (ho 112 (by decide)).trans f112
  replace f113 := (ho 113 (by decide)).trans f113
  replace f114 := (ho 114 (by decide)).trans f114
  replace f115 := (ho 115 (by decide)).trans f115
  replace f116 := (ho 116 (by decide)).trans f116
  replace f117 := (ho 117 (by decide)).trans f117
  replace f118 := (ho 118 (by decide)).trans f118
  replace f119 := (ho 119 (by decide)).trans f119
  replace f120 := (ho 120 (by decide)).trans f120
  replace f121 := (ho 121 (by decide)).trans f121
  replace f122 := (ho 122 (by decide)).trans f122
  replace f123 := (ho 123 (by decide)).trans f123
  replace f124 := (ho 124 (by decide)).trans f124
  replace f125 := (ho 125 (by decide)).trans f125
  replace f126 := (ho 126 (by decide)).trans f126
  replace f127 := (ho 127 (by decide)).trans f127
  replace f128 := (ho 128 (by decide)).trans f128
  replace f129 := (ho 129 (by decide)).trans f129
  replace f130 := (ho 130 (by decide)).trans f130
  replace f131 := (ho 131 (by decide)).trans f131
  replace hd := hdf.trans hd
  clear ho hdf
  refine take1 22 133 (.bool true) 149 (oi := { dst := some 133, op := Op.pick (Operand.tmp 124) (Operand.tmp 132) (Operand.const (Value.bool false)), type := 4, pos := "more.go:99", after := #[{ on := 13, ground := Ground.data }, { on := 21, ground := Ground.data }], guard := none }) hn (by decide) rfl rfl (by kernel_rfl) (by kernel_rfl) (by kernel_rfl) hQ rfl (fun w _ => ex_pickT rfl f124 f132 w) (by assumption) ?_
  intro a hn hdf f133 ho
  replace f0 := (ho 0 (by decide)).trans f0
  replace f9 := (ho 9 (by decide)).trans f9
  replace f15 := (ho 15 (by decide)).trans f15
  replace f17 := (ho 17 (by decide)).trans f17
  replace f19 := (ho 19 (by decide)).trans f19
  replace f111 := (ho 111 (by decide)).trans f111
  replace f112 := (ho 112 (by decide)).trans f112
  replace f113 := (ho 113 (by decide)).trans f113
  replace f114 := (ho 114 (by decide)).trans f114
  replace f115 := (ho 115 (by decide)).trans f115
  replace f116 := (ho 116 (by decide)).trans f116
  replace f117 := (ho 117 (by decide)).trans f117
  replace f118 := (ho 118 (by decide)).trans f118
  replace f119 := (ho 119 (by decide)).trans f119
  replace f120 := (ho 120 (by decide)).trans f120
  replace f121 := (ho 121 (by decide)).trans f121
  replace f122 := (ho 122 (by decide)).trans f122
  replace f123 := (ho 123 (by decide)).trans f123
  replace f124 := (ho 124 (by decide)).trans f124
  replace f125 := (ho 125 (by decide)).trans f125
  replace f126 := (ho 126 (by decide)).trans f126
  replace f127 := (ho 127 (by decide)).trans f127
  replace f128 := (ho 128 (by decide)).trans f128
  replace f129 := (ho 129 (by decide)).trans f129
  replace f130 := (ho 130 (by decide)).trans f130
  replace f131 := (ho 131 (by decide)).trans f131
  replace f132 := (ho 132 (by decide)).trans f132
  replace hd := hdf.trans hd
  clear ho hdf
  refine take1 23 134 (.bool true) 149 (oi := { dst := some 134, op := Op.move (Operand.tmp 133), type := 4, pos := "more.go:99", after := #[{ on := 22, ground := Ground.data }, { on := 20, ground := Ground.chain }], guard := none }) hn (by decide) rfl rfl (by kernel_rfl) (by kernel_rfl) (by kernel_rfl) hQ rfl (fun w _ => ex_move (.inl rfl) f133 w) (by assumption) ?_
  intro a hn hdf f134 ho
  replace f0 := (ho 0 (by decide)).trans f0
  replace f9 := (ho 9 (by decide)).trans f9
  replace f15 := (ho 15 (by decide)).trans f15
  replace f17 := (ho 17 (by decide)).trans f17
  replace f19 := (ho 19 (by decide)).trans f19
  replace f111 := (ho 111 (by decide)).trans f111
  replace f112 := (ho 112 (by decide)).trans f112
  replace f113 := (ho 113 (by decide)).trans f113
  replace f114 := (ho 114 (by decide)).trans f114
  replace f115 := (ho 115 (by decide)).trans f115
  replace f116 := (ho 116 (by decide)).trans f116
  replace f117 := (ho 117 (by decide)).trans f117
  replace f118 := (ho 118 (by decide)).trans f118
  replace f119 := (ho 119 (by decide)).trans f119
  replace f120 := (ho 120 (by decide)).trans f120
  replace f121 := (ho 121 (by decide)).trans f121
  replace f122 := (ho 122 (by decide)).trans f122
  replace f123 := (ho 123 (by decide)).trans f123
  replace f124 := (ho 124 (by decide)).trans f124
  replace f125 := (ho 125 (by decide)).trans f125
  replace f126 := (ho 126 (by decide)).trans f126
  replace f127 := (ho 127 (by decide)).trans f127
  replace f128 := (ho 128 (by decide)).trans f128
  replace f129 := (ho 129 (by decide)).trans f129
  replace f130 := (ho 130 (by decide)).trans f130
  replace f131 := (ho 131 (by decide)).trans f131
  replace f132 := (ho 132 (by decide)).trans f132
  replace f133 := (ho 133 (by decide)).trans f133
  replace hd := hdf.trans hd
  clear ho hdf
  refine take1 24 135 (.string (ba x)) 149 (oi := { dst := some 135, op := Op.move (Operand.tmp 9), type := 9, pos := "more.go:99", after := #[{ on := 23, ground := Ground.guard }], guard := some (23, true) }) hn (by decide) rfl rfl (by kernel_rfl) (by kernel_rfl) (by kernel_rfl) hQ (wants rfl rfl 149 hn (by decide) f134) (fun w _ => ex_move (.inl rfl) f9 w) (by assumption) ?_
  intro a hn hdf f135 ho
  replace f0 := (ho 0 (by decide)).trans f0
  replace f9 := (ho 9 (by decide)).trans f9
  replace f15 := (ho 15 (by decide)).trans f15
  replace f17 := (ho 17 (by decide)).trans f17
  replace f19 := (ho 19 (by decide)).trans f19
  replace f111 := (ho 111 (by decide)).trans f111
  replace f112 := (ho 112 (by decide)).trans f112
  replace f113 := (ho 113 (by decide)).trans f113
  replace f114 := (ho 114 (by decide)).trans f114
  replace f115 := (ho 115 (by decide)).trans f115
  replace f116 := (ho 116 (by decide)).trans f116
  replace f117 := (ho 117 (by decide)).trans f117
  replace f118 := (ho 118 (by decide)).trans f118
  replace f119 := (ho 119 (by decide)).trans f119
  replace f120 := (ho 120 (by decide)).trans f120
  replace f121 := (ho 121 (by decide)).trans f121
  replace f122 := (ho 122 (by decide)).trans f122
  replace f123 := (ho 123 (by decide)).trans f123
  replace f124 := (ho 124 (by decide)).trans f124
  replace f125 := (ho 125 (by decide)).trans f125
  replace f126 := (ho 126 (by decide)).trans f126
  replace f127 := (ho 127 (by decide)).trans f127
  replace f128 := (ho 128 (by decide)).trans f128
  replace f129 := (ho 129 (by decide)).trans f129
  replace f130 := (ho 130 (by decide)).trans f130
  replace f131 := (ho 131 (by decide)).trans f131
  replace f132 := (ho 132 (by decide)).trans f132
  replace f133 := (ho 133 (by decide)).trans f133
  replace f134 := (ho 134 (by decide)).trans f134
  replace hd := hdf.trans hd
  clear ho hdf
  refine take1 25 136 (.int .i64 (x.length : Int)) 149 (oi := { dst := some 136, op := Op.call { callee := Callee.builtin Builtin.len, args := #[Operand.tmp 135], argTypes := #[9] }, type := 3, pos := "more.go:99", after := #[{ on := 24, ground := Ground.data }, { on := 23, ground := Ground.guard }], guard := some (23, true) }) hn (by decide) rfl rfl (by kernel_rfl) (by kernel_rfl) (by kernel_rfl) hQ (wants rfl rfl 149 hn (by decide) f134) (fun w hS => by
    simp only [execOp, resolve, List.map_toArray, List.map_cons, List.map_nil]
    rw [f135]
    go_simp
    all_goals with_reducible rfl) (by assumption) ?_
  intro a hn hdf f136 ho
  replace f0 := (ho 0 (by decide)).trans f0
  replace f9 := (ho 9 (by decide)).trans f9
  replace f15 := (ho 15 (by decide)).trans f15
  replace f17 := (ho 17 (by decide)).trans f17
  replace f19 := (ho 19 (by decide)).trans f19
  replace f111 := (ho 111 (by decide)).trans f111
  replace f112 := (ho 112 (by decide)).trans f112
  replace f113 := (ho 113 (by decide)).trans f113
  replace f114 := (ho 114 (by decide)).trans f114
  replace f115 := (ho 115 (by decide)).trans f115
  replace f116 := (ho 116 (by decide)).trans f116
  replace f117 := (ho 117 (by decide)).trans f117
  replace f118 := (ho 118 (by decide)).trans f118
  replace f119 := (ho 119 (by decide)).trans f119
  replace f120 := (ho 120 (by decide)).trans f120
  replace f121 := (ho 121 (by decide)).trans f121
  replace f122 := (ho 122 (by decide)).trans f122
  replace f123 := (ho 123 (by decide)).trans f123
  replace f124 := (ho 124 (by decide)).trans f124
  replace f125 := (ho 125 (by decide)).trans f125
  replace f126 := (ho 126 (by decide)).trans f126
  replace f127 := (ho 127 (by decide)).trans f127
  replace f128 := (ho 128 (by decide)).trans f128
  replace f129 := (ho 129 (by decide)).trans f129
  replace f130 := (ho 130 (by decide)).trans f130
  replace f131 := (ho 131 (by decide)).trans f131
  replace f132 := (ho 132 (by decide)).trans f132
  replace f133 := (ho 133 (by decide)).trans f133
  replace f134 := (ho 134 (by decide)).trans f134
  replace f135 := (ho 135 (by decide)).trans f135
  replace hd := hdf.trans hd
  clear ho hdf
  refine take1 26 137 (.string (ba l)) 149 (oi := { dst := some 137, op := Op.move (Operand.tmp 15), type := 9, pos := "more.go:99", after := #[{ on := 23, ground := Ground.guard }], guard := some (23, true) }) hn (by decide) rfl rfl (by kernel_rfl) (by kernel_rfl) (by kernel_rfl) hQ (wants rfl rfl 149 hn (by decide) f134) (fun w _ => ex_move (.inl rfl) f15 w) (by assumption) ?_
  intro a hn hdf f137 ho
  replace f0 := (ho 0 (by decide)).trans f0
  replace f9 := (ho 9 (by decide)).trans f9
  replace f15 := (ho 15 (by decide)).trans f15
  replace f17 := (ho 17 (by decide)).trans f17
  replace f19 := (ho 19 (by decide)).trans f19
  replace f111 := (ho 111 (by decide)).trans f111
  replace f112 := (ho 112 (by decide)).trans f112
  replace f113 := (ho 113 (by decide)).trans f113
  replace f114 := (ho 114 (by decide)).trans f114
  replace f115 := (ho 115 (by decide)).trans f115
  replace f116 := (ho 116 (by decide)).trans f116
  replace f117 := (ho 117 (by decide)).trans f117
  replace f118 := (ho 118 (by decide)).trans f118
  replace f119 := (ho 119 (by decide)).trans f119
  replace f120 := (ho 120 (by decide)).trans f120
  replace f121 := (ho 121 (by decide)).trans f121
  replace f122 := (ho 122 (by decide)).trans f122
  replace f123 := (ho 123 (by decide)).trans f123
  replace f124 := (ho 124 (by decide)).trans f124
  replace f125 := (ho 125 (by decide)).trans f125
  replace f126 := (ho 126 (by decide)).trans f126
  replace f127 := (ho 127 (by decide)).trans f127
  replace f128 := (ho 128 (by decide)).trans f128
  replace f129 := (ho 129 (by decide)).trans f129
  replace f130 := (ho 130 (by decide)).trans f130
  replace f131 := (ho 131 (by decide)).trans f131
  replace f132 := (ho 132 (by decide)).trans f132
  replace f133 := (ho 133 (by decide)).trans f133
  replace f134 := (ho 134 (by decide)).trans f134
  replace f135 := (ho 135 (by decide)).trans f135
  replace f136 := (ho 136 (by decide)).trans f136
  replace hd := hdf.trans hd
  clear ho hdf
  refine take1 27 138 (.int .i64 (l.length : Int)) 149 (oi := { dst := some 138, op := Op.call { callee := Callee.builtin Builtin.len, args := #[Operand.tmp 137], argTypes := #[9] }, type := 3, pos := "more.go:99", after := #[{ on := 26, ground := Ground.data }, { on := 23, ground := Ground.guard }], guard := some (23, true) }) hn (by decide) rfl rfl (by kernel_rfl) (by kernel_rfl) (by kernel_rfl) hQ (wants rfl rfl 149 hn (by decide) f134) (fun w hS => by
    simp only [execOp, resolve, List.map_toArray, List.map_cons, List.map_nil]
    rw [f137]
    go_simp
    all_goals with_reducible rfl) (by assumption) ?_
  intro a hn hdf f138 ho
  replace f0 := (ho 0 (by decide)).trans f0
  replace f9 := (ho 9 (by decide)).trans f9
  replace f15 := (ho 15 (by decide)).trans f15
  replace f17 := (ho 17 (by decide)).trans f17
  replace f19 := (ho 19 (by decide)).trans f19
  replace f111 := (ho 111 (by decide)).trans f111
  replace f112 := (ho 112 (by decide)).trans f112
  replace f113 := (ho 113 (by decide)).trans f113
  replace f114 := (ho 114 (by decide)).trans f114
  replace f115 := (ho 115 (by decide)).trans f115
  replace f116 := (ho 116 (by decide)).trans f116
  replace f117 := (ho 117 (by decide)).trans f117
  replace f118 := (ho 118 (by decide)).trans f118
  replace f119 := (ho 119 (by decide)).trans f119
  replace f120 := (ho 120 (by decide)).trans f120
  replace f121 := (ho 121 (by decide)).trans f121
  replace f122 := (ho 122 (by decide)).trans f122
  replace f123 := (ho 123 (by decide)).trans f123
  replace f124 := (ho 124 (by decide)).trans f124
  replace f125 := (ho 125 (by decide)).trans f125
  replace f126 := (ho 126 (by decide)).trans f126
  replace f127 := (ho 127 (by decide)).trans f127
  replace f128 := (ho 128 (by decide)).trans f128
  replace f129 := (ho 129 (by decide)).trans f129
  replace f130 := (ho 130 (by decide)).trans f130
  replace f131 := (ho 131 (by decide)).trans f131
  replace f132 := (ho 132 (by decide)).trans f132
  replace f133 := (ho 133 (by decide)).trans f133
  replace f134 := (ho 134 (by decide)).trans f134
  replace f135 := (ho 135 (by decide)).trans f135
  replace f136 := (ho 136 (by decide)).trans f136
  replace f137 := (ho 137 (by decide)).trans f137
  replace hd := hdf.trans hd
  clear ho hdf
  refine take1 28 139 (.bool true) 149 (oi := { dst := some 139, op := Op.binOp BinOp.leq 3 (Operand.tmp 136) (Operand.tmp 138) 3, type := 4, pos := "more.go:99", after := #[{ on := 25, ground := Ground.data }, { on := 27, ground := Ground.data }, { on := 23, ground := Ground.guard }], guard := some (23, true) }) hn (by decide) rfl rfl (by kernel_rfl) (by kernel_rfl) (by kernel_rfl) hQ (wants rfl rfl 149 hn (by decide) f134) (fun w hS => by
    simp only [execOp]
    rw [f136, f138]
    go_simp
    all_goals with_reducible rfl) (by assumption) ?_
  intro a hn hdf f139 ho
  replace f0 := (ho 0 (by decide)).trans f0
  replace f9 := (ho 9 (by decide)).trans f9
  replace f15 := (ho 15 (by decide)).trans f15
  replace f17 := (ho 17 (by decide)).trans f17
  replace f19 := (ho 19 (by decide)).trans f19
  replace f111 := (ho 111 (by decide)).trans f111
  replace f112 := (ho 112 (by decide)).trans f112
  replace f113 := (ho 113 (by decide)).trans f113
  replace f114 := (ho 114 (by decide)).trans f114
  replace f115 := (ho 115 (by decide)).trans f115
  replace f116 := (ho 116 (by decide)).trans f116
  replace f117 := (ho 117 (by decide)).trans f117
  replace f118 := (ho 118 (by decide)).trans f118
  replace f119 := (ho 119 (by decide)).trans f119
  replace f120 := (ho 120 (by decide)).trans f120
  replace f121 := (ho 121 (by decide)).trans f121
  replace f122 := (ho 122 (by decide)).trans f122
  replace f123 := (ho 123 (by decide)).trans f123
  replace f124 := (ho 124 (by decide)).trans f124
  replace f125 := (ho 125 (by decide)).trans f125
  replace f126 := (ho 126 (by decide)).trans f126
  replace f127 := (ho 127 (by decide)).trans f127
  replace f128 := (ho 128 (by decide)).trans f128
  replace f129 := (ho 129 (by decide)).trans f129
  replace f130 := (ho 130 (by decide)).trans f130
  replace f131 := (ho 131 (by decide)).trans f131
  replace f132 := (ho 132 (by decide)).trans f132
  replace f133 := (ho 133 (by decide)).trans f133
  replace f134 := (ho 134 (by decide)).trans f134
  replace f135 := (ho 135 (by decide)).trans f135
  replace f136 := (ho 136 (by decide)).trans f136
  replace f137 := (ho 137 (by decide)).trans f137
  replace f138 := (ho 138 (by decide)).trans f138
  replace hd := hdf.trans hd
  clear ho hdf
  refine take1 29 140 (.bool true) 149 (oi := { dst := some 140, op := Op.pick (Operand.tmp 134) (Operand.tmp 139) (Operand.const (Value.bool false)), type := 4, pos := "more.go:99", after := #[{ on := 23, ground := Ground.data }, { on := 28, ground := Ground.data }], guard := none }) hn (by decide) rfl rfl (by kernel_rfl) (by kernel_rfl) (by kernel_rfl) hQ rfl (fun w _ => ex_pickT rfl f134 f139 w) (by assumption) ?_
  intro a hn hdf f140 ho
  replace f0 := (ho 0 (by decide)).trans f0
  replace f9 := (ho 9 (by decide)).trans f9
  replace f15 := (ho 15 (by decide)).trans f15
  replace f17 := (ho 17 (by decide)).trans f17
  replace f19 := (ho 19 (by decide)).trans f19
  replace f111 := (ho 111 (by decide)).trans f111
  replace f112 := (ho 112 (by decide)).trans f112
  replace f113 := (ho 113 (by decide)).trans f113
  replace f114 := (ho 114 (by decide)).trans f114
  replace f115 := (ho 115 (by decide)).trans f115
  replace f116 := (ho 116 (by decide)).trans f116
  replace f117 := (ho 117 (by decide)).trans f117
  replace f118 := (ho 118 (by decide)).trans f118
  replace f119 := (ho 119 (by decide)).trans f119
  replace f120 := (ho 120 (by decide)).trans f120
  replace f121 := (ho 121 (by decide)).trans f121
  replace f122 := (ho 122 (by decide)).trans f122
  replace f123 := (ho 123 (by decide)).trans f123
  replace f124 := (ho 124 (by decide)).trans f124
  replace f125 := (ho 125 (by decide)).trans f125
  replace f126 := (ho 126 (by decide)).trans f126
  replace f127 := (ho 127 (by decide)).trans f127
  replace f128 := (ho 128 (by decide)).trans f128
  replace f129 := (ho 129 (by decide)).trans f129
  replace f130 := (ho 130 (by decide)).trans f130
  replace f131 := (ho 131 (by decide)).trans f131
  replace f132 := (ho 132 (by decide)).trans f132
  replace f133 := (ho 133 (by decide)).trans f133
  replace f134 := (ho 134 (by decide)).trans f134
  replace f135 := (ho 135 (by decide)).trans f135
  replace f136 := (ho 136 (by decide)).trans f136
  replace f137 := (ho 137 (by decide)).trans f137
  replace f138 := (ho 138 (by decide)).trans f138
  replace f139 := (ho 139 (by decide)).trans f139
  replace hd := hdf.trans hd
  clear ho hdf
  refine take1 30 141 (.bool true) 149 (oi := { dst := some 141, op := Op.move (Operand.tmp 140), type := 4, pos := "more.go:99", after := #[{ on := 29, ground := Ground.data }, { on := 23, ground := Ground.chain }], guard := none }) hn (by decide) rfl rfl (by kernel_rfl) (by kernel_rfl) (by kernel_rfl) hQ rfl (fun w _ => ex_move (.inl rfl) f140 w) (by assumption) ?_
  intro a hn hdf f141 ho
  replace f0 := (ho 0 (by decide)).trans f0
  replace f9 := (ho 9 (by decide)).trans f9
  replace f15 := (ho 15 (by decide)).trans f15
  replace f17 := (ho 17 (by decide)).trans f17
  replace f19 := (ho 19 (by decide)).trans f19
  replace f111 := (ho 111 (by decide)).trans f111
  replace f112 := (ho 112 (by decide)).trans f112
  replace f113 := (ho 113 (by decide)).trans f113
  replace f114 := (ho 114 (by decide)).trans f114
  replace f115 := (ho 115 (by decide)).trans f115
  replace f116 := (ho 116 (by decide)).trans f116
  replace f117 := (ho 117 (by decide)).trans f117
  replace f118 := (ho 118 (by decide)).trans f118
  replace f119 := (ho 119 (by decide)).trans f119
  replace f120 := (ho 120 (by decide)).trans f120
  replace f121 := (ho 121 (by decide)).trans f121
  replace f122 := (ho 122 (by decide)).trans f122
  replace f123 := (ho 123 (by decide)).trans f123
  replace f124 := (ho 124 (by decide)).trans f124
  replace f125 := (ho 125 (by decide)).trans f125
  replace f126 := (ho 126 (by decide)).trans f126
  replace f127 := (ho 127 (by decide)).trans f127
  replace f128 := (ho 128 (by decide)).trans f128
  replace f129 := (ho 129 (by decide)).trans f129
  replace f130 := (ho 130 (by decide)).trans f130
  replace f131 := (ho 131 (by decide)).trans f131
  replace f132 := (ho 132 (by decide)).trans f132
  replace f133 := (ho 133 (by decide)).trans f133
  replace f134 := (ho 134 (by decide)).trans f134
  replace f135 := (ho 135 (by decide)).trans f135
  replace f136 := (ho 136 (by decide)).trans f136
  replace f137 := (ho 137 (by decide)).trans f137
  replace f138 := (ho 138 (by decide)).trans f138
  replace f139 := (ho 139 (by decide)).trans f139
  replace f140 := (ho 140 (by decide)).trans f140
  replace hd := hdf.trans hd
  clear ho hdf
  refine take1 31 142 (.string (ba l)) 149 (oi := { dst := some 142, op := Op.move (Operand.tmp 15), type := 9, pos := "more.go:99", after := #[{ on := 30, ground := Ground.guard }], guard := some (30, true) }) hn (by decide) rfl rfl (by kernel_rfl) (by kernel_rfl) (by kernel_rfl) hQ (wants rfl rfl 149 hn (by decide) f141) (fun w _ => ex_move (.inl rfl) f15 w) (by assumption) ?_
  intro a hn hdf f142 ho
  replace f0 := (ho 0 (by decide)).trans f0
  replace f9 := (ho 9 (by decide)).trans f9
  replace f15 := (ho 15 (by decide)).trans f15
  replace f17 := (ho 17 (by decide)).trans f17
  replace f19 := (ho 19 (by decide)).trans f19
  replace f111 := (ho 111 (by decide)).trans f111
  replace f112 := (ho 112 (by decide)).trans f112
  replace f113 := (ho 113 (by decide)).trans f113
  replace f114 := (ho 114 (by decide)).trans f114
  replace f115 := (ho 115 (by decide)).trans f115
  replace f116 := (ho 116 (by decide)).trans f116
  replace f117 := (ho 117 (by decide)).trans f117
  replace f118 := (ho 118 (by decide)).trans f118
  replace f119 := (ho 119 (by decide)).trans f119
  replace f120 := (ho 120 (by decide)).trans f120
  replace f121 := (ho 121 (by decide)).trans f121
  replace f122 := (ho 122 (by decide)).trans f122
  replace f123 := (ho 123 (by decide)).trans f123
  replace f124 := (ho 124 (by decide)).trans f124
  replace f125 := (ho 125 (by decide)).trans f125
  replace f126 := (ho 126 (by decide)).trans f126
  replace f127 := (ho 127 (by decide)).trans f127
  replace f128 := (ho 128 (by decide)).trans f128
  replace f129 := (ho 129 (by decide)).trans f129
  replace f130 := (ho 130 (by decide)).trans f130
  replace f131 := (ho 131 (by decide)).trans f131
  replace f132 := (ho 132 (by decide)).trans f132
  replace f133 := (ho 133 (by decide)).trans f133
  replace f134 := (ho 134 (by decide)).trans f134
  replace f135 := (ho 135 (by decide)).trans f135
  replace f136 := (ho 136 (by decide)).trans f136
  replace f137 := (ho 137 (by decide)).trans f137
  replace f138 := (ho 138 (by decide)).trans f138
  replace f139 := (ho 139 (by decide)).trans f139
  replace f140 := (ho 140 (by decide)).trans f140
  replace f141 := (ho 141 (by decide)).trans f141
  replace hd := hdf.trans hd
  clear ho hdf
  refine take1 32 143 (.string (ba x)) 149 (oi := { dst := some 143, op := Op.move (Operand.tmp 9), type := 9, pos := "more.go:99", after := #[{ on := 30, ground := Ground.guard }], guard := some (30, true) }) hn (by decide) rfl rfl (by kernel_rfl) (by kernel_rfl) (by kernel_rfl) hQ (wants rfl rfl 149 hn (by decide) f141) (fun w _ => ex_move (.inl rfl) f9 w) (by assumption) ?_
  intro a hn hdf f143 ho
  replace f0 := (ho 0 (by decide)).trans f0
  replace f9 := (ho 9 (by decide)).trans f9
  replace f15 := (ho 15 (by decide)).trans f15
  replace f17 := (ho 17 (by decide)).trans f17
  replace f19 := (ho 19 (by decide)).trans f19
  replace f111 := (ho 111 (by decide)).trans f111
  replace f112 := (ho 112 (by decide)).trans f112
  replace f113 := (ho 113 (by decide)).trans f113
  replace f114 := (ho 114 (by decide)).trans f114
  replace f115 := (ho 115 (by decide)).trans f115
  replace f116 := (ho 116 (by decide)).trans f116
  replace f117 := (ho 117 (by decide)).trans f117
  replace f118 := (ho 118 (by decide)).trans f118
  replace f119 := (ho 119 (by decide)).trans f119
  replace f120 := (ho 120 (by decide)).trans f120
  replace f121 := (ho 121 (by decide)).trans f121
  replace f122 := (ho 122 (by decide)).trans f122
  replace f123 := (ho 123 (by decide)).trans f123
  replace f124 := (ho 124 (by decide)).trans f124
  replace f125 := (ho 125 (by decide)).trans f125
  replace f126 := (ho 126 (by decide)).trans f126
  replace f127 := (ho 127 (by decide)).trans f127
  replace f128 := (ho 128 (by decide)).trans f128
  replace f129 := (ho 129 (by decide)).trans f129
  replace f130 := (ho 130 (by decide)).trans f130
  replace f131 := (ho 131 (by decide)).trans f131
  replace f132 := (ho 132 (by decide)).trans f132
  replace f133 := (ho 133 (by decide)).trans f133
  replace f134 := (ho 134 (by decide)).trans f134
  replace f135 := (ho 135 (by decide)).trans f135
  replace f136 := (ho 136 (by decide)).trans f136
  replace f137 := (ho 137 (by decide)).trans f137
  replace f138 := (ho 138 (by decide)).trans f138
  replace f139 := (ho 139 (by decide)).trans f139
  replace f140 := (ho 140 (by decide)).trans f140
  replace f141 := (ho 141 (by decide)).trans f141
  replace f142 := (ho 142 (by decide)).trans f142
  replace hd := hdf.trans hd
  clear ho hdf
  refine take1 33 144 (.int .i64 (x.length : Int)) 149 (oi := { dst := some 144, op := Op.call { callee := Callee.builtin Builtin.len, args := #[Operand.tmp 143], argTypes := #[9] }, type := 3, pos := "more.go:99", after := #[{ on := 32, ground := Ground.data }, { on := 30, ground := Ground.guard }], guard := some (30, true) }) hn (by decide) rfl rfl (by kernel_rfl) (by kernel_rfl) (by kernel_rfl) hQ (wants rfl rfl 149 hn (by decide) f141) (fun w hS => by
    simp only [execOp, resolve, List.map_toArray, List.map_cons, List.map_nil]
    rw [f143]
    go_simp
    all_goals with_reducible rfl) (by assumption) ?_
  intro a hn hdf f144 ho
  replace f0 := (ho 0 (by decide)).trans f0
  replace f9 := (ho 9 (by decide)).trans f9
  replace f15 := (ho 15 (by decide)).trans f15
  replace f17 := (ho 17 (by decide)).trans f17
  replace f19 := (ho 19 (by decide)).trans f19
  replace f111 := (ho 111 (by decide)).trans f111
  replace f112 := (ho 112 (by decide)).trans f112
  replace f113 := (ho 113 (by decide)).trans f113
  replace f114 := (ho 114 (by decide)).trans f114
  replace f115 := (ho 115 (by decide)).trans f115
  replace f116 := (ho 116 (by decide)).trans f116
  replace f117 := (ho 117 (by decide)).trans f117
  replace f118 := (ho 118 (by decide)).trans f118
  replace f119 := (ho 119 (by decide)).trans f119
  replace f120 := (ho 120 (by decide)).trans f120
  replace f121 := (ho 121 (by decide)).trans f121
  replace f122 := (ho 122 (by decide)).trans f122
  replace f123 := (ho 123 (by decide)).trans f123
  replace f124 := (ho 124 (by decide)).trans f124
  replace f125 := (ho 125 (by decide)).trans f125
  replace f126 := (ho 126 (by decide)).trans f126
  replace f127 := (ho 127 (by decide)).trans f127
  replace f128 := (ho 128 (by decide)).trans f128
  replace f129 := (ho 129 (by decide)).trans f129
  replace f130 := (ho 130 (by decide)).trans f130
  replace f131 := (ho 131 (by decide)).trans f131
  replace f132 := (ho 132 (by decide)).trans f132
  replace f133 := (ho 133 (by decide)).trans f133
  replace f134 := (ho 134 (by decide)).trans f134
  replace f135 := (ho 135 (by decide)).trans f135
  replace f136 := (ho 136 (by decide)).trans f136
  replace f137 := (ho 137 (by decide)).trans f137
  replace f138 := (ho 138 (by decide)).trans f138
  replace f139 := (ho 139 (by decide)).trans f139
  replace f140 := (ho 140 (by decide)).trans f140
  replace f141 := (ho 141 (by decide)).trans f141
  replace f142 := (ho 142 (by decide)).trans f142
  replace f143 := (ho 143 (by decide)).trans f143
  replace hd := hdf.trans hd
  clear ho hdf
  refine take1 34 145 (.string (ba x)) 149 (oi := { dst := some 145, op := Op.slice 9 (Operand.tmp 142) none (some (Operand.tmp 144)) none, type := 9, pos := "more.go:99", after := #[{ on := 31, ground := Ground.data }, { on := 33, ground := Ground.data }, { on := 30, ground := Ground.guard }], guard := some (30, true) }) hn (by decide) rfl rfl (by kernel_rfl) (by kernel_rfl) (by kernel_rfl) hQ (wants rfl rfl 149 hn (by decide) f141) (fun w hS => by
    simp only [execOp, Option.map_some, Option.map_none]
    rw [f142, f144]
    go_simp
    all_goals with_reducible rfl) (by assumption) ?_
  intro a hn hdf f145 ho
  replace f0 := (ho 0 (by decide)).trans f0
  replace f9 := (ho 9 (by decide)).trans f9
  replace f15 := (ho 15 (by decide)).trans f15
  replace f17 := (ho 17 (by decide)).trans f17
  replace f19 := (ho 19 (by decide)).trans f19
  replace f111 := (ho 111 (by decide)).trans f111
  replace f112 := (ho 112 (by decide)).trans f112
  replace f113 := (ho 113 (by decide)).trans f113
  replace f114 := (ho 114 (by decide)).trans f114
  replace f115 := (ho 115 (by decide)).trans f115
  replace f116 := (ho 116 (by decide)).trans f116
  replace f117 := (ho 117 (by decide)).trans f117
  replace f118 := (ho 118 (by decide)).trans f118
  replace f119 := (ho 119 (by decide)).trans f119
  replace f120 := (ho 120 (by decide)).trans f120
  replace f121 := (ho 121 (by decide)).trans f121
  replace f122 := (ho 122 (by decide)).trans f122
  replace f123 := (ho 123 (by decide)).trans f123
  replace f124 := (ho 124 (by decide)).trans f124
  replace f125 := (ho 125 (by decide)).trans f125
  replace f126 := (ho 126 (by decide)).trans f126
  replace f127 := (ho 127 (by decide)).trans f127
  replace f128 := (ho 128 (by decide)).trans f128
  replace f129 := (ho 129 (by decide)).trans f129
  replace f130 := (ho 130 (by decide)).trans f130
  replace f131 := (ho 131 (by decide)).trans f131
  replace f132 := (ho 132 (by decide)).trans f132
  replace f133 := (ho 133 (by decide)).trans f133
  replace f134 := (ho 134 (by decide)).trans f134
  replace f135 := (ho 135 (by decide)).trans f135
  replace f136 := (ho 136 (by decide)).trans f136
  replace f137 := (ho 137 (by decide)).trans f137
  replace f138 := (ho 138 (by decide)).trans f138
  replace f139 := (ho 139 (by decide)).trans f139
  replace f140 := (ho 140 (by decide)).trans f140
  replace f141 := (ho 141 (by decide)).trans f141
  replace f142 := (ho 142 (by decide)).trans f142
  replace f143 := (ho 143 (by decide)).trans f143
  replace f144 := (ho 144 (by decide)).trans f144
  replace hd := hdf.trans hd
  clear ho hdf
  refine take1 35 146 (.string (ba x)) 149 (oi := { dst := some 146, op := Op.move (Operand.tmp 9), type := 9, pos := "more.go:99", after := #[{ on := 30, ground := Ground.guard }], guard := some (30, true) }) hn (by decide) rfl rfl (by kernel_rfl) (by kernel_rfl) (by kernel_rfl) hQ (wants rfl rfl 149 hn (by decide) f141) (fun w _ => ex_move (.inl rfl) f9 w) (by assumption) ?_
  intro a hn hdf f146 ho
  replace f0 := (ho 0 (by decide)).trans f0
  replace f9 := (ho 9 (by decide)).trans f9
  replace f15 := (ho 15 (by decide)).trans f15
  replace f17 := (ho 17 (by decide)).trans f17
  replace f19 := (ho 19 (by decide)).trans f19
  replace f111 := (ho 111 (by decide)).trans f111
  replace f112 := (ho 112 (by decide)).trans f112
  replace f113 := (ho 113 (by decide)).trans f113
  replace f114 := (ho 114 (by decide)).trans f114
  replace f115 := (ho 115 (by decide)).trans f115
  replace f116 := (ho 116 (by decide)).trans f116
  replace f117 := (ho 117 (by decide)).trans f117
  replace f118 := (ho 118 (by decide)).trans f118
  replace f119 := (ho 119 (by decide)).trans f119
  replace f120 := (ho 120 (by decide)).trans f120
  replace f121 := (ho 121 (by decide)).trans f121
  replace f122 := (ho 122 (by decide)).trans f122
  replace f123 := (ho 123 (by decide)).trans f123
  replace f124 := (ho 124 (by decide)).trans f124
  replace f125 := (ho 125 (by decide)).trans f125
  replace f126 := (ho 126 (by decide)).trans f126
  replace f127 := (ho 127 (by decide)).trans f127
  replace f128 := (ho 128 (by decide)).trans f128
  replace f129 := (ho 129 (by decide)).trans f129
  replace f130 := (ho 130 (by decide)).trans f130
  replace f131 := (ho 131 (by decide)).trans f131
  replace f132 := (ho 132 (by decide)).trans f132
  replace f133 := (ho 133 (by decide)).trans f133
  replace f134 := (ho 134 (by decide)).trans f134
  replace f135 := (ho 135 (by decide)).trans f135
  replace f136 := (ho 136 (by decide)).trans f136
  replace f137 := (ho 137 (by decide)).trans f137
  replace f138 := (ho 138 (by decide)).trans f138
  replace f139 := (ho 139 (by decide)).trans f139
  replace f140 := (ho 140 (by decide)).trans f140
  replace f141 := (ho 141 (by decide)).trans f141
  replace f142 := (ho 142 (by decide)).trans f142
  replace f143 := (ho 143 (by decide)).trans f143
  replace f144 := (ho 144 (by decide)).trans f144
  replace f145 := (ho 145 (by decide)).trans f145
  replace hd := hdf.trans hd
  clear ho hdf
  refine take1 36 147 (.bool true) 149 (oi := { dst := some 147, op := Op.binOp BinOp.eql 9 (Operand.tmp 145) (Operand.tmp 146) 9, type := 4, pos := "more.go:99", after := #[{ on := 34, ground := Ground.data }, { on := 35, ground := Ground.data }, { on := 30, ground := Ground.guard }], guard := some (30, true) }) hn (by decide) rfl rfl (by kernel_rfl) (by kernel_rfl) (by kernel_rfl) hQ (wants rfl rfl 149 hn (by decide) f141) (fun w hS => by
    simp only [execOp]
    rw [f145, f146]
    go_simp
    all_goals with_reducible rfl) (by assumption) ?_
  intro a hn hdf f147 ho
  replace f0 := (ho 0 (by decide)).trans f0
  replace f9 := (ho 9 (by decide)).trans f9
  replace f15 := (ho 15 (by decide)).trans f15
  replace f17 := (ho 17 (by decide)).trans f17
  replace f19 := (ho 19 (by decide)).trans f19
  replace f111 := (ho 111 (by decide)).trans f111
  replace f112 := (ho 112 (by decide)).trans f112
  replace f113 := (ho 113 (by decide)).trans f113
  replace f114 := (ho 114 (by decide)).trans f114
  replace f115 := (ho 115 (by decide)).trans f115
  replace f116 := (ho 116 (by decide)).trans f116
  replace f117 := (ho 117 (by decide)).trans f117
  replace f118 := (ho 118 (by decide)).trans f118
  replace f119 := (ho 119 (by decide)).trans f119
  replace f120 := (ho 120 (by decide)).trans f120
  replace f121 := (ho 121 (by decide)).trans f121
  replace f122 := (ho 122 (by decide)).trans f122
  replace f123 := (ho 123 (by decide)).trans f123
  replace f124 := (ho 124 (by decide)).trans f124
  replace f125 := (ho 125 (by decide)).trans f125
  replace f126 := (ho 126 (by decide)).trans f126
  replace f127 := (ho 127 (by decide)).trans f127
  replace f128 := (ho 128 (by decide)).trans f128
  replace f129 := (ho 129 (by decide)).trans f129
  replace f130 := (ho 130 (by decide)).trans f130
  replace f131 := (ho 131 (by decide)).trans f131
  replace f132 := (ho 132 (by decide)).trans f132
  replace f133 := (ho 133 (by decide)).trans f133
  replace f134 := (ho 134 (by decide)).trans f134
  replace f135 := (ho 135 (by decide)).trans f135
  replace f136 := (ho 136 (by decide)).trans f136
  replace f137 := (ho 137 (by decide)).trans f137
  replace f138 := (ho 138 (by decide)).trans f138
  replace f139 := (ho 139 (by decide)).trans f139
  replace f140 := (ho 140 (by decide)).trans f140
  replace f141 := (ho 141 (by decide)).trans f141
  replace f142 := (ho 142 (by decide)).trans f142
  replace f143 := (ho 143 (by decide)).trans f143
  replace f144 := (ho 144 (by decide)).trans f144
  replace f145 := (ho 145 (by decide)).trans f145
  replace f146 := (ho 146 (by decide)).trans f146
  replace hd := hdf.trans hd
  clear ho hdf
  refine take1 37 148 (.bool true) 149 (oi := { dst := some 148, op := Op.pick (Operand.tmp 141) (Operand.tmp 147) (Operand.const (Value.bool false)), type := 4, pos := "more.go:99", after := #[{ on := 30, ground := Ground.data }, { on := 36, ground := Ground.data }], guard := none }) hn (by decide) rfl rfl (by kernel_rfl) (by kernel_rfl) (by kernel_rfl) hQ rfl (fun w _ => ex_pickT rfl f141 f147 w) (by assumption) ?_
  intro a hn hdf f148 ho
  replace f0 := (ho 0 (by decide)).trans f0
  replace f9 := (ho 9 (by decide)).trans f9
  replace f15 := (ho 15 (by decide)).trans f15
  replace f17 := (ho 17 (by decide)).trans f17
  replace f19 := (ho 19 (by decide)).trans f19
  replace f111 := (ho 111 (by decide)).trans f111
  replace f112 := (ho 112 (by decide)).trans f112
  replace f113 := (ho 113 (by decide)).trans f113
  replace f114 := (ho 114 (by decide)).trans f114
  replace f115 := (ho 115 (by decide)).trans f115
  replace f116 := (ho 116 (by decide)).trans f116
  replace f117 := (ho 117 (by decide)).trans f117
  replace f118 := (ho 118 (by decide)).trans f118
  replace f119 := (ho 119 (by decide)).trans f119
  replace f120 := (ho 120 (by decide)).trans f120
  replace f121 := (ho 121 (by decide)).trans f121
  replace f122 := (ho 122 (by decide)).trans f122
  replace f123 := (ho 123 (by decide)).trans f123
  replace f124 := (ho 124 (by decide)).trans f124
  replace f125 := (ho 125 (by decide)).trans f125
  replace f126 := (ho 126 (by decide)).trans f126
  replace f127 := (ho 127 (by decide)).trans f127
  replace f128 := (ho 128 (by decide)).trans f128
  replace f129 := (ho 129 (by decide)).trans f129
  replace f130 := (ho 130 (by decide)).trans f130
  replace f131 := (ho 131 (by decide)).trans f131
  replace f132 := (ho 132 (by decide)).trans f132
  replace f133 := (ho 133 (by decide)).trans f133
  replace f134 := (ho 134 (by decide)).trans f134
  replace f135 := (ho 135 (by decide)).trans f135
  replace f136 := (ho 136 (by decide)).trans f136
  replace f137 := (ho 137 (by decide)).trans f137
  replace f138 := (ho 138 (by decide)).trans f138
  replace f139 := (ho 139 (by decide)).trans f139
  replace f140 := (ho 140 (by decide)).trans f140
  replace f141 := (ho 141 (by decide)).trans f141
  replace f142 := (ho 142 (by decide)).trans f142
  replace f143 := (ho 143 (by decide)).trans f143
  replace f144 := (ho 144 (by decide)).trans f144
  replace f145 := (ho 145 (by decide)).trans f145
  replace f146 := (ho 146 (by decide)).trans f146
  replace f147 := (ho 147 (by decide)).trans f147
  replace hd := hdf.trans hd
  clear ho hdf
  refine take1 38 6 (.bool true) 149 (oi := { dst := some 6, op := Op.assign (Operand.tmp 148), type := 4, pos := "more.go:99", after := #[{ on := 37, ground := Ground.data }, { on := 30, ground := Ground.chain }, { on := 0, ground := Ground.phase }, { on := 1, ground := Ground.phase }, { on := 2, ground := Ground.phase }, { on := 3, ground := Ground.phase }, { on := 4, ground := Ground.phase }, { on := 5, ground := Ground.phase }, { on := 6, ground := Ground.phase }, { on := 7, ground := Ground.phase }, { on := 8, ground := Ground.phase }, { on := 9, ground := Ground.phase }, { on := 10, ground := Ground.phase }, { on := 11, ground := Ground.phase }, { on := 12, ground := Ground.phase }, { on := 13, ground := Ground.phase }, { on := 14, ground := Ground.phase }, { on := 15, ground := Ground.phase }, { on := 16, ground := Ground.phase }, { on := 17, ground := Ground.phase }, { on := 18, ground := Ground.phase }, { on := 19, ground := Ground.phase }, { on := 20, ground := Ground.phase }, { on := 21, ground := Ground.phase }, { on := 22, ground := Ground.phase }, { on := 23, ground := Ground.phase }, { on := 24, ground := Ground.phase }, { on := 25, ground := Ground.phase }, { on := 26, ground := Ground.phase }, { on := 27, ground := Ground.phase }, { on := 28, ground := Ground.phase }, { on := 29, ground := Ground.phase }, { on := 30, ground := Ground.phase }, { on := 31, ground := Ground.phase }, { on := 32, ground := Ground.phase }, { on := 33, ground := Ground.phase }, { on := 34, ground := Ground.phase }, { on := 35, ground := Ground.phase }, { on := 36, ground := Ground.phase }, { on := 37, ground := Ground.phase }], guard := none }) hn (by decide) rfl rfl (by kernel_rfl) (by kernel_rfl) (by kernel_rfl) hQ rfl (fun w _ => ex_move (.inr rfl) f148 w) (by assumption) ?_
  intro a hn hdf f6 ho
  replace f0 := (ho 0 (by decide)).trans f0
  replace f9 := (ho 9 (by decide)).trans f9
  replace f15 := (ho 15 (by decide)).trans f15
  replace f17 := (ho 17 (by decide)).trans f17
  replace f19 := (ho 19 (by decide)).trans f19
  replace f111 := (ho 111 (by decide)).trans f111
  replace f112 := (ho 112 (by decide)).trans f112
  replace f113 := (ho 113 (by decide)).trans f113
  replace f114 := (ho 114 (by decide)).trans f114
  replace f115 := (ho 115 (by decide)).trans f115
  replace f116 := (ho 116 (by decide)).trans f116
  replace f117 := (ho 117 (by decide)).trans f117
  replace f118 := (ho 118 (by decide)).trans f118
  replace f119 := (ho 119 (by decide)).trans f119
  replace f120 := (ho 120 (by decide)).trans f120
  replace f121 := (ho 121 (by decide)).trans f121
  replace f122 := (ho 122 (by decide)).trans f122
  replace f123 := (ho 123 (by decide)).trans f123
  replace f124 := (ho 124 (by decide)).trans f124
  replace f125 := (ho 125 (by decide)).trans f125
  replace f126 := (ho 126 (by decide)).trans f126
  replace f127 := (ho 127 (by decide)).trans f127
  replace f128 := (ho 128 (by decide)).trans f128
  replace f129 := (ho 129 (by decide)).trans f129
  replace f130 := (ho 130 (by decide)).trans f130
  replace f131 := (ho 131 (by decide)).trans f131
  replace f132 := (ho 132 (by decide)).trans f132
  replace f133 := (ho 133 (by decide)).trans f133
  replace f134 := (ho 134 (by decide)).trans f134
  replace f135 := (ho 135 (by decide)).trans f135
  replace f136 := (ho 136 (by decide)).trans f136
  replace f137 := (ho 137 (by decide)).trans f137
  replace f138 := (ho 138 (by decide)).trans f138
  replace f139 := (ho 139 (by decide)).trans f139
  replace f140 := (ho 140 (by decide)).trans f140
  replace f141 := (ho 141 (by decide)).trans f141
  replace f142 := (ho 142 (by decide)).trans f142
  replace f143 := (ho 143 (by decide)).trans f143
  replace f144 := (ho 144 (by decide)).trans f144
  replace f145 := (ho 145 (by decide)).trans f145
  replace f146 := (ho 146 (by decide)).trans f146
  replace f147 := (ho 147 (by decide)).trans f147
  replace f148 := (ho 148 (by decide)).trans f148
  replace hd := hdf.trans hd
  clear ho hdf
  exact wpAnyH_done (by kernel_rfl) (hK _ _ hn hd f6 (below_then (below_then (below_draws (Below.refl _ W) 1) hba) hbb)) _
end Go.Proofs.YtigcogfjclohjaaGreatDoor
