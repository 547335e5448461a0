/- The last statement of ActSorts: two texts parted, in whatever order. -/
import Derived.Test.YtigcogfjclohjaaGreatDoorASorts
import Derived.Test.YtigcogfjclohjaaGreatDoorARegion
namespace Go.Proofs.YtigcogfjclohjaaGreatDoor
open Go.RowKit Go.Shelf Go.Lib
open Go.Sort (grow Holds putRow)

set_option maxRecDepth 100000 in
set_option maxHeartbeats 8000000 in
theorem sorts_end (x n m d : List UInt8) (p9 : Option Addr) (N c9 : Nat) (a : Act) (W : World) (Q : Exit → Act → World → Prop) (hQ : ∀ c i v a w, Q (.panic c) (a.put i v) w → Q (.panic c) a w)
    (hn : a.tmps.size = 190) (f8 : a.eval (.tmp 8) = .string (ba x)) (f10 : a.eval (.tmp 10) = .string (ba x)) (f12 : a.eval (.tmp 12) = .string (ba x)) (f16 : a.eval (.tmp 16) = .string (ba n)) (f18 : a.eval (.tmp 18) = .string (ba m)) (f22 : a.eval (.tmp 22) = .slice p9 N c9) (f23 : a.eval (.tmp 23) = .int .i64 N)
    (HN : Hid (∀ (z : List UInt8) W, (z = n ∨ z = m) → Calls Tryz.prog 30 #[.string (ba z), .int .u8 32] W fun e w' => ∃ v g k c, e = .returned v ∧ v = .slice (some ⟨g, 0, none⟩) (k + 1) c ∧ g < w'.heap.size ∧ w'.cell? ⟨g, 0, none⟩ = some (.string (ba d)) ∧ Below W.heap.size W w'))
    (hK : ∀ a' w', a'.tmps.size = 190 → a'.defers = a.defers → a'.eval (.tmp 6) = .bool true → Below W.heap.size W w' → Q .normal a' w') :
    (Code.region 27 #[
    { dst := some 165, op := Op.move (Operand.tmp 8), type := 9, pos := "files.go:283", after := #[], guard := none },
    { dst := some 166, op := Op.move (Operand.tmp 10), type := 9, pos := "files.go:283", after := #[], guard := none },
    { dst := some 167, op := Op.binOp BinOp.eql 9 (Operand.tmp 165) (Operand.tmp 166) 9, type := 4, pos := "files.go:283", after := #[{ on := 0, ground := Ground.data }, { on := 1, ground := Ground.data }], guard := none },
    { dst := some 168, op := Op.move (Operand.tmp 167), type := 4, pos := "files.go:283", after := #[{ on := 2, ground := Ground.data }], guard := none },
    { dst := some 169, op := Op.move (Operand.tmp 8), type := 9, pos := "files.go:283", after := #[{ on := 3, ground := Ground.guard }], guard := some (3, true) },
    { dst := some 170, op := Op.move (Operand.tmp 12), type := 9, pos := "files.go:283", after := #[{ on := 3, ground := Ground.guard }], guard := some (3, true) },
    { dst := some 171, op := Op.binOp BinOp.eql 9 (Operand.tmp 169) (Operand.tmp 170) 9, type := 4, pos := "files.go:283", after := #[{ on := 4, ground := Ground.data }, { on := 5, ground := Ground.data }, { on := 3, ground := Ground.guard }], guard := some (3, true) },
    { dst := some 172, op := Op.pick (Operand.tmp 168) (Operand.tmp 171) (Operand.const (Value.bool false)), type := 4, pos := "files.go:283", after := #[{ on := 3, ground := Ground.data }, { on := 6, ground := Ground.data }], guard := none },
    { dst := some 173, op := Op.move (Operand.tmp 172), type := 4, pos := "files.go:283", after := #[{ on := 7, ground := Ground.data }, { on := 3, ground := Ground.chain }], guard := none },
    { dst := some 174, op := Op.move (Operand.tmp 23), type := 3, pos := "files.go:283", after := #[{ on := 8, ground := Ground.guard }], guard := some (8, true) },
    { dst := some 175, op := Op.move (Operand.tmp 22), type := 41, pos := "files.go:283", after := #[{ on := 8, ground := Ground.guard }], guard := some (8, true) },
    { dst := some 176, op := Op.call { callee := Callee.builtin Builtin.len, args := #[Operand.tmp 175], argTypes := #[41] }, type := 3, pos := "files.go:283", after := #[{ on := 10, ground := Ground.data }, { on := 8, ground := Ground.guard }], guard := some (8, true) },
    { dst := some 177, op := Op.binOp BinOp.eql 3 (Operand.tmp 174) (Operand.tmp 176) 3, type := 4, pos := "files.go:283", after := #[{ on := 9, ground := Ground.data }, { on := 11, ground := Ground.data }, { on := 8, ground := Ground.guard }], guard := some (8, true) },
    { dst := some 178, op := Op.pick (Operand.tmp 173) (Operand.tmp 177) (Operand.const (Value.bool false)), type := 4, pos := "files.go:283", after := #[{ on := 8, ground := Ground.data }, { on := 12, ground := Ground.data }], guard := none },
    { dst := some 179, op := Op.move (Operand.tmp 178), type := 4, pos := "files.go:283", after := #[{ on := 13, ground := Ground.data }, { on := 8, ground := Ground.chain }], guard := none },
    { dst := some 180, op := Op.move (Operand.tmp 16), type := 9, pos := "files.go:283", after := #[{ on := 14, ground := Ground.guard }], guard := some (14, true) },
    { dst := some 181, op := Op.call { callee := Callee.value (Operand.func 30), args := #[Operand.tmp 180, Operand.const (Value.int IntKind.u8 32)], argTypes := #[9, 5] }, type := 41, pos := "files.go:283", after := #[{ on := 15, ground := Ground.data }, { on := 14, ground := Ground.chain }, { on := 14, ground := Ground.guard }], guard := some (14, true) },
    { dst := some 182, op := Op.indexAddr 41 (Operand.tmp 181) (Operand.const (Value.int IntKind.i64 0)), type := 0, pos := "files.go:283", after := #[{ on := 16, ground := Ground.data }, { on := 14, ground := Ground.guard }], guard := some (14, true) },
    { dst := some 183, op := Op.load 9 (Operand.tmp 182), type := 9, pos := "files.go:283", after := #[{ on := 17, ground := Ground.data }, { on := 14, ground := Ground.guard }], guard := some (14, true) },
    { dst := some 184, op := Op.move (Operand.tmp 18), type := 9, pos := "files.go:283", after := #[{ on := 14, ground := Ground.guard }], guard := some (14, true) },
    { dst := some 185, op := Op.call { callee := Callee.value (Operand.func 30), args := #[Operand.tmp 184, Operand.const (Value.int IntKind.u8 32)], argTypes := #[9, 5] }, type := 41, pos := "files.go:283", after := #[{ on := 19, ground := Ground.data }, { on := 16, ground := Ground.chain }, { on := 14, ground := Ground.guard }], guard := some (14, true) },
    { dst := some 186, op := Op.indexAddr 41 (Operand.tmp 185) (Operand.const (Value.int IntKind.i64 0)), type := 0, pos := "files.go:283", after := #[{ on := 20, ground := Ground.data }, { on := 14, ground := Ground.guard }], guard := some (14, true) },
    { dst := some 187, op := Op.load 9 (Operand.tmp 186), type := 9, pos := "files.go:283", after := #[{ on := 21, ground := Ground.data }, { on := 14, ground := Ground.guard }], guard := some (14, true) },
    { dst := some 188, op := Op.binOp BinOp.eql 9 (Operand.tmp 183) (Operand.tmp 187) 9, type := 4, pos := "files.go:283", after := #[{ on := 18, ground := Ground.data }, { on := 22, ground := Ground.data }, { on := 14, ground := Ground.guard }], guard := some (14, true) },
    { dst := some 189, op := Op.pick (Operand.tmp 179) (Operand.tmp 188) (Operand.const (Value.bool false)), type := 4, pos := "files.go:283", after := #[{ on := 14, ground := Ground.data }, { on := 23, ground := Ground.data }], guard := none },
    { dst := some 6, op := Op.assign (Operand.tmp 189), type := 4, pos := "files.go:283", after := #[{ on := 24, ground := Ground.data }, { on := 20, ground := Ground.chain }, { on := 0, ground := Ground.phase }, { on := 1, ground := Ground.phase }, { on := 2, ground := Ground.phase }, { on := 3, ground := Ground.phase }, { on := 4, ground := Ground.phase }, { on := 5, ground := Ground.phase }, { on := 6, ground := Ground.phase }, { on := 7, ground := Ground.phase }, { on := 8, ground := Ground.phase }, { on := 9, ground := Ground.phase }, { on := 10, ground := Ground.phase }, { on := 11, ground := Ground.phase }, { on := 12, ground := Ground.phase }, { on := 13, ground := Ground.phase }, { on := 14, ground := Ground.phase }, { on := 15, ground := Ground.phase }, { on := 16, ground := Ground.phase }, { on := 17, ground := Ground.phase }, { on := 18, ground := Ground.phase }, { on := 19, ground := Ground.phase }, { on := 20, ground := Ground.phase }, { on := 21, ground := Ground.phase }, { on := 22, ground := Ground.phase }, { on := 23, ground := Ground.phase }, { on := 24, ground := Ground.phase }], guard := none }] true).wp Tryz.prog Q a W := by
  obtain ⟨dfs, hd⟩ : ∃ dfs, a.defers = dfs := ⟨_, rfl⟩
  rw [hd] at hK
  refine wp_region_held_drew (S := fun _ => True) (by kernel_rfl) trivial (fun hHeld => ?_)
  refine take1 0 165 (.string (ba x)) 190 (oi := { dst := some 165, op := Op.move (Operand.tmp 8), type := 9, pos := "files.go:283", after := #[], guard := none }) hn (by decide) rfl rfl (by kernel_rfl) (by kernel_rfl) (by kernel_rfl) hQ rfl (fun w _ => ex_move (.inl rfl) f8 w) (by assumption) ?_
  intro a hn hdf f165 ho
  replace f8 := (ho 8 (by decide)).trans f8
  replace f10 := (ho 10 (by decide)).trans f10
  replace f12 := (ho 12 (by decide)).trans f12
  replace f16 := (ho 16 (by decide)).trans f16
  replace f18 := (ho 18 (by decide)).trans f18
  replace f22 := (ho 22 (by decide)).trans f22
  replace f23 := (ho 23 (by decide)).trans f23
  replace hd := hdf.trans hd
  clear ho hdf
  refine take1 1 166 (.string (ba x)) 190 (oi := { dst := some 166, op := Op.move (Operand.tmp 10), type := 9, pos := "files.go:283", after := #[], guard := none }) hn (by decide) rfl rfl (by kernel_rfl) (by kernel_rfl) (by kernel_rfl) hQ rfl (fun w _ => ex_move (.inl rfl) f10 w) (by assumption) ?_
  intro a hn hdf f166 ho
  replace f8 := (ho 8 (by decide)).trans f8
  replace f10 := (ho 10 (by decide)).trans f10
  replace f12 := (ho 12 (by decide)).trans f12
  replace f16 := (ho 16 (by decide)).trans f16
  replace f18 := (ho 18 (by decide)).trans f18
  replace f22 := (ho 22 (by decide)).trans f22
  replace f23 := (ho 23 (by decide)).trans f23
  replace f165 := (ho 165 (by decide)).trans f165
  replace hd := hdf.trans hd
  clear ho hdf
  refine take1 2 167 (.bool true) 190 (oi := { dst := some 167, op := Op.binOp BinOp.eql 9 (Operand.tmp 165) (Operand.tmp 166) 9, type := 4, pos := "files.go:283", after := #[{ on := 0, ground := Ground.data }, { on := 1, ground := Ground.data }], guard := none }) hn (by decide) rfl rfl (by kernel_rfl) (by kernel_rfl) (by kernel_rfl) hQ rfl (fun w hS => by
    simp only [execOp]
    rw [f165, f166]
    go_simp
    all_goals with_reducible rfl) (by assumption) ?_
  intro a hn hdf f167 ho
  replace f8 := (ho 8 (by decide)).trans f8
  replace f10 := (ho 10 (by decide)).trans f10
  replace f12 := (ho 12 (by decide)).trans f12
  replace f16 := (ho 16 (by decide)).trans f16
  replace f18 := (ho 18 (by decide)).trans f18
  replace f22 := (ho 22 (by decide)).trans f22
  replace f23 := (ho 23 (by decide)).trans f23
  replace f165 := (ho 165 (by decide)).trans f165
  replace f166 := (ho 166 (by decide)).trans f166
  replace hd := hdf.trans hd
  clear ho hdf
  refine take1 3 168 (.bool true) 190 (oi := { dst := some 168, op := Op.move (Operand.tmp 167), type := 4, pos := "files.go:283", after := #[{ on := 2, ground := Ground.data }], guard := none }) hn (by decide) rfl rfl (by kernel_rfl) (by kernel_rfl) (by kernel_rfl) hQ rfl (fun w _ => ex_move (.inl rfl) f167 w) (by assumption) ?_
  intro a hn hdf f168 ho
  replace f8 := (ho 8 (by decide)).trans f8
  replace f10 := (ho 10 (by decide)).trans f10
  replace f12 := (ho 12 (by decide)).trans f12
  replace f16 := (ho 16 (by decide)).trans f16
  replace f18 := (ho 18 (by decide)).trans f18
  replace f22 := (ho 22 (by decide)).trans f22
  replace f23 := (ho 23 (by decide)).trans f23
  replace f165 := (ho 165 (by decide)).trans f165
  replace f166 := (ho 166 (by decide)).trans f166
  replace f167 := (ho 167 (by decide)).trans f167
  replace hd := hdf.trans hd
  clear ho hdf
  refine take1 4 169 (.string (ba x)) 190 (oi := { dst := some 169, op := Op.move (Operand.tmp 8), type := 9, pos := "files.go:283", after := #[{ on := 3, ground := Ground.guard }], guard := some (3, true) }) hn (by decide) rfl rfl (by kernel_rfl) (by kernel_rfl) (by kernel_rfl) hQ (wants rfl rfl 190 hn (by decide) f168) (fun w _ => ex_move (.inl rfl) f8 w) (by assumption) ?_
  intro a hn hdf f169 ho
  replace f8 := (ho 8 (by decide)).trans f8
  replace f10 := (ho 10 (by decide)).trans f10
  replace f12 := (ho 12 (by decide)).trans f12
  replace f16 := (ho 16 (by decide)).trans f16
  replace f18 := (ho 18 (by decide)).trans f18
  replace f22 := (ho 22 (by decide)).trans f22
  replace f23 := (ho 23 (by decide)).trans f23
  replace f165 := (ho 165 (by decide)).trans f165
  replace f166 := (ho 166 (by decide)).trans f166
  replace f167 := (ho 167 (by decide)).trans f167
  replace f168 := (ho 168 (by decide)).trans f168
  replace hd := hdf.trans hd
  clear ho hdf
  refine take1 5 170 (.string (ba x)) 190 (oi := { dst := some 170, op := Op.move (Operand.tmp 12), type := 9, pos := "files.go:283", after := #[{ on := 3, ground := Ground.guard }], guard := some (3, true) }) hn (by decide) rfl rfl (by kernel_rfl) (by kernel_rfl) (by kernel_rfl) hQ (wants rfl rfl 190 hn (by decide) f168) (fun w _ => ex_move (.inl rfl) f12 w) (by assumption) ?_
  intro a hn hdf f170 ho
  replace f8 := (ho 8 (by decide)).trans f8
  replace f10 := (ho 10 (by decide)).trans f10
  replace f12 := (ho 12 (by decide)).trans f12
  replace f16 := (ho 16 (by decide)).trans f16
  replace f18 := (ho 18 (by decide)).trans f18
  replace f22 := (ho 22 (by decide)).trans f22
  replace f23 := (ho 23 (by decide)).trans f23
  replace f165 := (ho 165 (by decide)).trans f165
  replace f166 := (ho 166 (by decide)).trans f166
  replace f167 := (ho 167 (by decide)).trans f167
  replace f168 := (ho 168 (by decide)).trans f168
  replace f169 := (ho 169 (by decide)).trans f169
  replace hd := hdf.trans hd
  clear ho hdf
  refine take1 6 171 (.bool true) 190 (oi := { dst := some 171, op := Op.binOp BinOp.eql 9 (Operand.tmp 169) (Operand.tmp 170) 9, type := 4, pos := "files.go:283", after := #[{ on := 4, ground := Ground.data }, { on := 5, ground := Ground.data }, { on := 3, ground := Ground.guard }], guard := some (3, true) }) hn (by decide) rfl rfl (by kernel_rfl) (by kernel_rfl) (by kernel_rfl) hQ (wants rfl rfl 190 hn (by decide) f168) (fun w hS => by
    simp only [execOp]
    rw [f169, f170]
    go_simp
    all_goals with_reducible rfl) (by assumption) ?_
  intro a hn hdf f171 ho
  replace f8 := (ho 8 (by decide)).trans f8
  replace f10 := (ho 10 (by decide)).trans f10
  replace f12 := (ho 12 (by decide)).trans f12
  replace f16 := (ho 16 (by decide)).trans f16
  replace f18 := (ho 18 (by decide)).trans f18
  replace f22 := (ho 22 (by decide)).trans f22
  replace f23 := (ho 23 (by decide)).trans f23
  replace f165 := (ho 165 (by decide)).trans f165
  replace f166 := (ho 166 (by decide)).trans f166
  replace f167 := (ho 167 (by decide)).trans f167
  replace f168 := (ho 168 (by decide)).trans f168
  replace f169 := (ho 169 (by decide)).trans f169
  replace f170 := (ho 170 (by decide)).trans f170
  replace hd := hdf.trans hd
  clear ho hdf
  refine take1 7 172 (.bool true) 190 (oi := { dst := some 172, op := Op.pick (Operand.tmp 168) (Operand.tmp 171) (Operand.const (Value.bool false)), type := 4, pos := "files.go:283", after := #[{ on := 3, ground := Ground.data }, { on := 6, ground := Ground.data }], guard := none }) hn (by decide) rfl rfl (by kernel_rfl) (by kernel_rfl) (by kernel_rfl) hQ rfl (fun w _ => ex_pickT rfl f168 f171 w) (by assumption) ?_
  intro a hn hdf f172 ho
  replace f8 := (ho 8 (by decide)).trans f8
  replace f10 := (ho 10 (by decide)).trans f10
  replace f12 := (ho 12 (by decide)).trans f12
  replace f16 := (ho 16 (by decide)).trans f16
  replace f18 := (ho 18 (by decide)).trans f18
  replace f22 := (ho 22 (by decide)).trans f22
  replace f23 := (ho 23 (by decide)).trans f23
  replace f165 := (ho 165 (by decide)).trans f165
  replace f166 := (ho 166 (by decide)).trans f166
  replace f167 := (ho 167 (by decide)).trans f167
  replace f168 := (ho 168 (by decide)).trans f168
  replace f169 := (ho 169 (by decide)).trans f169
  replace f170 := (ho 170 (by decide)).trans f170
  replace f171 := (ho 171 (by decide)).trans f171
  replace hd := hdf.trans hd
  clear ho hdf
  refine take1 8 173 (.bool true) 190 (oi := { dst := some 173, op := Op.move (Operand.tmp 172), type := 4, pos := "files.go:283", after := #[{ on := 7, ground := Ground.data }, { on := 3, ground := Ground.chain }], guard := none }) hn (by decide) rfl rfl (by kernel_rfl) (by kernel_rfl) (by kernel_rfl) hQ rfl (fun w _ => ex_move (.inl rfl) f172 w) (by assumption) ?_
  intro a hn hdf f173 ho
  replace f8 := (ho 8 (by decide)).trans f8
  replace f10 := (ho 10 (by decide)).trans f10
  replace f12 := (ho 12 (by decide)).trans f12
  replace f16 := (ho 16 (by decide)).trans f16
  replace f18 := (ho 18 (by decide)).trans f18
  replace f22 := (ho 22 (by decide)).trans f22
  replace f23 := (ho 23 (by decide)).trans f23
  replace f165 := (ho 165 (by decide)).trans f165
  replace f166 := (ho 166 (by decide)).trans f166
  replace f167 := (ho 167 (by decide)).trans f167
  replace f168 := (ho 168 (by decide)).trans f168
  replace f169 := (ho 169 (by decide)).trans f169
  replace f170 := (ho 170 (by decide)).trans f170
  replace f171 := (ho 171 (by decide)).trans f171
  replace f172 := (ho 172 (by decide)).trans f172
  replace hd := hdf.trans hd
  clear ho hdf
  refine take1 9 174 (.int .i64 N) 190 (oi := { dst := some 174, op := Op.move (Operand.tmp 23), type := 3, pos := "files.go:283", after := #[{ on := 8, ground := Ground.guard }], guard := some (8, true) }) hn (by decide) rfl rfl (by kernel_rfl) (by kernel_rfl) (by kernel_rfl) hQ (wants rfl rfl 190 hn (by decide) f173) (fun w _ => ex_move (.inl rfl) f23 w) (by assumption) ?_
  intro a hn hdf f174 ho
  replace f8 := (ho 8 (by decide)).trans f8
  replace f10 := (ho 10 (by decide)).trans f10
  replace f12 := (ho 12 (by decide)).trans f12
  replace f16 := (ho 16 (by decide)).trans f16
  replace f18 := (ho 18 (by decide)).trans f18
  replace f22 := (ho 22 (by decide)).trans f22
  replace f23 := (ho 23 (by decide)).trans f23
  replace f165 := (ho 165 (by decide)).trans f165
  replace f166 := (ho 166 (by decide)).trans f166
  replace f167 := (ho 167 (by decide)).trans f167
  replace f168 := (ho 168 (by decide)).trans f168
  replace f169 := (ho 169 (by decide)).trans f169
  replace f170 := (ho 170 (by decide)).trans f170
  replace f171 := (ho 171 (by decide)).trans f171
  replace f172 := (ho 172 (by decide)).trans f172
  replace f173 := (ho 173 (by decide)).trans f173
  replace hd := hdf.trans hd
  clear ho hdf
  refine take1 10 175 (.slice p9 N c9) 190 (oi := { dst := some 175, op := Op.move (Operand.tmp 22), type := 41, pos := "files.go:283", after := #[{ on := 8, ground := Ground.guard }], guard := some (8, true) }) hn (by decide) rfl rfl (by kernel_rfl) (by kernel_rfl) (by kernel_rfl) hQ (wants rfl rfl 190 hn (by decide) f173) (fun w _ => ex_move (.inl rfl) f22 w) (by assumption) ?_
  intro a hn hdf f175 ho
  replace f8 := (ho 8 (by decide)).trans f8
  replace f10 := (ho 10 (by decide)).trans f10
  replace f12 := (ho 12 (by decide)).trans f12
  replace f16 := (ho 16 (by decide)).trans f16
  replace f18 := (ho 18 (by decide)).trans f18
  replace f22 := (ho 22 (by decide)).trans f22
  replace f23 := (ho 23 (by decide)).trans f23
  replace f165 := (ho 165 (by decide)).trans f165
  replace f166 := (ho 166 (by decide)).trans f166
  replace f167 := (ho 167 (by decide)).trans f167
  replace f168 := (ho 168 (by decide)).trans f168
  replace f169 := (ho 169 (by decide)).trans f169
  replace f170 := (ho 170 (by decide)).trans f170
  replace f171 := (ho 171 (by decide)).trans f171
  replace f172 := (ho 172 (by decide)).trans f172
  replace f173 := (ho 173 (by decide)).trans f173
  replace f174 := (ho 174 (by decide)).trans f174
  replace hd := hdf.trans hd
  clear ho hdf
  refine take1 11 176 (.int .i64 N) 190 (oi := { dst := some 176, op := Op.call { callee := Callee.builtin Builtin.len, args := #[Operand.tmp 175], argTypes := #[41] }, type := 3, pos := "files.go:283", after := #[{ on := 10, ground := Ground.data }, { on := 8, ground := Ground.guard }], guard := some (8, true) }) hn (by decide) rfl rfl (by kernel_rfl) (by kernel_rfl) (by kernel_rfl) hQ (wants rfl rfl 190 hn (by decide) f173) (fun w hS => by
    simp only [execOp, resolve, List.map_toArray, List.map_cons, List.map_nil]
    rw [f175]
    go_simp
    all_goals with_reducible rfl) (by assumption) ?_
  intro a hn hdf f176 ho
  replace f8 := (ho 8 (by decide)).trans f8
  replace f10 := (ho 10 (by decide)).trans f10
  replace f12 := (ho 12 (by decide)).trans f12
  replace f16 := (ho 16 (by decide)).trans f16
  replace f18 := (ho 18 (by decide)).trans f18
  replace f22 := (ho 22 (by decide)).trans f22
  replace f23 := (ho 23 (by decide)).trans f23
  replace f165 := (ho 165 (by decide)).trans f165
  replace f166 := (ho 166 (by decide)).trans f166
  replace f167 := (ho 167 (by decide)).trans f167
  replace f168 := (ho 168 (by decide)).trans f168
  replace f169 := (ho 169 (by decide)).trans f169
  replace f170 := (ho 170 (by decide)).trans f170
  replace f171 := (ho 171 (by decide)).trans f171
  replace f172 := (ho 172 (by decide)).trans f172
  replace f173 := (ho 173 (by decide)).trans f173
  replace f174 := (ho 174 (by decide)).trans f174
  replace f175 := (ho 175 (by decide)).trans f175
  replace hd := hdf.trans hd
  clear ho hdf
  refine take1 12 177 (.bool true) 190 (oi := { dst := some 177, op := Op.binOp BinOp.eql 3 (Operand.tmp 174) (Operand.tmp 176) 3, type := 4, pos := "files.go:283", after := #[{ on := 9, ground := Ground.data }, { on := 11, ground := Ground.data }, { on := 8, ground := Ground.guard }], guard := some (8, true) }) hn (by decide) rfl rfl (by kernel_rfl) (by kernel_rfl) (by kernel_rfl) hQ (wants rfl rfl 190 hn (by decide) f173) (fun w hS => by
    simp only [execOp]
    rw [f174, f176]
    go_simp
    all_goals with_reducible rfl) (by assumption) ?_
  intro a hn hdf f177 ho
  replace f8 := (ho 8 (by decide)).trans f8
  replace f10 := (ho 10 (by decide)).trans f10
  replace f12 := (ho 12 (by decide)).trans f12
  replace f16 := (ho 16 (by decide)).trans f16
  replace f18 := (ho 18 (by decide)).trans f18
  replace f22 := (ho 22 (by decide)).trans f22
  replace f23 := (ho 23 (by decide)).trans f23
  replace f165 := (ho 165 (by decide)).trans f165
  replace f166 := (ho 166 (by decide)).trans f166
  replace f167 := (ho 167 (by decide)).trans f167
  replace f168 := (ho 168 (by decide)).trans f168
  replace f169 := (ho 169 (by decide)).trans f169
  replace f170 := (ho 170 (by decide)).trans f170
  replace f171 := (ho 171 (by decide)).trans f171
  replace f172 := (ho 172 (by decide)).trans f172
  replace f173 := (ho 173 (by decide)).trans f173
  replace f174 := (ho 174 (by decide)).trans f174
  replace f175 := (ho 175 (by decide)).trans f175
  replace f176 := (ho 176 (by decide)).trans f176
  replace hd := hdf.trans hd
  clear ho hdf
  refine take1 13 178 (.bool true) 190 (oi := { dst := some 178, op := Op.pick (Operand.tmp 173) (Operand.tmp 177) (Operand.const (Value.bool false)), type := 4, pos := "files.go:283", after := #[{ on := 8, ground := Ground.data }, { on := 12, ground := Ground.data }], guard := none }) hn (by decide) rfl rfl (by kernel_rfl) (by kernel_rfl) (by kernel_rfl) hQ rfl (fun w _ => ex_pickT rfl f173 f177 w) (by assumption) ?_
  intro a hn hdf f178 ho
  replace f8 := (ho 8 (by decide)).trans f8
  replace f10 := (ho 10 (by decide)).trans f10
  replace f12 := (ho 12 (by decide)).trans f12
  replace f16 := (ho 16 (by decide)).trans f16
  replace f18 := (ho 18 (by decide)).trans f18
  replace f22 := (ho 22 (by decide)).trans f22
  replace f23 := (ho 23 (by decide)).trans f23
  replace f165 := (ho 165 (by decide)).trans f165
  replace f166 := (ho 166 (by decide)).trans f166
  replace f167 := (ho 167 (by decide)).trans f167
  replace f168 := (ho 168 (by decide)).trans f168
  replace f169 := (ho 169 (by decide)).trans f169
  replace f170 := (ho 170 (by decide)).trans f170
  replace f171 := (ho 171 (by decide)).trans f171
  replace f172 := (ho 172 (by decide)).trans f172
  replace f173 := (ho 173 (by decide)).trans f173
  replace f174 := (ho 174 (by decide)).trans f174
  replace f175 := (ho 175 (by decide)).trans f175
  replace f176 := (ho 176 (by decide)).trans f176
  replace f177 := (ho 177 (by decide)).trans f177
  replace hd := hdf.trans hd
  clear ho hdf
  refine take1 14 179 (.bool true) 190 (oi := { dst := some 179, op := Op.move (Operand.tmp 178), type := 4, pos := "files.go:283", after := #[{ on := 13, ground := Ground.data }, { on := 8, ground := Ground.chain }], guard := none }) hn (by decide) rfl rfl (by kernel_rfl) (by kernel_rfl) (by kernel_rfl) hQ rfl (fun w _ => ex_move (.inl rfl) f178 w) (by assumption) ?_
  intro a hn hdf f179 ho
  replace f8 := (ho 8 (by decide)).trans f8
  replace f10 := (ho 10 (by decide)).trans f10
  replace f12 := (ho 12 (by decide)).trans f12
  replace f16 := (ho 16 (by decide)).trans f16
  replace f18 := (ho 18 (by decide)).trans f18
  replace f22 := (ho 22 (by decide)).trans f22
  replace f23 := (ho 23 (by decide)).trans f23
  replace f165 := (ho 165 (by decide)).trans f165
  replace f166 := (ho 166 (by decide)).trans f166
  replace f167 := (ho 167 (by decide)).trans f167
  replace f168 := (ho 168 (by decide)).trans f168
  replace f169 := (ho 169 (by decide)).trans f169
  replace f170 := (ho 170 (by decide)).trans f170
  replace f171 := (ho 171 (by decide)).trans f171
  replace f172 := (ho 172 (by decide)).trans f172
  replace f173 := (ho 173 (by decide)).trans f173
  replace f174 := (ho 174 (by decide)).trans f174
  replace f175 := (ho 175 (by decide)).trans f175
  replace f176 := (ho 176 (by decide)).trans f176
  replace f177 := (ho 177 (by decide)).trans f177
  replace f178 := (ho 178 (by decide)).trans f178
  replace hd := hdf.trans hd
  clear ho hdf
  refine take1 15 180 (.string (ba n)) 190 (oi := { dst := some 180, op := Op.move (Operand.tmp 16), type := 9, pos := "files.go:283", after := #[{ on := 14, ground := Ground.guard }], guard := some (14, true) }) hn (by decide) rfl rfl (by kernel_rfl) (by kernel_rfl) (by kernel_rfl) hQ (wants rfl rfl 190 hn (by decide) f179) (fun w _ => ex_move (.inl rfl) f16 w) (by assumption) ?_
  intro a hn hdf f180 ho
  replace f8 := (ho 8 (by decide)).trans f8
  replace f10 := (ho 10 (by decide)).trans f10
  replace f12 := (ho 12 (by decide)).trans f12
  replace f16 := (ho 16 (by decide)).trans f16
  replace f18 := (ho 18 (by decide)).trans f18
  replace f22 := (ho 22 (by decide)).trans f22
  replace f23 := (ho 23 (by decide)).trans f23
  replace f165 := (ho 165 (by decide)).trans f165
  replace f166 := (ho 166 (by decide)).trans f166
  replace f167 := (ho 167 (by decide)).trans f167
  replace f168 := (ho 168 (by decide)).trans f168
  replace f169 := (ho 169 (by decide)).trans f169
  replace f170 := (ho 170 (by decide)).trans f170
  replace f171 := (ho 171 (by decide)).trans f171
  replace f172 := (ho 172 (by decide)).trans f172
  replace f173 := (ho 173 (by decide)).trans f173
  replace f174 := (ho 174 (by decide)).trans f174
  replace f175 := (ho 175 (by decide)).trans f175
  replace f176 := (ho 176 (by decide)).trans f176
  replace f177 := (ho 177 (by decide)).trans f177
  replace f178 := (ho 178 (by decide)).trans f178
  replace f179 := (ho 179 (by decide)).trans f179
  replace hd := hdf.trans hd
  clear ho hdf
  refine take1 19 184 (.string (ba m)) 190 (oi := { dst := some 184, op := Op.move (Operand.tmp 18), type := 9, pos := "files.go:283", after := #[{ on := 14, ground := Ground.guard }], guard := some (14, true) }) hn (by decide) rfl rfl (by kernel_rfl) (by kernel_rfl) (by kernel_rfl) hQ (wants rfl rfl 190 hn (by decide) f179) (fun w _ => ex_move (.inl rfl) f18 w) (by assumption) ?_
  intro a hn hdf f184 ho
  replace f8 := (ho 8 (by decide)).trans f8
  replace f10 := (ho 10 (by decide)).trans f10
  replace f12 := (ho 12 (by decide)).trans f12
  replace f16 := (ho 16 (by decide)).trans f16
  replace f18 := (ho 18 (by decide)).trans f18
  replace f22 := (ho 22 (by decide)).trans f22
  replace f23 := (ho 23 (by decide)).trans f23
  replace f165 := (ho 165 (by decide)).trans f165
  replace f166 := (ho 166 (by decide)).trans f166
  replace f167 := (ho 167 (by decide)).trans f167
  replace f168 := (ho 168 (by decide)).trans f168
  replace f169 := (ho 169 (by decide)).trans f169
  replace f170 := (ho 170 (by decide)).trans f170
  replace f171 := (ho 171 (by decide)).trans f171
  replace f172 := (ho 172 (by decide)).trans f172
  replace f173 := (ho 173 (by decide)).trans f173
  replace f174 := (ho 174 (by decide)).trans f174
  replace f175 := (ho 175 (by decide)).trans f175
  replace f176 := (ho 176 (by decide)).trans f176
  replace f177 := (ho 177 (by decide)).trans f177
  replace f178 := (ho 178 (by decide)).trans f178
  replace f179 := (ho 179 (by decide)).trans f179
  replace f180 := (ho 180 (by decide)).trans f180
  replace hd := hdf.trans hd
  clear ho hdf
  refine wpAnyH_ready (rs := [16]) (by kernel_rfl) (by simp) (AllReadyH.cons (o := { dst := some 181, op := Op.call { callee := Callee.value (Operand.func 30), args := #[Operand.tmp 180, Operand.const (Value.int IntKind.u8 32)], argTypes := #[9, 5] }, type := 41, pos := "files.go:283", after := #[{ on := 15, ground := Ground.data }, { on := 14, ground := Ground.chain }, { on := 14, ground := Ground.guard }], guard := some (14, true) }) rfl (fun K hK' => ?_) AllReadyH.nil)
  rw [if_pos (wants rfl rfl 190 hn (by decide) f179)]
  unfold Oper.wp
  simp only [execOp, resolve, List.map_toArray, List.map_cons, List.map_nil, ev_func, ev_const, f180]
  go_simp
  refine Calls.mono (HN.out _ _ (.inl rfl)) ?_
  rintro e wa ⟨_, ga, ka, ca, rfl, rfl, hga, cA, hba⟩
  show K { tmps := a.tmps.setIfInBounds 181 (.slice (some ⟨ga, 0, none⟩) (ka + 1) ca), defers := dfs } _
  rw [putEq hd]
  refine hK'.out _ _ trivial (fun _ => ?_)
  clear hK' K
  refine wpAnyH_mono (S' := fun w' => w'.cell? ⟨ga, 0, none⟩ = some (.string (ba d))) (fun _ _ => trivial) _ _ _ _ ?_
  have hHeld : (fun w' : World => w'.cell? ⟨ga, 0, none⟩ = some (.string (ba d))) wa := cA
  obtain ⟨b, hb⟩ : ∃ b, b = a.put (some 181) (.slice (some ⟨ga, 0, none⟩) (ka + 1) ca) := ⟨_, rfl⟩
  rw [← hb]
  replace f8 : b.eval (.tmp 8) = .string (ba x) := by
    rw [hb]
    exact (ev_other (by decide)).trans f8
  replace f10 : b.eval (.tmp 10) = .string (ba x) := by
    rw [hb]
    exact (ev_other (by decide)).trans f10
  replace f12 : b.eval (.tmp 12) = .string (ba x) := by
    rw [hb]
    exact (ev_other (by decide)).trans f12
  replace f16 : b.eval (.tmp 16) = .string (ba n) := by
    rw [hb]
    exact (ev_other (by decide)).trans f16
  replace f18 : b.eval (.tmp 18) = .string (ba m) := by
    rw [hb]
    exact (ev_other (by decide)).trans f18
  replace f22 : b.eval (.tmp 22) = .slice p9 N c9 := by
    rw [hb]
    exact (ev_other (by decide)).trans f22
  replace f23 : b.eval (.tmp 23) = .int .i64 N := by
    rw [hb]
    exact (ev_other (by decide)).trans f23
  replace f165 : b.eval (.tmp 165) = .string (ba x) := by
    rw [hb]
    exact (ev_other (by decide)).trans f165
  replace f166 : b.eval (.tmp 166) = .string (ba x) := by
    rw [hb]
    exact (ev_other (by decide)).trans f166
  replace f167 : b.eval (.tmp 167) = .bool true := by
    rw [hb]
    exact (ev_other (by decide)).trans f167
  replace f168 : b.eval (.tmp 168) = .bool true := by
    rw [hb]
    exact (ev_other (by decide)).trans f168
  replace f169 : b.eval (.tmp 169) = .string (ba x) := by
    rw [hb]
    exact (ev_other (by decide)).trans f169
  replace f170 : b.eval (.tmp 170) = .string (ba x) := by
    rw [hb]
    exact (ev_other (by decide)).trans f170
  replace f171 : b.eval (.tmp 171) = .bool true := by
    rw [hb]
    exact (ev_other (by decide)).trans f171
  replace f172 : b.eval (.tmp 172) = .bool true := by
    rw [hb]
    exact (ev_other (by decide)).trans f172
  replace f173 : b.eval (.tmp 173) = .bool true := by
    rw [hb]
    exact (ev_other (by decide)).trans f173
  replace f174 : b.eval (.tmp 174) = .int .i64 N := by
    rw [hb]
    exact (ev_other (by decide)).trans f174
  replace f175 : b.eval (.tmp 175) = .slice p9 N c9 := by
    rw [hb]
    exact (ev_other (by decide)).trans f175
  replace f176 : b.eval (.tmp 176) = .int .i64 N := by
    rw [hb]
    exact (ev_other (by decide)).trans f176
  replace f177 : b.eval (.tmp 177) = .bool true := by
    rw [hb]
    exact (ev_other (by decide)).trans f177
  replace f178 : b.eval (.tmp 178) = .bool true := by
    rw [hb]
    exact (ev_other (by decide)).trans f178
  replace f179 : b.eval (.tmp 179) = .bool true := by
    rw [hb]
    exact (ev_other (by decide)).trans f179
  replace f180 : b.eval (.tmp 180) = .string (ba n) := by
    rw [hb]
    exact (ev_other (by decide)).trans f180
  replace f184 : b.eval (.tmp 184) = .string (ba m) := by
    rw [hb]
    exact (ev_other (by decide)).trans f184
  have f181 : b.eval (.tmp 181) = .slice (some ⟨ga, 0, none⟩) (ka + 1) ca := by
    rw [hb]
    exact ev_same (by rw [hn]; decide)
  replace hd : b.defers = dfs := by
    rw [hb]
    exact hd
  replace hn : b.tmps.size = 190 := by
    rw [hb]
    exact sz_put.trans hn
  clear hb
  clear a
  generalize b = a at *
  refine take1 17 182 (.pointer (some ⟨ga, 0, none⟩)) 190 (oi := { dst := some 182, op := Op.indexAddr 41 (Operand.tmp 181) (Operand.const (Value.int IntKind.i64 0)), type := 0, pos := "files.go:283", after := #[{ on := 16, ground := Ground.data }, { on := 14, ground := Ground.guard }], guard := some (14, true) }) hn (by decide) rfl rfl (by kernel_rfl) (by kernel_rfl) (by kernel_rfl) hQ (wants rfl rfl 190 hn (by decide) f179) (fun w hS => by
    simp only [execOp]
    rw [f181]
    go_simp
    all_goals with_reducible rfl) (by assumption) ?_
  intro a hn hdf f182 ho
  replace f8 := (ho 8 (by decide)).trans f8
  replace f10 := (ho 10 (by decide)).trans f10
  replace f12 := (ho 12 (by decide)).trans f12
  replace f16 := (ho 16 (by decide)).trans f16
  replace f18 := (ho 18 (by decide)).trans f18
  replace f22 := (ho 22 (by decide)).trans f22
  replace f23 := (ho 23 (by decide)).trans f23
  replace f165 := (ho 165 (by decide)).trans f165
  replace f166 := (ho 166 (by decide)).trans f166
  replace f167 := (ho 167 (by decide)).trans f167
  replace f168 := (ho 168 (by decide)).trans f168
  replace f169 := (ho 169 (by decide)).trans f169
  replace f170 := (ho 170 (by decide)).trans f170
  replace f171 := (ho 171 (by decide)).trans f171
  replace f172 := (ho 172 (by decide)).trans f172
  replace f173 := (ho 173 (by decide)).trans f173
  replace f174 := (ho 174 (by decide)).trans f174
  replace f175 := (ho 175 (by decide)).trans f175
  replace f176 := (ho 176 (by decide)).trans f176
  replace f177 := (ho 177 (by decide)).trans f177
  replace f178 := (ho 178 (by decide)).trans f178
  replace f179 := (ho 179 (by decide)).trans f179
  replace f180 := (ho 180 (by decide)).trans f180
  replace f181 := (ho 181 (by decide)).trans f181
  replace f184 := (ho 184 (by decide)).trans f184
  replace hd := hdf.trans hd
  clear ho hdf
  refine take1 18 183 (.string (ba d)) 190 (oi := { dst := some 183, op := Op.load 9 (Operand.tmp 182), type := 9, pos := "files.go:283", after := #[{ on := 17, ground := Ground.data }, { on := 14, ground := Ground.guard }], guard := some (14, true) }) hn (by decide) rfl rfl (by kernel_rfl) (by kernel_rfl) (by kernel_rfl) hQ (wants rfl rfl 190 hn (by decide) f179) (fun w hS => by
    simp only [execOp]
    rw [f182]
    have cS : w.cell? ⟨ga, 0, none⟩ = some (.string (ba d)) := hS
    go_simp
    all_goals with_reducible rfl) (by assumption) ?_
  intro a hn hdf f183 ho
  replace f8 := (ho 8 (by decide)).trans f8
  replace f10 := (ho 10 (by decide)).trans f10
  replace f12 := (ho 12 (by decide)).trans f12
  replace f16 := (ho 16 (by decide)).trans f16
  replace f18 := (ho 18 (by decide)).trans f18
  replace f22 := (ho 22 (by decide)).trans f22
  replace f23 := (ho 23 (by decide)).trans f23
  replace f165 := (ho 165 (by decide)).trans f165
  replace f166 := (ho 166 (by decide)).trans f166
  replace f167 := (ho 167 (by decide)).trans f167
  replace f168 := (ho 168 (by decide)).trans f168
  replace f169 := (ho 169 (by decide)).trans f169
  replace f170 := (ho 170 (by decide)).trans f170
  replace f171 := (ho 171 (by decide)).trans f171
  replace f172 := (ho 172 (by decide)).trans f172
  replace f173 := (ho 173 (by decide)).trans f173
  replace f174 := (ho 174 (by decide)).trans f174
  replace f175 := (ho 175 (by decide)).trans f175
  replace f176 := (ho 176 (by decide)).trans f176
  replace f177 := (ho 177 (by decide)).trans f177
  replace f178 := (ho 178 (by decide)).trans f178
  replace f179 := (ho 179 (by decide)).trans f179
  replace f180 := (ho 180 (by decide)).trans f180
  replace f181 := (ho 181 (by decide)).trans f181
  replace f182 := (ho 182 (by decide)).trans f182
  replace f184 := (ho 184 (by decide)).trans f184
  replace hd := hdf.trans hd
  clear ho hdf
  refine wpAnyH_ready (rs := [20]) (by kernel_rfl) (by simp) (AllReadyH.cons (o := { dst := some 185, op := Op.call { callee := Callee.value (Operand.func 30), args := #[Operand.tmp 184, Operand.const (Value.int IntKind.u8 32)], argTypes := #[9, 5] }, type := 41, pos := "files.go:283", after := #[{ on := 19, ground := Ground.data }, { on := 16, ground := Ground.chain }, { on := 14, ground := Ground.guard }], guard := some (14, true) }) rfl (fun K hK' => ?_) AllReadyH.nil)
  rw [if_pos (wants rfl rfl 190 hn (by decide) f179)]
  unfold Oper.wp
  simp only [execOp, resolve, List.map_toArray, List.map_cons, List.map_nil, ev_func, ev_const, f184]
  go_simp
  refine Calls.mono (HN.out _ _ (.inr rfl)) ?_
  rintro e wb ⟨_, gb, kb, cb, rfl, rfl, hgb, cB, hbb⟩
  show K { tmps := a.tmps.setIfInBounds 185 (.slice (some ⟨gb, 0, none⟩) (kb + 1) cb), defers := dfs } _
  rw [putEq hd]
  refine hK'.out _ _ ((cell_below2 hbb hga).trans cA) (fun _ => ?_)
  clear hK' K
  refine wpAnyH_mono (S' := fun w' => w'.cell? ⟨ga, 0, none⟩ = some (.string (ba d)) ∧ w'.cell? ⟨gb, 0, none⟩ = some (.string (ba d))) (fun _ hh => hh.1) _ _ _ _ ?_
  have hHeld : (fun w' : World => w'.cell? ⟨ga, 0, none⟩ = some (.string (ba d)) ∧ w'.cell? ⟨gb, 0, none⟩ = some (.string (ba d))) wb := ⟨(cell_below2 hbb hga).trans cA, cB⟩
  obtain ⟨b, hb⟩ : ∃ b, b = a.put (some 185) (.slice (some ⟨gb, 0, none⟩) (kb + 1) cb) := ⟨_, rfl⟩
  rw [← hb]
  replace f8 : b.eval (.tmp 8) = .string (ba x) := by
    rw [hb]
    exact (ev_other (by decide)).trans f8
  replace f10 : b.eval (.tmp 10) = .string (ba x) := by
    rw [hb]
    exact (ev_other (by decide)).trans f10
  replace f12 : b.eval (.tmp 12) = .string (ba x) := by
    rw [hb]
    exact (ev_other (by decide)).trans f12
  replace f16 : b.eval (.tmp 16) = .string (ba n) := by
    rw [hb]
    exact (ev_other (by decide)).trans f16
  replace f18 : b.eval (.tmp 18) = .string (ba m) := by
    rw [hb]
    exact (ev_other (by decide)).trans f18
  replace f22 : b.eval (.tmp 22) = .slice p9 N c9 := by
    rw [hb]
    exact (ev_other (by decide)).trans f22
  replace f23 : b.eval (.tmp 23) = .int .i64 N := by
    rw [hb]
    exact (ev_other (by decide)).trans f23
  replace f165 : b.eval (.tmp 165) = .string (ba x) := by
    rw [hb]
    exact (ev_other (by decide)).trans f165
  replace f166 : b.eval (.tmp 166) = .string (ba x) := by
    rw [hb]
    exact (ev_other (by decide)).trans f166
  replace f167 : b.eval (.tmp 167) = .bool true := by
    rw [hb]
    exact (ev_other (by decide)).trans f167
  replace f168 : b.eval (.tmp 168) = .bool true := by
    rw [hb]
    exact (ev_other (by decide)).trans f168
  replace f169 : b.eval (.tmp 169) = .string (ba x) := by
    rw [hb]
    exact (ev_other (by decide)).trans f169
  replace f170 : b.eval (.tmp 170) = .string (ba x) := by
    rw [hb]
    exact (ev_other (by decide)).trans f170
  replace f171 : b.eval (.tmp 171) = .bool true := by
    rw [hb]
    exact (ev_other (by decide)).trans f171
  replace f172 : b.eval (.tmp 172) = .bool true := by
    rw [hb]
    exact (ev_other (by decide)).trans f172
  replace f173 : b.eval (.tmp 173) = .bool true := by
    rw [hb]
    exact (ev_other (by decide)).trans f173
  replace f174 : b.eval (.tmp 174) = .int .i64 N := by
    rw [hb]
    exact (ev_other (by decide)).trans f174
  replace f175 : b.eval (.tmp 175) = .slice p9 N c9 := by
    rw [hb]
    exact (ev_other (by decide)).trans f175
  replace f176 : b.eval (.tmp 176) = .int .i64 N := by
    rw [hb]
    exact (ev_other (by decide)).trans f176
  replace f177 : b.eval (.tmp 177) = .bool true := by
    rw [hb]
    exact (ev_other (by decide)).trans f177
  replace f178 : b.eval (.tmp 178) = .bool true := by
    rw [hb]
    exact (ev_other (by decide)).trans f178
  replace f179 : b.eval (.tmp 179) = .bool true := by
    rw [hb]
    exact (ev_other (by decide)).trans f179
  replace f180 : b.eval (.tmp 180) = .string (ba n) := by
    rw [hb]
    exact (ev_other (by decide)).trans f180
  replace f181 : b.eval (.tmp 181) = .slice (some ⟨ga, 0, none⟩) (ka + 1) ca := by
    rw [hb]
    exact (ev_other (by decide)).trans f181
  replace f182 : b.eval (.tmp 182) = .pointer (some ⟨ga, 0, none⟩) := by
    rw [hb]
    exact (ev_other (by decide)).trans f182
  replace f183 : b.eval (.tmp 183) = .string (ba d) := by
    rw [hb]
    exact (ev_other (by decide)).trans f183
  replace f184 : b.eval (.tmp 184) = .string (ba m) := by
    rw [hb]
    exact (ev_other (by decide)).trans f184
  have f185 : b.eval (.tmp 185) = .slice (some ⟨gb, 0, none⟩) (kb + 1) cb := by
    rw [hb]
    exact ev_same (by rw [hn]; decide)
  replace hd : b.defers = dfs := by
    rw [hb]
    exact hd
  replace hn : b.tmps.size = 190 := by
    rw [hb]
    exact sz_put.trans hn
  clear hb
  clear a
  generalize b = a at *
  refine take1 21 186 (.pointer (some ⟨gb, 0, none⟩)) 190 (oi := { dst := some 186, op := Op.indexAddr 41 (Operand.tmp 185) (Operand.const (Value.int IntKind.i64 0)), type := 0, pos := "files.go:283", after := #[{ on := 20, ground := Ground.data }, { on := 14, ground := Ground.guard }], guard := some (14, true) }) hn (by decide) rfl rfl (by kernel_rfl) (by kernel_rfl) (by kernel_rfl) hQ (wants rfl rfl 190 hn (by decide) f179) (fun w hS => by
    simp only [execOp]
    rw [f185]
    go_simp
    all_goals with_reducible rfl) (by assumption) ?_
  intro a hn hdf f186 ho
  replace f8 := (ho 8 (by decide)).trans f8
  replace f10 := (ho 10 (by decide)).trans f10
  replace f12 := (ho 12 (by decide)).trans f12
  replace f16 := (ho 16 (by decide)).trans f16
  replace f18 := (ho 18 (by decide)).trans f18
  replace f22 := (ho 22 (by decide)).trans f22
  replace f23 := (ho 23 (by decide)).trans f23
  replace f165 := (ho 165 (by decide)).trans f165
  replace f166 := (ho 166 (by decide)).trans f166
  replace f167 := (ho 167 (by decide)).trans f167
  replace f168 := (ho 168 (by decide)).trans f168
  replace f169 := (ho 169 (by decide)).trans f169
  replace f170 := (ho 170 (by decide)).trans f170
  replace f171 := (ho 171 (by decide)).trans f171
  replace f172 := (ho 172 (by decide)).trans f172
  replace f173 := (ho 173 (by decide)).trans f173
  replace f174 := (ho 174 (by decide)).trans f174
  replace f175 := (ho 175 (by decide)).trans f175
  replace f176 := (ho 176 (by decide)).trans f176
  replace f177 := (ho 177 (by decide)).trans f177
  replace f178 := (ho 178 (by decide)).trans f178
  replace f179 := (ho 179 (by decide)).trans f179
  replace f180 := (ho 180 (by decide)).trans f180
  replace f181 := (ho 181 (by decide)).trans f181
  replace f182 := (ho 182 (by decide)).trans f182
  replace f183 := (ho 183 (by decide)).trans f183
  replace f184 := (ho 184 (by decide)).trans f184
  replace f185 := (ho 185 (by decide)).trans f185
  replace hd := hdf.trans hd
  clear ho hdf
  refine take1 22 187 (.string (ba d)) 190 (oi := { dst := some 187, op := Op.load 9 (Operand.tmp 186), type := 9, pos := "files.go:283", after := #[{ on := 21, ground := Ground.data }, { on := 14, ground := Ground.guard }], guard := some (14, true) }) hn (by decide) rfl rfl (by kernel_rfl) (by kernel_rfl) (by kernel_rfl) hQ (wants rfl rfl 190 hn (by decide) f179) (fun w hS => by
    simp only [execOp]
    rw [f186]
    have cS : w.cell? ⟨gb, 0, none⟩ = some (.string (ba d)) := hS.2
    go_simp
    all_goals with_reducible rfl) (by assumption) ?_
  intro a hn hdf f187 ho
  replace f8 := (ho 8 (by decide)).trans f8
  replace f10 := (ho 10 (by decide)).trans f10
  replace f12 := (ho 12 (by decide)).trans f12
  replace f16 := (ho 16 (by decide)).trans f16
  replace f18 := (ho 18 (by decide)).trans f18
  replace f22 := (ho 22 (by decide)).trans f22
  replace f23 := (ho 23 (by decide)).trans f23
  replace f165 := (ho 165 (by decide)).trans f165
  replace f166 := (ho 166 (by decide)).trans f166
  replace f167 := (ho 167 (by decide)).trans f167
  replace f168 := (ho 168 (by decide)).trans f168
  replace f169 := (ho 169 (by decide)).trans f169
  replace f170 := (ho 170 (by decide)).trans f170
  replace f171 := (ho 171 (by decide)).trans f171
  replace f172 := (ho 172 (by decide)).trans f172
  replace f173 := (ho 173 (by decide)).trans f173
  replace f174 := (ho 174 (by decide)).trans f174
  replace f175 := (ho 175 (by decide)).trans f175
  replace f176 := (ho 176 (by decide)).trans f176
  replace f177 := (ho 177 (by decide)).trans f177
  replace f178 := (ho 178 (by decide)).trans f178
  replace f179 := (ho 179 (by decide)).trans f179
  replace f180 := (ho 180 (by decide)).trans f180
  replace f181 := (ho 181 (by decide)).trans f181
  replace f182 := (ho 182 (by decide)).trans f182
  replace f183 := (ho 183 (by decide)).trans f183
  replace f184 := (ho 184 (by decide)).trans f184
  replace f185 := (ho 185 (by decide)).trans f185
  replace f186 := (ho 186 (by decide)).trans f186
  replace hd := hdf.trans hd
  clear ho hdf
  refine take1 23 188 (.bool true) 190 (oi := { dst := some 188, op := Op.binOp BinOp.eql 9 (Operand.tmp 183) (Operand.tmp 187) 9, type := 4, pos := "files.go:283", after := #[{ on := 18, ground := Ground.data }, { on := 22, ground := Ground.data }, { on := 14, ground := Ground.guard }], guard := some (14, true) }) hn (by decide) rfl rfl (by kernel_rfl) (by kernel_rfl) (by kernel_rfl) hQ (wants rfl rfl 190 hn (by decide) f179) (fun w hS => by
    simp only [execOp]
    rw [f183, f187]
    go_simp
    all_goals with_reducible rfl) (by assumption) ?_
  intro a hn hdf f188 ho
  replace f8 := (ho 8 (by decide)).trans f8
  replace f10 := (ho 10 (by decide)).trans f10
  replace f12 := (ho 12 (by decide)).trans f12
  replace f16 := (ho 16 (by decide)).trans f16
  replace f18 := (ho 18 (by decide)).trans f18
  replace f22 := (ho 22 (by decide)).trans f22
  replace f23 := (ho 23 (by decide)).trans f23
  replace f165 := (ho 165 (by decide)).trans f165
  replace f166 := (ho 166 (by decide)).trans f166
  replace f167 := (ho 167 (by decide)).trans f167
  replace f168 := (ho 168 (by decide)).trans f168
  replace f169 := (ho 169 (by decide)).trans f169
  replace f170 := (ho 170 (by decide)).trans f170
  replace f171 := (ho 171 (by decide)).trans f171
  replace f172 := (ho 172 (by decide)).trans f172
  replace f173 := (ho 173 (by decide)).trans f173
  replace f174 := (ho 174 (by decide)).trans f174
  replace f175 := (ho 175 (by decide)).trans f175
  replace f176 := (ho 176 (by decide)).trans f176
  replace f177 := (ho 177 (by decide)).trans f177
  replace f178 := (ho 178 (by decide)).trans f178
  replace f179 := (ho 179 (by decide)).trans f179
  replace f180 := (ho 180 (by decide)).trans f180
  replace f181 := (ho 181 (by decide)).trans f181
  replace f182 := (ho 182 (by decide)).trans f182
  replace f183 := (ho 183 (by decide)).trans f183
  replace f184 := (ho 184 (by decide)).trans f184
  replace f185 := (ho 185 (by decide)).trans f185
  replace f186 := (ho 186 (by decide)).trans f186
  replace f187 := (ho 187 (by decide)).trans f187
  replace hd := hdf.trans hd
  clear ho hdf
  refine take1 24 189 (.bool true) 190 (oi := { dst := some 189, op := Op.pick (Operand.tmp 179) (Operand.tmp 188) (Operand.const (Value.bool false)), type := 4, pos := "files.go:283", after := #[{ on := 14, ground := Ground.data }, { on := 23, ground := Ground.data }], guard := none }) hn (by decide) rfl rfl (by kernel_rfl) (by kernel_rfl) (by kernel_rfl) hQ rfl (fun w _ => ex_pickT rfl f179 f188 w) (by assumption) ?_
  intro a hn hdf f189 ho
  replace f8 := (ho 8 (by decide)).trans f8
  replace f10 := (ho 10 (by decide)).trans f10
  replace f12 := (ho 12 (by decide)).trans f12
  replace f16 := (ho 16 (by decide)).trans f16
  replace f18 := (ho 18 (by decide)).trans f18
  replace f22 := (ho 22 (by decide)).trans f22
  replace f23 := (ho 23 (by decide)).trans f23
  replace f165 := (ho 165 (by decide)).trans f165
  replace f166 := (ho 166 (by decide)).trans f166
  replace f167 := (ho 167 (by decide)).trans f167
  replace f168 := (ho 168 (by decide)).trans f168
  replace f169 := (ho 169 (by decide)).trans f169
  replace f170 := (ho 170 (by decide)).trans f170
  replace f171 := (ho 171 (by decide)).trans f171
  replace f172 := (ho 172 (by decide)).trans f172
  replace f173 := (ho 173 (by decide)).trans f173
  replace f174 := (ho 174 (by decide)).trans f174
  replace f175 := (ho 175 (by decide)).trans f175
  replace f176 := (ho 176 (by decide)).trans f176
  replace f177 := (ho 177 (by decide)).trans f177
  replace f178 := (ho 178 (by decide)).trans f178
  replace f179 := (ho 179 (by decide)).trans f179
  replace f180 := (ho 180 (by decide)).trans f180
  replace f181 := (ho 181 (by decide)).trans f181
  replace f182 := (ho 182 (by decide)).trans f182
  replace f183 := (ho 183 (by decide)).trans f183
  replace f184 := (ho 184 (by decide)).trans f184
  replace f185 := (ho 185 (by decide)).trans f185
  replace f186 := (ho 186 (by decide)).trans f186
  replace f187 := (ho 187 (by decide)).trans f187
  replace f188 := (ho 188 (by decide)).trans f188
  replace hd := hdf.trans hd
  clear ho hdf
  refine take1 25 6 (.bool true) 190 (oi := { dst := some 6, op := Op.assign (Operand.tmp 189), type := 4, pos := "files.go:283", after := #[{ on := 24, ground := Ground.data }, { on := 20, ground := Ground.chain }, { on := 0, ground := Ground.phase }, { on := 1, ground := Ground.phase }, { on := 2, ground := Ground.phase }, { on := 3, ground := Ground.phase }, { on := 4, ground := Ground.phase }, { on := 5, ground := Ground.phase }, { on := 6, ground := Ground.phase }, { on := 7, ground := Ground.phase }, { on := 8, ground := Ground.phase }, { on := 9, ground := Ground.phase }, { on := 10, ground := Ground.phase }, { on := 11, ground := Ground.phase }, { on := 12, ground := Ground.phase }, { on := 13, ground := Ground.phase }, { on := 14, ground := Ground.phase }, { on := 15, ground := Ground.phase }, { on := 16, ground := Ground.phase }, { on := 17, ground := Ground.phase }, { on := 18, ground := Ground.phase }, { on := 19, ground := Ground.phase }, { on := 20, ground := Ground.phase }, { on := 21, ground := Ground.phase }, { on := 22, ground := Ground.phase }, { on := 23, ground := Ground.phase }, { on := 24, ground := Ground.phase }], guard := none }) hn (by decide) rfl rfl (by kernel_rfl) (by kernel_rfl) (by kernel_rfl) hQ rfl (fun w _ => ex_move (.inr rfl) f189 w) (by assumption) ?_
  intro a hn hdf f6 ho
  replace f8 := (ho 8 (by decide)).trans f8
  replace f10 := (ho 10 (by decide)).trans f10
  replace f12 := (ho 12 (by decide)).trans f12
  replace f16 := (ho 16 (by decide)).trans f16
  replace f18 := (ho 18 (by decide)).trans f18
  replace f22 := (ho 22 (by decide)).trans f22
  replace f23 := (ho 23 (by decide)).trans f23
  replace f165 := (ho 165 (by decide)).trans f165
  replace f166 := (ho 166 (by decide)).trans f166
  replace f167 := (ho 167 (by decide)).trans f167
  replace f168 := (ho 168 (by decide)).trans f168
  replace f169 := (ho 169 (by decide)).trans f169
  replace f170 := (ho 170 (by decide)).trans f170
  replace f171 := (ho 171 (by decide)).trans f171
  replace f172 := (ho 172 (by decide)).trans f172
  replace f173 := (ho 173 (by decide)).trans f173
  replace f174 := (ho 174 (by decide)).trans f174
  replace f175 := (ho 175 (by decide)).trans f175
  replace f176 := (ho 176 (by decide)).trans f176
  replace f177 := (ho 177 (by decide)).trans f177
  replace f178 := (ho 178 (by decide)).trans f178
  replace f179 := (ho 179 (by decide)).trans f179
  replace f180 := (ho 180 (by decide)).trans f180
  replace f181 := (ho 181 (by decide)).trans f181
  replace f182 := (ho 182 (by decide)).trans f182
  replace f183 := (ho 183 (by decide)).trans f183
  replace f184 := (ho 184 (by decide)).trans f184
  replace f185 := (ho 185 (by decide)).trans f185
  replace f186 := (ho 186 (by decide)).trans f186
  replace f187 := (ho 187 (by decide)).trans f187
  replace f188 := (ho 188 (by decide)).trans f188
  replace f189 := (ho 189 (by decide)).trans f189
  replace hd := hdf.trans hd
  clear ho hdf
  exact wpAnyH_done (by kernel_rfl) (hK _ _ hn hd f6 (below_then (below_then (below_draws (Below.refl _ W) 1) hba) hbb)) _
end Go.Proofs.YtigcogfjclohjaaGreatDoor
