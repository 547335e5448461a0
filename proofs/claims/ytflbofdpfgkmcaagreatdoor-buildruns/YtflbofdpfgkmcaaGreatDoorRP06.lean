import Derived.Shelf.Strings.Split
import Derived.Shelf.Strings.SplitShaped
import Derived.Test.YtflbofdpfgkmcaaGreatDoorRP05
namespace Go.Proofs
open Go.Shelf
def Tryz.lays146_ren : Go.Shelf.Ren := ⟨fun | 146 => 253 | 221 => 291 | 268 => 314 | 138 => 315 | 143 => 296 | 195 => 323 | 197 => 317 | 218 => 324 | 219 => 283 | 260 => 325 | 217 => 302 | 225 => 303 | 224 => 304 | 267 => 305 | 266 => 318 | 314 => 319 | n => n,fun | 9 => 9 | 31 => 45 | 3 => 3 | 4 => 4 | 0 => 0 | 105 => 370 | 21 => 21 | 5 => 5 | 46 => 228 | 119 => 383 | 139 => 386 | 138 => 385 | 146 => 353 | 51 => 291 | n => n,fun | 1 => 14 | 3 => 19 | 4 => 20 | n => n⟩
theorem Tryz.lays146 : Go.Proofs.Lays.n146 Tryz.prog Tryz.lays146_ren := {
 mixed := by kernel_rfl
 f138 := Tryz.func315.trans (congrArg some (by kernel_rfl))
 f143 := Tryz.func296.trans (congrArg some (by kernel_rfl))
 f146 := Tryz.func253.trans (congrArg some (by kernel_rfl))
 f195 := Tryz.func323.trans (congrArg some (by kernel_rfl))
 f197 := Tryz.func317.trans (congrArg some (by kernel_rfl))
 f217 := Tryz.func302.trans (congrArg some (by kernel_rfl))
 f218 := Tryz.func324.trans (congrArg some (by kernel_rfl))
 f219 := Tryz.func283.trans (congrArg some (by kernel_rfl))
 f221 := Tryz.func291.trans (congrArg some (by kernel_rfl))
 f224 := Tryz.func304.trans (congrArg some (by kernel_rfl))
 f225 := Tryz.func303.trans (congrArg some (by kernel_rfl))
 f260 := Tryz.func325.trans (congrArg some (by kernel_rfl))
 f266 := Tryz.func318.trans (congrArg some (by kernel_rfl))
 f267 := Tryz.func305.trans (congrArg some (by kernel_rfl))
 f268 := Tryz.func314.trans (congrArg some (by kernel_rfl))
 f314 := Tryz.func319.trans (congrArg some (by kernel_rfl))
 t0 := Tryz.underlying0
 a0 := Tryz.isAgg0
 z0 := Tryz.sizeOf0
 v0 := Tryz.zeroValue0
 t3 := Tryz.underlying3
 a3 := Tryz.isAgg3
 z3 := Tryz.sizeOf3
 v3 := Tryz.zeroValue3
 t4 := Tryz.underlying4
 a4 := Tryz.isAgg4
 z4 := Tryz.sizeOf4
 v4 := Tryz.zeroValue4
 t5 := Tryz.underlying5
 a5 := Tryz.isAgg5
 z5 := Tryz.sizeOf5
 v5 := Tryz.zeroValue5
 t9 := Tryz.underlying9
 a9 := Tryz.isAgg9
 z9 := Tryz.sizeOf9
 v9 := Tryz.zeroValue9
 t21 := Tryz.underlying21
 a21 := Tryz.isAgg21
 z21 := Tryz.sizeOf21
 v21 := Tryz.zeroValue21
 t31 := Tryz.underlying45
 a31 := Tryz.isAgg45
 z31 := Tryz.sizeOf45
 v31 := Tryz.zeroValue45
 t46 := Tryz.underlying228
 a46 := Tryz.isAgg228
 z46 := Tryz.sizeOf228
 v46 := Tryz.zeroValue228
 t51 := Tryz.underlying291
 a51 := Tryz.isAgg291
 z51 := Tryz.sizeOf291
 v51 := Tryz.zeroValue291
 t105 := Tryz.underlying370
 a105 := Tryz.isAgg370
 z105 := Tryz.sizeOf370
 v105 := Tryz.zeroValue370
 t119 := Tryz.underlying383
 a119 := Tryz.isAgg383
 z119 := Tryz.sizeOf383
 t138 := Tryz.underlying385
 a138 := Tryz.isAgg385
 z138 := Tryz.sizeOf385
 v138 := Tryz.zeroValue385
 t139 := Tryz.underlying386
 a139 := Tryz.isAgg386
 z139 := Tryz.sizeOf386
 v139 := Tryz.zeroValue386
 t146 := Tryz.underlying353
 a146 := Tryz.isAgg353
 z146 := Tryz.sizeOf353
 v146 := Tryz.zeroValue353
 g1 := by kernel_rfl
 g3 := by kernel_rfl
 g4 := by kernel_rfl }
open Go.RowKit Go.Lib in
theorem Tryz.strings_Split (s sep : ByteArray) (m : Int) (w : World) (hs : s.size < 4294967281) (hm : w.cell? ⟨14,0,none⟩ = some (.int .i64 m)) (h1 : 1 ≤ sep.size) :
  Calls Tryz.prog 253 #[.string s,.string sep] w fun e w' =>
   e = .returned (.slice (some ⟨w.heap.size,0,none⟩) (Lib.countB s sep + 1) (Lib.countB s sep + 1)) ∧ w' = w.alloc (.cells ((Lib.splitB sep 0 (Lib.countB s sep) s).map Value.string).toArray 9) := Any.strings_Split Tryz.lays146 (by kernel_rfl) s sep m w hs hm h1
end Go.Proofs
