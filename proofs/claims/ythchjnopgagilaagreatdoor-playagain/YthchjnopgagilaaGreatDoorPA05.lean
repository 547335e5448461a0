import Derived.Shelf.Strings.Split
import Derived.Shelf.Strings.SplitShaped
import Derived.Test.YthchjnopgagilaaGreatDoorPA04
namespace Go.Proofs
open Go.Shelf
def Tryz.lays146_ren : Go.Shelf.Ren := ⟨fun | 146 => 314 | 221 => 347 | 268 => 368 | 138 => 369 | 143 => 350 | 195 => 376 | 197 => 370 | 218 => 377 | 219 => 339 | 260 => 378 | 217 => 356 | 225 => 357 | 224 => 358 | 267 => 359 | 266 => 371 | 314 => 372 | n => n,fun | 9 => 9 | 31 => 45 | 3 => 3 | 4 => 4 | 0 => 0 | 105 => 420 | 21 => 21 | 5 => 5 | 46 => 267 | 119 => 433 | 139 => 436 | 138 => 435 | 146 => 404 | 51 => 341 | n => n,fun | 1 => 14 | 3 => 19 | 4 => 20 | n => n⟩
theorem Tryz.lays146 : Go.Proofs.Lays.n146 Tryz.prog Tryz.lays146_ren := {
 mixed := by kernel_rfl
 f138 := Tryz.func369.trans (congrArg some (by kernel_rfl))
 f143 := Tryz.func350.trans (congrArg some (by kernel_rfl))
 f146 := Tryz.func314.trans (congrArg some (by kernel_rfl))
 f195 := Tryz.func376.trans (congrArg some (by kernel_rfl))
 f197 := Tryz.func370.trans (congrArg some (by kernel_rfl))
 f217 := Tryz.func356.trans (congrArg some (by kernel_rfl))
 f218 := Tryz.func377.trans (congrArg some (by kernel_rfl))
 f219 := Tryz.func339.trans (congrArg some (by kernel_rfl))
 f221 := Tryz.func347.trans (congrArg some (by kernel_rfl))
 f224 := Tryz.func358.trans (congrArg some (by kernel_rfl))
 f225 := Tryz.func357.trans (congrArg some (by kernel_rfl))
 f260 := Tryz.func378.trans (congrArg some (by kernel_rfl))
 f266 := Tryz.func371.trans (congrArg some (by kernel_rfl))
 f267 := Tryz.func359.trans (congrArg some (by kernel_rfl))
 f268 := Tryz.func368.trans (congrArg some (by kernel_rfl))
 f314 := Tryz.func372.trans (congrArg some (by kernel_rfl))
 t0 := Tryz.underlying0
 a0 := Tryz.isAgg0
 z0 := Tryz.sizeOf0
 v0 := Tryz.zeroValue0
 t3 := Tryz.underlying3
 a3 := Tryz.isAgg3
 z3 := Tryz.sizeOf3
 v3 := Tryz.zeroValue3
 t4 := Tryz.underlying4
 a4 := Tryz.isAgg4
 z4 := Tryz.sizeOf4
 v4 := Tryz.zeroValue4
 t5 := Tryz.underlying5
 a5 := Tryz.isAgg5
 z5 := Tryz.sizeOf5
 v5 := Tryz.zeroValue5
 t9 := Tryz.underlying9
 a9 := Tryz.isAgg9
 z9 := Tryz.sizeOf9
 v9 := Tryz.zeroValue9
 t21 := Tryz.underlying21
 a21 := Tryz.isAgg21
 z21 := Tryz.sizeOf21
 v21 := Tryz.zeroValue21
 t31 := Tryz.underlying45
 a31 := Tryz.isAgg45
 z31 := Tryz.sizeOf45
 v31 := Tryz.zeroValue45
 t46 := Tryz.underlying267
 a46 := Tryz.isAgg267
 z46 := Tryz.sizeOf267
 v46 := Tryz.zeroValue267
 t51 := Tryz.underlying341
 a51 := Tryz.isAgg341
 z51 := Tryz.sizeOf341
 v51 := Tryz.zeroValue341
 t105 := Tryz.underlying420
 a105 := Tryz.isAgg420
 z105 := Tryz.sizeOf420
 v105 := Tryz.zeroValue420
 t119 := Tryz.underlying433
 a119 := Tryz.isAgg433
 z119 := Tryz.sizeOf433
 t138 := Tryz.underlying435
 a138 := Tryz.isAgg435
 z138 := Tryz.sizeOf435
 v138 := Tryz.zeroValue435
 t139 := Tryz.underlying436
 a139 := Tryz.isAgg436
 z139 := Tryz.sizeOf436
 v139 := Tryz.zeroValue436
 t146 := Tryz.underlying404
 a146 := Tryz.isAgg404
 z146 := Tryz.sizeOf404
 v146 := Tryz.zeroValue404
 g1 := by kernel_rfl
 g3 := by kernel_rfl
 g4 := by kernel_rfl }
open Go.RowKit Go.Lib in
theorem Tryz.strings_Split (s sep : ByteArray) (m : Int) (w : World) (hs : s.size < 4294967281) (hm : w.cell? ⟨14,0,none⟩ = some (.int .i64 m)) (h1 : 1 ≤ sep.size) :
  Calls Tryz.prog 314 #[.string s,.string sep] w fun e w' =>
   e = .returned (.slice (some ⟨w.heap.size,0,none⟩) (Lib.countB s sep + 1) (Lib.countB s sep + 1)) ∧ w' = w.alloc (.cells ((Lib.splitB sep 0 (Lib.countB s sep) s).map Value.string).toArray 9) := Any.strings_Split Tryz.lays146 (by kernel_rfl) s sep m w hs hm h1
end Go.Proofs
