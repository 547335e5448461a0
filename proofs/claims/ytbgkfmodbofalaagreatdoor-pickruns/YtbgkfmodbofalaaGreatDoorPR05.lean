import Derived.Shelf.Strings.Split
import Derived.Shelf.Strings.SplitShaped
import Derived.Test.YtbgkfmodbofalaaGreatDoorPR04
namespace Go.Proofs
open Go.Shelf
def Tryz.lays146_ren : Go.Shelf.Ren := ⟨fun | 146 => 288 | 221 => 321 | 268 => 343 | 138 => 344 | 143 => 325 | 195 => 352 | 197 => 346 | 218 => 353 | 219 => 313 | 260 => 354 | 217 => 331 | 225 => 332 | 224 => 333 | 267 => 334 | 266 => 347 | 314 => 348 | n => n,fun | 9 => 9 | 31 => 45 | 3 => 3 | 4 => 4 | 0 => 0 | 105 => 397 | 21 => 21 | 5 => 5 | 46 => 246 | 119 => 410 | 139 => 413 | 138 => 412 | 146 => 380 | 51 => 319 | n => n,fun | 1 => 14 | 3 => 19 | 4 => 20 | n => n⟩
theorem Tryz.lays146 : Go.Proofs.Lays.n146 Tryz.prog Tryz.lays146_ren := {
 mixed := by kernel_rfl
 f138 := Tryz.func344.trans (congrArg some (by kernel_rfl))
 f143 := Tryz.func325.trans (congrArg some (by kernel_rfl))
 f146 := Tryz.func288.trans (congrArg some (by kernel_rfl))
 f195 := Tryz.func352.trans (congrArg some (by kernel_rfl))
 f197 := Tryz.func346.trans (congrArg some (by kernel_rfl))
 f217 := Tryz.func331.trans (congrArg some (by kernel_rfl))
 f218 := Tryz.func353.trans (congrArg some (by kernel_rfl))
 f219 := Tryz.func313.trans (congrArg some (by kernel_rfl))
 f221 := Tryz.func321.trans (congrArg some (by kernel_rfl))
 f224 := Tryz.func333.trans (congrArg some (by kernel_rfl))
 f225 := Tryz.func332.trans (congrArg some (by kernel_rfl))
 f260 := Tryz.func354.trans (congrArg some (by kernel_rfl))
 f266 := Tryz.func347.trans (congrArg some (by kernel_rfl))
 f267 := Tryz.func334.trans (congrArg some (by kernel_rfl))
 f268 := Tryz.func343.trans (congrArg some (by kernel_rfl))
 f314 := Tryz.func348.trans (congrArg some (by kernel_rfl))
 t0 := Tryz.underlying0
 a0 := Tryz.isAgg0
 z0 := Tryz.sizeOf0
 v0 := Tryz.zeroValue0
 t3 := Tryz.underlying3
 a3 := Tryz.isAgg3
 z3 := Tryz.sizeOf3
 v3 := Tryz.zeroValue3
 t4 := Tryz.underlying4
 a4 := Tryz.isAgg4
 z4 := Tryz.sizeOf4
 v4 := Tryz.zeroValue4
 t5 := Tryz.underlying5
 a5 := Tryz.isAgg5
 z5 := Tryz.sizeOf5
 v5 := Tryz.zeroValue5
 t9 := Tryz.underlying9
 a9 := Tryz.isAgg9
 z9 := Tryz.sizeOf9
 v9 := Tryz.zeroValue9
 t21 := Tryz.underlying21
 a21 := Tryz.isAgg21
 z21 := Tryz.sizeOf21
 v21 := Tryz.zeroValue21
 t31 := Tryz.underlying45
 a31 := Tryz.isAgg45
 z31 := Tryz.sizeOf45
 v31 := Tryz.zeroValue45
 t46 := Tryz.underlying246
 a46 := Tryz.isAgg246
 z46 := Tryz.sizeOf246
 v46 := Tryz.zeroValue246
 t51 := Tryz.underlying319
 a51 := Tryz.isAgg319
 z51 := Tryz.sizeOf319
 v51 := Tryz.zeroValue319
 t105 := Tryz.underlying397
 a105 := Tryz.isAgg397
 z105 := Tryz.sizeOf397
 v105 := Tryz.zeroValue397
 t119 := Tryz.underlying410
 a119 := Tryz.isAgg410
 z119 := Tryz.sizeOf410
 t138 := Tryz.underlying412
 a138 := Tryz.isAgg412
 z138 := Tryz.sizeOf412
 v138 := Tryz.zeroValue412
 t139 := Tryz.underlying413
 a139 := Tryz.isAgg413
 z139 := Tryz.sizeOf413
 v139 := Tryz.zeroValue413
 t146 := Tryz.underlying380
 a146 := Tryz.isAgg380
 z146 := Tryz.sizeOf380
 v146 := Tryz.zeroValue380
 g1 := by kernel_rfl
 g3 := by kernel_rfl
 g4 := by kernel_rfl }
open Go.RowKit Go.Lib in
theorem Tryz.strings_Split (s sep : ByteArray) (m : Int) (w : World) (hs : s.size < 4294967281) (hm : w.cell? ⟨14,0,none⟩ = some (.int .i64 m)) (h1 : 1 <= sep.size) :
  Calls Tryz.prog 288 #[.string s,.string sep] w fun e w' =>
   e = .returned (.slice (some ⟨w.heap.size,0,none⟩) (Lib.countB s sep + 1) (Lib.countB s sep + 1)) /\ w' = w.alloc (.cells ((Lib.splitB sep 0 (Lib.countB s sep) s).map Value.string).toArray 9) := Any.strings_Split Tryz.lays146 (by kernel_rfl) s sep m w hs hm h1
end Go.Proofs
