import Derived.Test.YtbgkfmodbofalaaGreatDoorPR10
namespace Go.Proofs
open Go.Shelf
def Tryz.lays189_ren : Go.Shelf.Ren := ⟨fun | 189 => 119 | 125 => 176 | 257 => 175 | 128 => 253 | 129 => 254 | 294 => 244 | 295 => 245 | 296 => 246 | 297 => 247 | 298 => 248 | 299 => 249 | 216 => 250 | 300 => 251 | 301 => 252 | 328 => 301 | 329 => 302 | 330 => 303 | 331 => 304 | 332 => 305 | 215 => 306 | 343 => 329 | n => n,fun | 28 => 68 | 3 => 3 | 46 => 246 | 0 => 0 | 51 => 319 | 53 => 321 | 4 => 4 | 183 => 312 | 182 => 311 | 131 => 187 | 5 => 5 | 9 => 9 | 218 => 364 | 222 => 368 | 228 => 384 | 229 => 149 | n => n,fun | n => n⟩
theorem Tryz.lays189 : Go.Proofs.Lays.n189 Tryz.prog Tryz.lays189_ren := {
 mixed := by kernel_rfl
 f125 := Tryz.func176.trans (congrArg some (by kernel_rfl))
 f128 := Tryz.func253.trans (congrArg some (by kernel_rfl))
 f129 := Tryz.func254.trans (congrArg some (by kernel_rfl))
 f189 := Tryz.func119.trans (congrArg some (by kernel_rfl))
 f215 := Tryz.func306.trans (congrArg some (by kernel_rfl))
 f216 := Tryz.func250.trans (congrArg some (by kernel_rfl))
 f257 := Tryz.func175.trans (congrArg some (by kernel_rfl))
 f294 := Tryz.func244.trans (congrArg some (by kernel_rfl))
 f295 := Tryz.func245.trans (congrArg some (by kernel_rfl))
 f296 := Tryz.func246.trans (congrArg some (by kernel_rfl))
 f297 := Tryz.func247.trans (congrArg some (by kernel_rfl))
 f298 := Tryz.func248.trans (congrArg some (by kernel_rfl))
 f299 := Tryz.func249.trans (congrArg some (by kernel_rfl))
 f300 := Tryz.func251.trans (congrArg some (by kernel_rfl))
 f301 := Tryz.func252.trans (congrArg some (by kernel_rfl))
 f328 := Tryz.func301.trans (congrArg some (by kernel_rfl))
 f329 := Tryz.func302.trans (congrArg some (by kernel_rfl))
 f330 := Tryz.func303.trans (congrArg some (by kernel_rfl))
 f331 := Tryz.func304.trans (congrArg some (by kernel_rfl))
 f332 := Tryz.func305.trans (congrArg some (by kernel_rfl))
 f343 := Tryz.func329.trans (congrArg some (by kernel_rfl))
 t0 := Tryz.underlying0
 a0 := Tryz.isAgg0
 z0 := Tryz.sizeOf0
 v0 := Tryz.zeroValue0
 t3 := Tryz.underlying3
 a3 := Tryz.isAgg3
 z3 := Tryz.sizeOf3
 v3 := Tryz.zeroValue3
 t4 := Tryz.underlying4
 a4 := Tryz.isAgg4
 z4 := Tryz.sizeOf4
 v4 := Tryz.zeroValue4
 t5 := Tryz.underlying5
 a5 := Tryz.isAgg5
 z5 := Tryz.sizeOf5
 v5 := Tryz.zeroValue5
 t9 := Tryz.underlying9
 a9 := Tryz.isAgg9
 z9 := Tryz.sizeOf9
 v9 := Tryz.zeroValue9
 t28 := Tryz.underlying68
 a28 := Tryz.isAgg68
 z28 := Tryz.sizeOf68
 v28 := Tryz.zeroValue68
 t46 := Tryz.underlying246
 a46 := Tryz.isAgg246
 z46 := Tryz.sizeOf246
 v46 := Tryz.zeroValue246
 t51 := Tryz.underlying319
 a51 := Tryz.isAgg319
 z51 := Tryz.sizeOf319
 v51 := Tryz.zeroValue319
 t53 := Tryz.underlying321
 a53 := Tryz.isAgg321
 z53 := Tryz.sizeOf321
 v53 := Tryz.zeroValue321
 t131 := Tryz.underlying187
 a131 := Tryz.isAgg187
 z131 := Tryz.sizeOf187
 v131 := Tryz.zeroValue187
 t182 := Tryz.underlying311
 a182 := Tryz.isAgg311
 z182 := Tryz.sizeOf311
 v182 := Tryz.zeroValue311
 t183 := Tryz.underlying312
 a183 := Tryz.isAgg312
 z183 := Tryz.sizeOf312
 v183 := Tryz.zeroValue312
 t218 := Tryz.underlying364
 a218 := Tryz.isAgg364
 z218 := Tryz.sizeOf364
 v218 := Tryz.zeroValue364
 t222 := Tryz.underlying368
 a222 := Tryz.isAgg368
 z222 := Tryz.sizeOf368
 v222 := Tryz.zeroValue368
 t228 := Tryz.underlying384
 a228 := Tryz.isAgg384
 z228 := Tryz.sizeOf384
 v228 := Tryz.zeroValue384
 t229 := Tryz.underlying149
 a229 := Tryz.isAgg149
 z229 := Tryz.sizeOf149
 v229 := Tryz.zeroValue149 }
open Go.Sort Go.RowKit in
theorem Tryz.slices_Sort_int (blk off cap : Nat) (zs : List Int) (w : World) (hH : Holds (Value.int .i64) w blk off zs.toArray) (hblk : blk < w.heap.size) (hsz : zs.length < 4611686018427387904) :
  Calls Tryz.prog 119 #[.slice (some ⟨blk,off,none⟩) zs.length cap] w fun e w' =>
   e = .returned (.tuple #[]) /\ ∃ n os,w' = grow (putRow (Value.int .i64) (Sort.ahead w n) blk off (zs.mergeSort fun x y => decide (x <= y)).toArray) os := Any.slices_Sort_int Tryz.lays189 blk off cap zs w hH hblk hsz
def Tryz.laysNm223_ren : Go.Shelf.Ren := ⟨fun | 23 => 172 | n => n,fun | 22 => 68 | 3 => 3 | 4 => 4 | 0 => 0 | n => n,fun | n => n⟩
theorem Tryz.laysNm223 : Go.Proofs.Lays2.n23 Tryz.prog Tryz.laysNm223_ren := {
 mixed := by kernel_rfl
 f23 := Tryz.func172.trans (congrArg some (by kernel_rfl))
 t0 := Tryz.underlying0
 a0 := Tryz.isAgg0
 z0 := Tryz.sizeOf0
 v0 := Tryz.zeroValue0
 t3 := Tryz.underlying3
 a3 := Tryz.isAgg3
 z3 := Tryz.sizeOf3
 v3 := Tryz.zeroValue3
 t4 := Tryz.underlying4
 a4 := Tryz.isAgg4
 z4 := Tryz.sizeOf4
 v4 := Tryz.zeroValue4
 t22 := Tryz.underlying68
 a22 := Tryz.isAgg68
 z22 := Tryz.sizeOf68
 v22 := Tryz.zeroValue68
 i3 := by kernel_rfl }
open Go.RowKit Go.Lib Go.Sort in
theorem Tryz.slices_Delete_int (blk off cap i j : Nat) (zs : List Int) (w : World) (hH : Holds (Value.int .i64) w blk off zs.toArray) (hcap : zs.length <= cap) (hm : cap <= 9223372036854775807) (hij : i <= j) (hj : j <= zs.length) :
  Calls Tryz.prog 172 #[.slice (some ⟨blk,off,none⟩) zs.length cap,.int .i64 i,.int .i64 j] w fun e w' => e = .returned (.slice (some ⟨blk,off,none⟩) (zs.length - (j - i)) cap) /\ ∃ q,w' = putRow (Value.int .i64) (Sort.ahead w q) blk off (zs.take i ++ zs.drop j ++ List.replicate (j - i) 0).toArray := Any.slices_Delete_int Tryz.laysNm223 blk off cap i j zs w hH hcap hm hij hj
open Go.RowKit Go.Sort in
theorem Tryz.slices_Sort_int_none (p : Option Addr) (cap : Nat) (w : World) :
  Calls Tryz.prog 119 #[.slice p 0 cap] w fun e w' => e = .returned (.tuple #[]) /\ w' = w := Any.slices_Sort_int_none Tryz.lays189 p cap w
end Go.Proofs
