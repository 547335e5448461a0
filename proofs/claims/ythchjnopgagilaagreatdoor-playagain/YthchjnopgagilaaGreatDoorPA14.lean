import Derived.Test.YthchjnopgagilaaGreatDoorPA08
namespace Go.Proofs
open Go.Shelf
def Tryz.lays189_ren : Go.Shelf.Ren := ⟨fun | 189 => 124 | 125 => 193 | 257 => 192 | 128 => 274 | 129 => 275 | 294 => 265 | 295 => 266 | 296 => 267 | 297 => 268 | 298 => 269 | 299 => 270 | 216 => 271 | 300 => 272 | 301 => 273 | 328 => 326 | 329 => 327 | 330 => 328 | 331 => 329 | 332 => 330 | 215 => 331 | 343 => 354 | n => n,fun | 28 => 68 | 3 => 3 | 46 => 267 | 0 => 0 | 51 => 341 | 53 => 343 | 4 => 4 | 183 => 334 | 182 => 333 | 131 => 199 | 5 => 5 | 9 => 9 | 218 => 387 | 222 => 391 | 228 => 408 | 229 => 158 | n => n,fun | n => n⟩
theorem Tryz.lays189 : Go.Proofs.Lays.n189 Tryz.prog Tryz.lays189_ren := {
 mixed := by kernel_rfl
 f125 := Tryz.func193.trans (congrArg some (by kernel_rfl))
 f128 := Tryz.func274.trans (congrArg some (by kernel_rfl))
 f129 := Tryz.func275.trans (congrArg some (by kernel_rfl))
 f189 := Tryz.func124.trans (congrArg some (by kernel_rfl))
 f215 := Tryz.func331.trans (congrArg some (by kernel_rfl))
 f216 := Tryz.func271.trans (congrArg some (by kernel_rfl))
 f257 := Tryz.func192.trans (congrArg some (by kernel_rfl))
 f294 := Tryz.func265.trans (congrArg some (by kernel_rfl))
 f295 := Tryz.func266.trans (congrArg some (by kernel_rfl))
 f296 := Tryz.func267.trans (congrArg some (by kernel_rfl))
 f297 := Tryz.func268.trans (congrArg some (by kernel_rfl))
 f298 := Tryz.func269.trans (congrArg some (by kernel_rfl))
 f299 := Tryz.func270.trans (congrArg some (by kernel_rfl))
 f300 := Tryz.func272.trans (congrArg some (by kernel_rfl))
 f301 := Tryz.func273.trans (congrArg some (by kernel_rfl))
 f328 := Tryz.func326.trans (congrArg some (by kernel_rfl))
 f329 := Tryz.func327.trans (congrArg some (by kernel_rfl))
 f330 := Tryz.func328.trans (congrArg some (by kernel_rfl))
 f331 := Tryz.func329.trans (congrArg some (by kernel_rfl))
 f332 := Tryz.func330.trans (congrArg some (by kernel_rfl))
 f343 := Tryz.func354.trans (congrArg some (by kernel_rfl))
 t0 := Tryz.underlying0
 a0 := Tryz.isAgg0
 z0 := Tryz.sizeOf0
 v0 := Tryz.zeroValue0
 t3 := Tryz.underlying3
 a3 := Tryz.isAgg3
 z3 := Tryz.sizeOf3
 v3 := Tryz.zeroValue3
 t4 := Tryz.underlying4
 a4 := Tryz.isAgg4
 z4 := Tryz.sizeOf4
 v4 := Tryz.zeroValue4
 t5 := Tryz.underlying5
 a5 := Tryz.isAgg5
 z5 := Tryz.sizeOf5
 v5 := Tryz.zeroValue5
 t9 := Tryz.underlying9
 a9 := Tryz.isAgg9
 z9 := Tryz.sizeOf9
 v9 := Tryz.zeroValue9
 t28 := Tryz.underlying68
 a28 := Tryz.isAgg68
 z28 := Tryz.sizeOf68
 v28 := Tryz.zeroValue68
 t46 := Tryz.underlying267
 a46 := Tryz.isAgg267
 z46 := Tryz.sizeOf267
 v46 := Tryz.zeroValue267
 t51 := Tryz.underlying341
 a51 := Tryz.isAgg341
 z51 := Tryz.sizeOf341
 v51 := Tryz.zeroValue341
 t53 := Tryz.underlying343
 a53 := Tryz.isAgg343
 z53 := Tryz.sizeOf343
 v53 := Tryz.zeroValue343
 t131 := Tryz.underlying199
 a131 := Tryz.isAgg199
 z131 := Tryz.sizeOf199
 v131 := Tryz.zeroValue199
 t182 := Tryz.underlying333
 a182 := Tryz.isAgg333
 z182 := Tryz.sizeOf333
 v182 := Tryz.zeroValue333
 t183 := Tryz.underlying334
 a183 := Tryz.isAgg334
 z183 := Tryz.sizeOf334
 v183 := Tryz.zeroValue334
 t218 := Tryz.underlying387
 a218 := Tryz.isAgg387
 z218 := Tryz.sizeOf387
 v218 := Tryz.zeroValue387
 t222 := Tryz.underlying391
 a222 := Tryz.isAgg391
 z222 := Tryz.sizeOf391
 v222 := Tryz.zeroValue391
 t228 := Tryz.underlying408
 a228 := Tryz.isAgg408
 z228 := Tryz.sizeOf408
 v228 := Tryz.zeroValue408
 t229 := Tryz.underlying158
 a229 := Tryz.isAgg158
 z229 := Tryz.sizeOf158
 v229 := Tryz.zeroValue158 }
open Go.Sort Go.RowKit in
theorem Tryz.slices_Sort_int (blk off cap : Nat) (zs : List Int) (w : World) (hH : Holds (Value.int .i64) w blk off zs.toArray) (hblk : blk < w.heap.size) (hsz : zs.length < 4611686018427387904) :
  Calls Tryz.prog 124 #[.slice (some ⟨blk,off,none⟩) zs.length cap] w fun e w' =>
   e = .returned (.tuple #[]) ∧ ∃ n os,w' = grow (putRow (Value.int .i64) (Sort.ahead w n) blk off (zs.mergeSort fun x y => decide (x ≤ y)).toArray) os := Any.slices_Sort_int Tryz.lays189 blk off cap zs w hH hblk hsz
def Tryz.laysNm223_ren : Go.Shelf.Ren := ⟨fun | 23 => 189 | n => n,fun | 22 => 68 | 3 => 3 | 4 => 4 | 0 => 0 | n => n,fun | n => n⟩
theorem Tryz.laysNm223 : Go.Proofs.Lays2.n23 Tryz.prog Tryz.laysNm223_ren := {
 mixed := by kernel_rfl
 f23 := Tryz.func189.trans (congrArg some (by kernel_rfl))
 t0 := Tryz.underlying0
 a0 := Tryz.isAgg0
 z0 := Tryz.sizeOf0
 v0 := Tryz.zeroValue0
 t3 := Tryz.underlying3
 a3 := Tryz.isAgg3
 z3 := Tryz.sizeOf3
 v3 := Tryz.zeroValue3
 t4 := Tryz.underlying4
 a4 := Tryz.isAgg4
 z4 := Tryz.sizeOf4
 v4 := Tryz.zeroValue4
 t22 := Tryz.underlying68
 a22 := Tryz.isAgg68
 z22 := Tryz.sizeOf68
 v22 := Tryz.zeroValue68
 i3 := by kernel_rfl }
open Go.RowKit Go.Lib Go.Sort in
theorem Tryz.slices_Delete_int (blk off cap i j : Nat) (zs : List Int) (w : World) (hH : Holds (Value.int .i64) w blk off zs.toArray) (hcap : zs.length ≤ cap) (hm : cap ≤ 9223372036854775807) (hij : i ≤ j) (hj : j ≤ zs.length) :
  Calls Tryz.prog 189 #[.slice (some ⟨blk,off,none⟩) zs.length cap,.int .i64 i,.int .i64 j] w fun e w' => e = .returned (.slice (some ⟨blk,off,none⟩) (zs.length - (j - i)) cap) ∧ ∃ q,w' = putRow (Value.int .i64) (Sort.ahead w q) blk off (zs.take i ++ zs.drop j ++ List.replicate (j - i) 0).toArray := Any.slices_Delete_int Tryz.laysNm223 blk off cap i j zs w hH hcap hm hij hj
open Go.RowKit Go.Sort in
theorem Tryz.slices_Sort_int_none (p : Option Addr) (cap : Nat) (w : World) :
  Calls Tryz.prog 124 #[.slice p 0 cap] w fun e w' => e = .returned (.tuple #[]) ∧ w' = w := Any.slices_Sort_int_none Tryz.lays189 p cap w
end Go.Proofs
