import Derived.Test.YtdljhggillgpfaaGreatDoorSA08
namespace Go.Proofs
open Go.Shelf
def Tryz.lays189_ren : Go.Shelf.Ren := ⟨fun | 189 => 157 | 125 => 122 | 257 => 205 | 128 => 177 | 129 => 178 | 294 => 239 | 295 => 240 | 296 => 241 | 297 => 242 | 298 => 243 | 299 => 244 | 216 => 245 | 300 => 246 | 301 => 247 | 328 => 261 | 329 => 212 | 330 => 213 | 331 => 262 | 332 => 263 | 215 => 264 | 343 => 285 | n => n,fun | 28 => 147 | 3 => 3 | 46 => 160 | 0 => 0 | 51 => 202 | 53 => 254 | 4 => 4 | 183 => 246 | 182 => 245 | 131 => 196 | 5 => 5 | 9 => 9 | 218 => 281 | 222 => 285 | 228 => 318 | 229 => 46 | n => n,fun | n => n⟩
theorem Tryz.lays189 : Go.Proofs.Lays.n189 Tryz.prog Tryz.lays189_ren := {
 mixed := by kernel_rfl
 f125 := Tryz.func122.trans (congrArg some (by kernel_rfl))
 f128 := Tryz.func177.trans (congrArg some (by kernel_rfl))
 f129 := Tryz.func178.trans (congrArg some (by kernel_rfl))
 f189 := Tryz.func157.trans (congrArg some (by kernel_rfl))
 f215 := Tryz.func264.trans (congrArg some (by kernel_rfl))
 f216 := Tryz.func245.trans (congrArg some (by kernel_rfl))
 f257 := Tryz.func205.trans (congrArg some (by kernel_rfl))
 f294 := Tryz.func239.trans (congrArg some (by kernel_rfl))
 f295 := Tryz.func240.trans (congrArg some (by kernel_rfl))
 f296 := Tryz.func241.trans (congrArg some (by kernel_rfl))
 f297 := Tryz.func242.trans (congrArg some (by kernel_rfl))
 f298 := Tryz.func243.trans (congrArg some (by kernel_rfl))
 f299 := Tryz.func244.trans (congrArg some (by kernel_rfl))
 f300 := Tryz.func246.trans (congrArg some (by kernel_rfl))
 f301 := Tryz.func247.trans (congrArg some (by kernel_rfl))
 f328 := Tryz.func261.trans (congrArg some (by kernel_rfl))
 f329 := Tryz.func212.trans (congrArg some (by kernel_rfl))
 f330 := Tryz.func213.trans (congrArg some (by kernel_rfl))
 f331 := Tryz.func262.trans (congrArg some (by kernel_rfl))
 f332 := Tryz.func263.trans (congrArg some (by kernel_rfl))
 f343 := Tryz.func285.trans (congrArg some (by kernel_rfl))
 t0 := Tryz.underlying0
 a0 := Tryz.isAgg0
 z0 := Tryz.sizeOf0
 v0 := Tryz.zeroValue0
 t3 := Tryz.underlying3
 a3 := Tryz.isAgg3
 z3 := Tryz.sizeOf3
 v3 := Tryz.zeroValue3
 t4 := Tryz.underlying4
 a4 := Tryz.isAgg4
 z4 := Tryz.sizeOf4
 v4 := Tryz.zeroValue4
 t5 := Tryz.underlying5
 a5 := Tryz.isAgg5
 z5 := Tryz.sizeOf5
 v5 := Tryz.zeroValue5
 t9 := Tryz.underlying9
 a9 := Tryz.isAgg9
 z9 := Tryz.sizeOf9
 v9 := Tryz.zeroValue9
 t28 := Tryz.underlying147
 a28 := Tryz.isAgg147
 z28 := Tryz.sizeOf147
 v28 := Tryz.zeroValue147
 t46 := Tryz.underlying160
 a46 := Tryz.isAgg160
 z46 := Tryz.sizeOf160
 v46 := Tryz.zeroValue160
 t51 := Tryz.underlying202
 a51 := Tryz.isAgg202
 z51 := Tryz.sizeOf202
 v51 := Tryz.zeroValue202
 t53 := Tryz.underlying254
 a53 := Tryz.isAgg254
 z53 := Tryz.sizeOf254
 v53 := Tryz.zeroValue254
 t131 := Tryz.underlying196
 a131 := Tryz.isAgg196
 z131 := Tryz.sizeOf196
 v131 := Tryz.zeroValue196
 t182 := Tryz.underlying245
 a182 := Tryz.isAgg245
 z182 := Tryz.sizeOf245
 v182 := Tryz.zeroValue245
 t183 := Tryz.underlying246
 a183 := Tryz.isAgg246
 z183 := Tryz.sizeOf246
 v183 := Tryz.zeroValue246
 t218 := Tryz.underlying281
 a218 := Tryz.isAgg281
 z218 := Tryz.sizeOf281
 v218 := Tryz.zeroValue281
 t222 := Tryz.underlying285
 a222 := Tryz.isAgg285
 z222 := Tryz.sizeOf285
 v222 := Tryz.zeroValue285
 t228 := Tryz.underlying318
 a228 := Tryz.isAgg318
 z228 := Tryz.sizeOf318
 v228 := Tryz.zeroValue318
 t229 := Tryz.underlying46
 a229 := Tryz.isAgg46
 z229 := Tryz.sizeOf46
 v229 := Tryz.zeroValue46 }
open Go.Sort Go.RowKit in
theorem Tryz.slices_Sort_int (blk off cap : Nat) (zs : List Int) (w : World) (hH : Holds (Value.int .i64) w blk off zs.toArray) (hblk : blk < w.heap.size) (hsz : zs.length < 4611686018427387904) :
  Calls Tryz.prog 157 #[.slice (some ⟨blk,off,none⟩) zs.length cap] w fun e w' =>
   e = .returned (.tuple #[]) ∧ ∃ n os,w' = grow (putRow (Value.int .i64) (Sort.ahead w n) blk off (zs.mergeSort fun x y => decide (x ≤ y)).toArray) os := Any.slices_Sort_int Tryz.lays189 blk off cap zs w hH hblk hsz
def Tryz.laysNm223_ren : Go.Shelf.Ren := ⟨fun | 23 => 161 | n => n,fun | 22 => 147 | 3 => 3 | 4 => 4 | 0 => 0 | n => n,fun | n => n⟩
theorem Tryz.laysNm223 : Go.Proofs.Lays2.n23 Tryz.prog Tryz.laysNm223_ren := {
 mixed := by kernel_rfl
 f23 := Tryz.func161.trans (congrArg some (by kernel_rfl))
 t0 := Tryz.underlying0
 a0 := Tryz.isAgg0
 z0 := Tryz.sizeOf0
 v0 := Tryz.zeroValue0
 t3 := Tryz.underlying3
 a3 := Tryz.isAgg3
 z3 := Tryz.sizeOf3
 v3 := Tryz.zeroValue3
 t4 := Tryz.underlying4
 a4 := Tryz.isAgg4
 z4 := Tryz.sizeOf4
 v4 := Tryz.zeroValue4
 t22 := Tryz.underlying147
 a22 := Tryz.isAgg147
 z22 := Tryz.sizeOf147
 v22 := Tryz.zeroValue147
 i3 := by kernel_rfl }
open Go.RowKit Go.Lib Go.Sort in
theorem Tryz.slices_Delete_int (blk off cap i j : Nat) (zs : List Int) (w : World) (hH : Holds (Value.int .i64) w blk off zs.toArray) (hcap : zs.length ≤ cap) (hm : cap ≤ 9223372036854775807) (hij : i ≤ j) (hj : j ≤ zs.length) :
  Calls Tryz.prog 161 #[.slice (some ⟨blk,off,none⟩) zs.length cap,.int .i64 i,.int .i64 j] w fun e w' => e = .returned (.slice (some ⟨blk,off,none⟩) (zs.length - (j - i)) cap) ∧ ∃ q,w' = putRow (Value.int .i64) (Sort.ahead w q) blk off (zs.take i ++ zs.drop j ++ List.replicate (j - i) 0).toArray := Any.slices_Delete_int Tryz.laysNm223 blk off cap i j zs w hH hcap hm hij hj
open Go.RowKit Go.Sort in
theorem Tryz.slices_Sort_int_none (p : Option Addr) (cap : Nat) (w : World) :
  Calls Tryz.prog 157 #[.slice p 0 cap] w fun e w' => e = .returned (.tuple #[]) ∧ w' = w := Any.slices_Sort_int_none Tryz.lays189 p cap w
end Go.Proofs
