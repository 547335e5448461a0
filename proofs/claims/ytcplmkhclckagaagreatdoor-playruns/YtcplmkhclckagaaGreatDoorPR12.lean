import Derived.Test.YtcplmkhclckagaaGreatDoorPR07
open Go.Proofs.Tryz
namespace Go.Proofs
open Go.Shelf
def Tryz.lays189_ren:Go.Shelf.Ren:=⟨fun | 189=>160 | 125=>83 | 257=>197 | 128=>129 | 129=>130 | 294=>217 | 295=>218 | 296=>219 | 297=>220 | 298=>221 | 299=>222 | 216=>223 | 300=>224 | 301=>225 | 328=>239 | 329=>166 | 330=>167 | 331=>240 | 332=>241 | 215=>242 | 343=>265 | n=>n,fun | 28=>22 | 3=>3 | 46=>148 | 0=>0 | 51=>206 | 53=>208 | 4=>4 | 183=>199 | 182=>198 | 131=>203 | 5=>5 | 9=>9 | 218=>255 | 222=>259 | 228=>285 | 229=>87 | n=>n,fun | n=>n⟩
theorem Tryz.lays189:Go.Proofs.Lays.n189 prog lays189_ren:={
 mixed:=by kernel_rfl
 f125:=func83.trans (congrArg some (by kernel_rfl))
 f128:=func129.trans (congrArg some (by kernel_rfl))
 f129:=func130.trans (congrArg some (by kernel_rfl))
 f189:=func160.trans (congrArg some (by kernel_rfl))
 f215:=func242.trans (congrArg some (by kernel_rfl))
 f216:=func223.trans (congrArg some (by kernel_rfl))
 f257:=func197.trans (congrArg some (by kernel_rfl))
 f294:=func217.trans (congrArg some (by kernel_rfl))
 f295:=func218.trans (congrArg some (by kernel_rfl))
 f296:=func219.trans (congrArg some (by kernel_rfl))
 f297:=func220.trans (congrArg some (by kernel_rfl))
 f298:=func221.trans (congrArg some (by kernel_rfl))
 f299:=func222.trans (congrArg some (by kernel_rfl))
 f300:=func224.trans (congrArg some (by kernel_rfl))
 f301:=func225.trans (congrArg some (by kernel_rfl))
 f328:=func239.trans (congrArg some (by kernel_rfl))
 f329:=func166.trans (congrArg some (by kernel_rfl))
 f330:=func167.trans (congrArg some (by kernel_rfl))
 f331:=func240.trans (congrArg some (by kernel_rfl))
 f332:=func241.trans (congrArg some (by kernel_rfl))
 f343:=func265.trans (congrArg some (by kernel_rfl))
 t0:=underlying0
 a0:=isAgg0
 z0:=sizeOf0
 v0:=zeroValue0
 t3:=underlying3
 a3:=isAgg3
 z3:=sizeOf3
 v3:=zeroValue3
 t4:=underlying4
 a4:=isAgg4
 z4:=sizeOf4
 v4:=zeroValue4
 t5:=underlying5
 a5:=isAgg5
 z5:=sizeOf5
 v5:=zeroValue5
 t9:=underlying9
 a9:=isAgg9
 z9:=sizeOf9
 v9:=zeroValue9
 t28:=underlying22
 a28:=isAgg22
 z28:=sizeOf22
 v28:=zeroValue22
 t46:=underlying148
 a46:=isAgg148
 z46:=sizeOf148
 v46:=zeroValue148
 t51:=underlying206
 a51:=isAgg206
 z51:=sizeOf206
 v51:=zeroValue206
 t53:=underlying208
 a53:=isAgg208
 z53:=sizeOf208
 v53:=zeroValue208
 t131:=underlying203
 a131:=isAgg203
 z131:=sizeOf203
 v131:=zeroValue203
 t182:=underlying198
 a182:=isAgg198
 z182:=sizeOf198
 v182:=zeroValue198
 t183:=underlying199
 a183:=isAgg199
 z183:=sizeOf199
 v183:=zeroValue199
 t218:=underlying255
 a218:=isAgg255
 z218:=sizeOf255
 v218:=zeroValue255
 t222:=underlying259
 a222:=isAgg259
 z222:=sizeOf259
 v222:=zeroValue259
 t228:=underlying285
 a228:=isAgg285
 z228:=sizeOf285
 v228:=zeroValue285
 t229:=underlying87
 a229:=isAgg87
 z229:=sizeOf87
 v229:=zeroValue87 }
open Go.Sort Go.RowKit in
theorem Tryz.slices_Sort_int(blk off cap:Nat)(zs:List Int)(w:World)(hH:Holds (Value.int .i64) w blk off zs.toArray)(hblk:blk<w.heap.size)(hsz:zs.length<4611686018427387904):
  Calls prog 160 #[.slice (some ⟨blk,off,none⟩) zs.length cap] w fun e w' =>
   e=.returned (.tuple #[])/\∃ n os,w'=grow (putRow (Value.int .i64) (Sort.ahead w n) blk off (zs.mergeSort fun x y=>decide (x<=y)).toArray) os:=Any.slices_Sort_int lays189 blk off cap zs w hH hblk hsz
def Tryz.laysNm223_ren:Go.Shelf.Ren:=⟨fun | 23=>98 | n=>n,fun | 22=>22 | 3=>3 | 4=>4 | 0=>0 | n=>n,fun | n=>n⟩
theorem Tryz.laysNm223:Go.Proofs.Lays2.n23 prog laysNm223_ren:={
 mixed:=by kernel_rfl
 f23:=func98.trans (congrArg some (by kernel_rfl))
 t0:=underlying0
 a0:=isAgg0
 z0:=sizeOf0
 v0:=zeroValue0
 t3:=underlying3
 a3:=isAgg3
 z3:=sizeOf3
 v3:=zeroValue3
 t4:=underlying4
 a4:=isAgg4
 z4:=sizeOf4
 v4:=zeroValue4
 t22:=underlying22
 a22:=isAgg22
 z22:=sizeOf22
 v22:=zeroValue22
 i3:=by kernel_rfl }
open Go.RowKit Go.Lib Go.Sort in
theorem Tryz.slices_Delete_int(blk off cap i j:Nat)(zs:List Int)(w:World)(hH:Holds (Value.int .i64) w blk off zs.toArray)(hcap:zs.length<=cap)(hm:cap<=9223372036854775807)(hij:i<=j)(hj:j<=zs.length):
  Calls prog 98 #[.slice (some ⟨blk,off,none⟩) zs.length cap,.int .i64 i,.int .i64 j] w fun e w'=>e=.returned (.slice (some ⟨blk,off,none⟩) (zs.length - (j - i)) cap)/\∃ q,w'=putRow (Value.int .i64) (Sort.ahead w q) blk off (zs.take i++zs.drop j++List.replicate (j - i) 0).toArray:=Any.slices_Delete_int laysNm223 blk off cap i j zs w hH hcap hm hij hj
open Go.RowKit Go.Sort in
theorem Tryz.slices_Sort_int_none(p:Option Addr)(cap:Nat)(w:World):
  Calls prog 160 #[.slice p 0 cap] w fun e w'=>e=.returned (.tuple #[])/\w'=w:=Any.slices_Sort_int_none lays189 p cap w
