import Derived.Shelf.Strings.OnBuilder
import Derived.Shelf.Utf8.RuneCount
import Derived.Shelf.Sort.Plain
import Derived.Shelf.Strings.Explode
import Derived.Shelf.Slices.Turned
import Derived.Shelf.Slices.Clone
import Derived.Shelf.Slices.Cells
import Derived.Shelf.Slices.In.SortNone
import Derived.Shelf.Slices.Empties
import Derived.Shelf.SlicesE.Clone
import Derived.Shelf.SlicesE.DeleteFunc
import Derived.Test.YtcplmkhclckagaaGreatDoorPR05
open Go.Proofs.Tryz
namespace Go.Proofs
open Go.Shelf
def Tryz.lays156_ren:Go.Shelf.Ren:=⟨fun | 156=>24 | 165=>45 | 166=>30 | 169=>32 | 240=>54 | 241=>80 | 276=>87 | 277=>114 | n=>n,fun | 31=>52 | 9=>9 | 3=>3 | 4=>4 | 0=>0 | 20=>20 | 72=>61 | 76=>64 | 70=>58 | 37=>59 | 75=>44 | 127=>108 | 164=>150 | 5=>5 | 80=>32 | n=>n,fun | n=>n⟩
theorem Tryz.lays156:Go.Proofs.Lays.n156 prog lays156_ren:={
 mixed:=by kernel_rfl
 f156:=func24.trans (congrArg some (by kernel_rfl))
 f165:=func45.trans (congrArg some (by kernel_rfl))
 f166:=func30.trans (congrArg some (by kernel_rfl))
 f169:=func32.trans (congrArg some (by kernel_rfl))
 f240:=func54.trans (congrArg some (by kernel_rfl))
 f241:=func80.trans (congrArg some (by kernel_rfl))
 f276:=func87.trans (congrArg some (by kernel_rfl))
 f277:=func114.trans (congrArg some (by kernel_rfl))
 t0:=underlying0
 a0:=isAgg0
 z0:=sizeOf0
 v0:=zeroValue0
 t3:=underlying3
 a3:=isAgg3
 z3:=sizeOf3
 v3:=zeroValue3
 t4:=underlying4
 a4:=isAgg4
 z4:=sizeOf4
 v4:=zeroValue4
 t9:=underlying9
 a9:=isAgg9
 z9:=sizeOf9
 v9:=zeroValue9
 t20:=underlying20
 a20:=isAgg20
 z20:=sizeOf20
 v20:=zeroValue20
 t31:=underlying52
 a31:=isAgg52
 z31:=sizeOf52
 v31:=zeroValue52
 t37:=underlying59
 a37:=isAgg59
 z37:=sizeOf59
 v37:=zeroValue59
 t70:=underlying58
 a70:=isAgg58
 z70:=sizeOf58
 v70:=zeroValue58
 t72:=underlying61
 a72:=isAgg61
 z72:=sizeOf61
 v72:=zeroValue61
 t75:=underlying44
 a75:=isAgg44
 z75:=sizeOf44
 v75:=zeroValue44
 t76:=underlying64
 a76:=isAgg64
 z76:=sizeOf64
 v76:=zeroValue64
 t127:=underlying108
 a127:=isAgg108
 z127:=sizeOf108
 v127:=zeroValue108
 t164:=underlying150
 a164:=isAgg150
 z164:=sizeOf150
 v164:=zeroValue150 }
theorem Tryz.Builder_Extra_156:Builder.Extra prog lays156_ren:={
 sizeBuilder:=by kernel_rfl
 liesBuilder:=by kernel_rfl
 t5:=underlying5
 a5:=isAgg5
 z5:=sizeOf5
 v5:=zeroValue5
 infoByte:=by kernel_rfl
 cellsByte:=by kernel_rfl
 sizeByte:=by kernel_rfl
 neB5:=by decide }
open Go.RowKit in
theorem Tryz.strings_Join(bk o c:Nat)(xs:List ByteArray)(sep:ByteArray)(w:World)(hcells:∀(j:Nat) x,xs[j]? =some x->w.cell? ⟨bk,o+j,none⟩=some (.string x))(hbk:bk<w.heap.size)(hN:xs.length<=140737488355328)(hcap:xs.length<=c)(hlen:(Lib.join (xs.map (·.data.toList)) sep.data.toList).length<=140737488355328):
  Calls prog 24 #[.slice (some ⟨bk,o,none⟩) xs.length c,.string sep] w fun e w'=>e=.returned (.string ⟨(Lib.join (xs.map (·.data.toList)) sep.data.toList).toArray⟩)/\Below w.heap.size w w':=Any.strings_Join lays156 Builder_Extra_156 bk o c xs sep w hcells hbk hN hcap hlen
def Tryz.lays144_ren:Go.Shelf.Ren:=⟨fun | 144=>275 | 143=>286 | 219=>266 | 217=>280 | 225=>281 | 224=>282 | 267=>283 | 266=>289 | 314=>290 | n=>n,fun | 9=>9 | 4=>4 | 3=>3 | 5=>5 | 46=>148 | 146=>352 | 51=>206 | n=>n,fun | 1=>13 | n=>n⟩
theorem Tryz.lays144:Go.Proofs.Lays.n144 prog lays144_ren:={
 mixed:=by kernel_rfl
 f143:=func286.trans (congrArg some (by kernel_rfl))
 f144:=func275.trans (congrArg some (by kernel_rfl))
 f217:=func280.trans (congrArg some (by kernel_rfl))
 f219:=func266.trans (congrArg some (by kernel_rfl))
 f224:=func282.trans (congrArg some (by kernel_rfl))
 f225:=func281.trans (congrArg some (by kernel_rfl))
 f266:=func289.trans (congrArg some (by kernel_rfl))
 f267:=func283.trans (congrArg some (by kernel_rfl))
 f314:=func290.trans (congrArg some (by kernel_rfl))
 t3:=underlying3
 a3:=isAgg3
 z3:=sizeOf3
 v3:=zeroValue3
 t4:=underlying4
 a4:=isAgg4
 z4:=sizeOf4
 v4:=zeroValue4
 t5:=underlying5
 a5:=isAgg5
 z5:=sizeOf5
 v5:=zeroValue5
 t9:=underlying9
 a9:=isAgg9
 z9:=sizeOf9
 v9:=zeroValue9
 t46:=underlying148
 a46:=isAgg148
 z46:=sizeOf148
 v46:=zeroValue148
 t51:=underlying206
 a51:=isAgg206
 z51:=sizeOf206
 v51:=zeroValue206
 t146:=underlying352
 a146:=isAgg352
 z146:=sizeOf352
 v146:=zeroValue352
 g1:=by kernel_rfl }
open Go.RowKit Go.Lib in
theorem Tryz.strings_Contains(s sub:ByteArray)(m:Int)(w:World)(hs:s.size<4294967281)(hm:w.cell? ⟨13,0,none⟩=some (.int .i64 m)):
  Calls prog 275 #[.string s,.string sub] w fun e w'=>e=.returned (.bool (Lib.contains s.data.toList sub.data.toList))/\w'=w:=Any.strings_Contains lays144 s sub m w hs hm
def Tryz.lays190_ren:Go.Shelf.Ren:=⟨fun | 190=>48 | 125=>83 | 258=>82 | 128=>129 | 129=>130 | 302=>120 | 303=>121 | 304=>122 | 305=>123 | 306=>124 | 307=>125 | 308=>126 | 309=>127 | 310=>128 | 333=>165 | 329=>166 | 330=>167 | 334=>168 | 335=>169 | 336=>170 | 344=>199 | n=>n,fun | 31=>52 | 9=>9 | 3=>3 | 46=>148 | 0=>0 | 51=>206 | 53=>208 | 4=>4 | 183=>199 | 182=>198 | 131=>203 | 5=>5 | 218=>255 | 222=>259 | 228=>285 | 229=>87 | n=>n,fun | n=>n⟩
theorem Tryz.lays190:Go.Proofs.Lays.n190 prog lays190_ren:={
 mixed:=by kernel_rfl
 f125:=func83.trans (congrArg some (by kernel_rfl))
 f128:=func129.trans (congrArg some (by kernel_rfl))
 f129:=func130.trans (congrArg some (by kernel_rfl))
 f190:=func48.trans (congrArg some (by kernel_rfl))
 f258:=func82.trans (congrArg some (by kernel_rfl))
 f302:=func120.trans (congrArg some (by kernel_rfl))
 f303:=func121.trans (congrArg some (by kernel_rfl))
 f304:=func122.trans (congrArg some (by kernel_rfl))
 f305:=func123.trans (congrArg some (by kernel_rfl))
 f306:=func124.trans (congrArg some (by kernel_rfl))
 f307:=func125.trans (congrArg some (by kernel_rfl))
 f308:=func126.trans (congrArg some (by kernel_rfl))
 f309:=func127.trans (congrArg some (by kernel_rfl))
 f310:=func128.trans (congrArg some (by kernel_rfl))
 f329:=func166.trans (congrArg some (by kernel_rfl))
 f330:=func167.trans (congrArg some (by kernel_rfl))
 f333:=func165.trans (congrArg some (by kernel_rfl))
 f334:=func168.trans (congrArg some (by kernel_rfl))
 f335:=func169.trans (congrArg some (by kernel_rfl))
 f336:=func170.trans (congrArg some (by kernel_rfl))
 f344:=func199.trans (congrArg some (by kernel_rfl))
 t0:=underlying0
 a0:=isAgg0
 z0:=sizeOf0
 v0:=zeroValue0
 t3:=underlying3
 a3:=isAgg3
 z3:=sizeOf3
 v3:=zeroValue3
 t4:=underlying4
 a4:=isAgg4
 z4:=sizeOf4
 v4:=zeroValue4
 t5:=underlying5
 a5:=isAgg5
 z5:=sizeOf5
 v5:=zeroValue5
 t9:=underlying9
 a9:=isAgg9
 z9:=sizeOf9
 v9:=zeroValue9
 t31:=underlying52
 a31:=isAgg52
 z31:=sizeOf52
 v31:=zeroValue52
 t46:=underlying148
 a46:=isAgg148
 z46:=sizeOf148
 v46:=zeroValue148
 t51:=underlying206
 a51:=isAgg206
 z51:=sizeOf206
 v51:=zeroValue206
 t53:=underlying208
 a53:=isAgg208
 z53:=sizeOf208
 v53:=zeroValue208
 t131:=underlying203
 a131:=isAgg203
 z131:=sizeOf203
 v131:=zeroValue203
 t182:=underlying198
 a182:=isAgg198
 z182:=sizeOf198
 v182:=zeroValue198
 t183:=underlying199
 a183:=isAgg199
 z183:=sizeOf199
 v183:=zeroValue199
 t218:=underlying255
 a218:=isAgg255
 z218:=sizeOf255
 v218:=zeroValue255
 t222:=underlying259
 a222:=isAgg259
 z222:=sizeOf259
 v222:=zeroValue259
 t228:=underlying285
 a228:=isAgg285
 z228:=sizeOf285
 v228:=zeroValue285
 t229:=underlying87
 a229:=isAgg87
 z229:=sizeOf87
 v229:=zeroValue87 }
open Go.Sort Go.RowKit in
theorem Tryz.slices_Sort_string(blk off cap:Nat)(ss:List (List UInt8))(w:World)(hH:Holds encStr w blk off ss.toArray)(hblk:blk<w.heap.size)(hsz:ss.length<4611686018427387904):
  Calls prog 48 #[.slice (some ⟨blk,off,none⟩) ss.length cap] w fun e w' =>
   e=.returned (.tuple #[])/\∃ n os,w'=grow (putRow encStr (Sort.ahead w n) blk off (ss.mergeSort fun x y=>decide (x<=y)).toArray) os:=Any.slices_Sort_string lays190 blk off cap ss w hH hblk hsz
def Tryz.lays155_ren:Go.Shelf.Ren:=⟨fun | 155=>278 | 154=>287 | 138=>292 | 165=>45 | 143=>286 | 166=>30 | 197=>293 | 169=>32 | 195=>297 | 218=>298 | 240=>54 | 241=>80 | 219=>266 | 260=>299 | 276=>87 | 277=>114 | 217=>280 | 225=>281 | 224=>282 | 267=>283 | 266=>289 | 314=>290 | n=>n,fun | 9=>9 | 3=>3 | 4=>4 | 72=>61 | 0=>0 | 76=>64 | 105=>355 | 21=>21 | 5=>5 | 70=>58 | 20=>20 | 37=>59 | 75=>44 | 127=>108 | 164=>150 | 46=>148 | 119=>365 | 139=>368 | 138=>367 | 146=>352 | 51=>206 | 80=>32 | n=>n,fun | 1=>13 | 3=>17 | 4=>18 | n=>n⟩
theorem Tryz.lays155:Go.Proofs.Lays.n155 prog lays155_ren:={
 mixed:=by kernel_rfl
 f138:=func292.trans (congrArg some (by kernel_rfl))
 f143:=func286.trans (congrArg some (by kernel_rfl))
 f154:=func287.trans (congrArg some (by kernel_rfl))
 f155:=func278.trans (congrArg some (by kernel_rfl))
 f165:=func45.trans (congrArg some (by kernel_rfl))
 f166:=func30.trans (congrArg some (by kernel_rfl))
 f169:=func32.trans (congrArg some (by kernel_rfl))
 f195:=func297.trans (congrArg some (by kernel_rfl))
 f197:=func293.trans (congrArg some (by kernel_rfl))
 f217:=func280.trans (congrArg some (by kernel_rfl))
 f218:=func298.trans (congrArg some (by kernel_rfl))
 f219:=func266.trans (congrArg some (by kernel_rfl))
 f224:=func282.trans (congrArg some (by kernel_rfl))
 f225:=func281.trans (congrArg some (by kernel_rfl))
 f240:=func54.trans (congrArg some (by kernel_rfl))
 f241:=func80.trans (congrArg some (by kernel_rfl))
 f260:=func299.trans (congrArg some (by kernel_rfl))
 f266:=func289.trans (congrArg some (by kernel_rfl))
 f267:=func283.trans (congrArg some (by kernel_rfl))
 f276:=func87.trans (congrArg some (by kernel_rfl))
 f277:=func114.trans (congrArg some (by kernel_rfl))
 f314:=func290.trans (congrArg some (by kernel_rfl))
 t0:=underlying0
 a0:=isAgg0
 z0:=sizeOf0
 v0:=zeroValue0
 t3:=underlying3
 a3:=isAgg3
 z3:=sizeOf3
 v3:=zeroValue3
 t4:=underlying4
 a4:=isAgg4
 z4:=sizeOf4
 v4:=zeroValue4
 t5:=underlying5
 a5:=isAgg5
 z5:=sizeOf5
 v5:=zeroValue5
 t9:=underlying9
 a9:=isAgg9
 z9:=sizeOf9
 v9:=zeroValue9
 t20:=underlying20
 a20:=isAgg20
 z20:=sizeOf20
 v20:=zeroValue20
 t21:=underlying21
 a21:=isAgg21
 z21:=sizeOf21
 v21:=zeroValue21
 t37:=underlying59
 a37:=isAgg59
 z37:=sizeOf59
 v37:=zeroValue59
 t46:=underlying148
 a46:=isAgg148
 z46:=sizeOf148
 v46:=zeroValue148
 t51:=underlying206
 a51:=isAgg206
 z51:=sizeOf206
 v51:=zeroValue206
 t70:=underlying58
 a70:=isAgg58
 z70:=sizeOf58
 v70:=zeroValue58
 t72:=underlying61
 a72:=isAgg61
 z72:=sizeOf61
 v72:=zeroValue61
 t75:=underlying44
 a75:=isAgg44
 z75:=sizeOf44
 v75:=zeroValue44
 t76:=underlying64
 a76:=isAgg64
 z76:=sizeOf64
 v76:=zeroValue64
 t105:=underlying355
 a105:=isAgg355
 z105:=sizeOf355
 v105:=zeroValue355
 t119:=underlying365
 a119:=isAgg365
 z119:=sizeOf365
 t127:=underlying108
 a127:=isAgg108
 z127:=sizeOf108
 v127:=zeroValue108
 t138:=underlying367
 a138:=isAgg367
 z138:=sizeOf367
 v138:=zeroValue367
 t139:=underlying368
 a139:=isAgg368
 z139:=sizeOf368
 v139:=zeroValue368
 t146:=underlying352
 a146:=isAgg352
 z146:=sizeOf352
 v146:=zeroValue352
 t164:=underlying150
 a164:=isAgg150
 z164:=sizeOf150
 v164:=zeroValue150
 g1:=by kernel_rfl
 g3:=by kernel_rfl
 g4:=by kernel_rfl }
theorem Tryz.Builder_Extra_155:Builder.Extra prog lays155_ren:={
 sizeBuilder:=by kernel_rfl
 liesBuilder:=by kernel_rfl
 t5:=underlying5
 a5:=isAgg5
 z5:=sizeOf5
 v5:=zeroValue5
 infoByte:=by kernel_rfl
 cellsByte:=by kernel_rfl
 sizeByte:=by kernel_rfl
 neB5:=by decide }
open Go.RowKit Go.Lib in
theorem Tryz.strings_ReplaceAll(s old new:ByteArray)(m:Int)(w:World)(hs:s.size<4294967281)(hm:w.cell? ⟨13,0,none⟩=some (.int .i64 m))(h1:1<=old.size)(hlen:s.size+Lib.countB s old*new.size<=140737488355328):
  Calls prog 278 #[.string s,.string old,.string new] w fun e w' =>
   e=.returned (.string ⟨(Lib.replaceAll s.data.toList old.data.toList new.data.toList).toArray⟩)/\Below w.heap.size w w':=Any.strings_ReplaceAll lays155 Builder_Extra_155 s old new m w hs hm h1 hlen
def Tryz.lays110_ren:Go.Shelf.Ren:=⟨fun | 110=>195 | 109=>216 | n=>n,fun | 31=>52 | 9=>9 | 4=>4 | 3=>3 | 0=>0 | n=>n,fun | n=>n⟩
theorem Tryz.lays110:Go.Proofs.Lays.n110 prog lays110_ren:={
 mixed:=by kernel_rfl
 f109:=func216.trans (congrArg some (by kernel_rfl))
 f110:=func195.trans (congrArg some (by kernel_rfl))
 t0:=underlying0
 a0:=isAgg0
 z0:=sizeOf0
 v0:=zeroValue0
 t3:=underlying3
 a3:=isAgg3
 z3:=sizeOf3
 v3:=zeroValue3
 t4:=underlying4
 a4:=isAgg4
 z4:=sizeOf4
 v4:=zeroValue4
 t9:=underlying9
 a9:=isAgg9
 z9:=sizeOf9
 v9:=zeroValue9
 t31:=underlying52
 a31:=isAgg52
 z31:=sizeOf52
 v31:=zeroValue52 }
open Go.Lib in
theorem Tryz.slices_Contains_string(b off n c:Nat)(zs:List ByteArray)(x:ByteArray)(w:World)(hz:n<=zs.length)(hbig:n<=9223372036854775807)(hc:∀ j,j<zs.length->w.cell? ⟨b,off+j,none⟩=some (.string (zs.getD j ByteArray.empty))):
  Calls prog 195 #[.slice (some ⟨b,off,none⟩) n c,.string x] w fun e w'=>e=.returned (.bool (Lib.containsS (zs.take n) x))/\w'=w:=Any.slices_Contains_string lays110 b off n c zs x w hz hbig hc
def Tryz.lays194_ren:Go.Shelf.Ren:=⟨fun | 194=>277 | n=>n,fun | 31=>52 | 9=>9 | 3=>3 | 4=>4 | 0=>0 | n=>n,fun | n=>n⟩
theorem Tryz.lays194:Go.Proofs.Lays.n194 prog lays194_ren:={
 mixed:=by kernel_rfl
 f194:=func277.trans (congrArg some (by kernel_rfl))
 t0:=underlying0
 a0:=isAgg0
 z0:=sizeOf0
 v0:=zeroValue0
 t3:=underlying3
 a3:=isAgg3
 z3:=sizeOf3
 v3:=zeroValue3
 t4:=underlying4
 a4:=isAgg4
 z4:=sizeOf4
 v4:=zeroValue4
 t9:=underlying9
 a9:=isAgg9
 z9:=sizeOf9
 v9:=zeroValue9
 t31:=underlying52
 a31:=isAgg52
 z31:=sizeOf52
 v31:=zeroValue52 }
open Go.RowKit Go.Lib Go.Sort in
theorem Tryz.slices_Compact_string(blk off cap:Nat)(zs:List (List UInt8))(w:World)(hH:Holds encStr w blk off zs.toArray)(hsz:zs.length<=9223372036854775807)(hcap:zs.length<=cap):
  Calls prog 277 #[.slice (some ⟨blk,off,none⟩) zs.length cap] w fun e w'=>e=.returned (.slice (some ⟨blk,off,none⟩) (Lib.compact zs).length cap)/\∃ q,w'=putRow encStr (Sort.ahead w q) blk off (Lib.compact zs++List.replicate (zs.length - (Lib.compact zs).length) []).toArray:=Any.slices_Compact_string lays194 blk off cap zs w hH hsz hcap
open Go.RowKit Go.Lib Go.Sort in
theorem Tryz.slices_Compact_string_empty(a:Option Addr)(cap:Nat)(w:World):
  Calls prog 277 #[.slice a 0 cap] w fun e w'=>e=.returned (.slice a 0 cap)/\w'=w:=Any.slices_Compact_string_empty lays194 a cap w
open Go.RowKit Go.Sort in
theorem Tryz.slices_Sort_string_none(p:Option Addr)(cap:Nat)(w:World):
  Calls prog 48 #[.slice p 0 cap] w fun e w'=>e=.returned (.tuple #[])/\w'=w:=Any.slices_Sort_string_none lays190 p cap w
def Tryz.laysSlE43_f277_ren:Go.Shelf.Ren:=⟨fun | 43=>277 | n=>n,fun | 22=>52 | 23=>9 | 3=>3 | 4=>4 | 0=>0 | n=>n,fun | n=>n⟩
theorem Tryz.laysSlE43_f277:Go.Proofs.SlLaysE.n43 prog laysSlE43_f277_ren:={
 mixed:=by kernel_rfl
 f43:=⟨f277.name,by decide,func277.trans (congrArg some (by kernel_rfl))⟩
 t0:=underlying0
 a0:=isAgg0
 z0:=sizeOf0
 v0:=zeroValue0
 t3:=underlying3
 a3:=isAgg3
 z3:=sizeOf3
 v3:=zeroValue3
 t4:=underlying4
 a4:=isAgg4
 z4:=sizeOf4
 v4:=zeroValue4
 t22:=underlying52
 a22:=isAgg52
 z22:=sizeOf52
 v22:=zeroValue52
 a23:=isAgg9
 z23:=sizeOf9 }
open Go.RowKit Go.Lib Go.Sort in
theorem Tryz.slices_Compact{α:Type}[Inhabited α][DecidableEq α](enc:α->Value)(hO:OneCell enc)(heq:EqlAt prog 9 enc (fun x y=>decide (x=y)))(hne:NeqAt prog 9 enc (fun x y=>decide (x=y)))(zr:α)(v23:∀ w,(zeroValue 9).run prog w=.ok (enc zr) w)(blk off cap:Nat)(d:Array α)(w:World)(hH:Holds enc w blk off d)(hsz:d.size<=9223372036854775807)(hcap:d.size<=cap):
  Calls prog 277 #[.slice (some ⟨blk,off,none⟩) d.size cap] w fun e w'=>e=.returned (.slice (some ⟨blk,off,none⟩) (compactUpTo d d.size).length cap)/\∃ q,w'=putRow enc (Sort.ahead w q) blk off (compactUpTo d d.size++List.replicate (d.size - (compactUpTo d d.size).length) zr).toArray:=AnyE.slices_Compact laysSlE43_f277 enc hO heq hne zr v23 blk off cap d w hH hsz hcap
def Tryz.laysSlH10_f268_ren:Go.Shelf.Ren:=⟨fun | 10=>268 | 6=>284 | n=>n,fun | 22=>52 | 23=>9 | 25=>95 | 3=>3 | 4=>4 | 0=>0 | n=>n,fun | n=>n⟩
theorem Tryz.laysSlH10_f268:Go.Proofs.SlLaysH.n10 prog laysSlH10_f268_ren:={
 mixed:=by kernel_rfl
 f6:=⟨f284.name,by decide,func284.trans (congrArg some (by kernel_rfl))⟩
 f10:=⟨f268.name,by decide,func268.trans (congrArg some (by kernel_rfl))⟩
 t0:=underlying0
 a0:=isAgg0
 z0:=sizeOf0
 v0:=zeroValue0
 t3:=underlying3
 a3:=isAgg3
 z3:=sizeOf3
 v3:=zeroValue3
 t4:=underlying4
 a4:=isAgg4
 z4:=sizeOf4
 v4:=zeroValue4
 t22:=underlying52
 a22:=isAgg52
 z22:=sizeOf52
 v22:=zeroValue52
 a23:=isAgg9
 z23:=sizeOf9
 t25:=underlying95
 a25:=isAgg95
 z25:=sizeOf95
 v25:=zeroValue95 }
open Go.RowKit Go.Lib Go.Sort in
theorem Tryz.slices_DeleteFunc{α:Type}[Inhabited α](enc:α->Value)(hO:OneCell enc)(p:α->Bool)(g:Nat)(lb:Array Value)(eg:∀ args w,(callFunc g args).run prog w=.ok (.enter g args) w)(zr:α)(v23:∀ w,(zeroValue 9).run prog w=.ok (enc zr) w)(blk off cap:Nat)(d:Array α)(w:World)(hp:PredAt prog g lb enc p w)(hpo:PredOver prog g lb enc p blk off d.size w)(hH:Holds enc w blk off d)(hsz:d.size<=9223372036854775807)(hcap:d.size<=cap):
  Calls prog 268 #[.slice (some ⟨blk,off,none⟩) d.size cap,.func (.func g) #[] lb] w fun e w'=>e=.returned (.slice (some ⟨blk,off,none⟩) (d.toList.filter fun x=> !p x).length cap)/\∃ q,w'=putRow enc (Sort.ahead w q) blk off ((d.toList.filter fun x=> !p x)++List.replicate (d.size - (d.toList.filter fun x=> !p x).length) zr).toArray:=AnyE.slices_DeleteFunc laysSlH10_f268 enc hO p g lb eg zr v23 blk off cap d w hp hpo hH hsz hcap
