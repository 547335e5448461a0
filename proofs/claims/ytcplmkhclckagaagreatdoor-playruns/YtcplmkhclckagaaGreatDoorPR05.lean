import Derived.Shelf.Strings.SplitShaped
import Derived.Test.YtcplmkhclckagaaGreatDoorPR04
open Go.Proofs.Tryz
namespace Go.Proofs
open Go.Shelf
def Tryz.lays146_ren:Go.Shelf.Ren:=⟨fun | 146=>285 | 221=>291 | 268=>296 | 138=>292 | 143=>286 | 195=>297 | 197=>293 | 218=>298 | 219=>266 | 260=>299 | 217=>280 | 225=>281 | 224=>282 | 267=>283 | 266=>289 | 314=>290 | n=>n,fun | 9=>9 | 31=>52 | 3=>3 | 4=>4 | 0=>0 | 105=>355 | 21=>21 | 5=>5 | 46=>148 | 119=>365 | 139=>368 | 138=>367 | 146=>352 | 51=>206 | n=>n,fun | 1=>13 | 3=>17 | 4=>18 | n=>n⟩
theorem Tryz.lays146:Go.Proofs.Lays.n146 prog lays146_ren:={
 mixed:=by kernel_rfl
 f138:=func292.trans (congrArg some (by kernel_rfl))
 f143:=func286.trans (congrArg some (by kernel_rfl))
 f146:=func285.trans (congrArg some (by kernel_rfl))
 f195:=func297.trans (congrArg some (by kernel_rfl))
 f197:=func293.trans (congrArg some (by kernel_rfl))
 f217:=func280.trans (congrArg some (by kernel_rfl))
 f218:=func298.trans (congrArg some (by kernel_rfl))
 f219:=func266.trans (congrArg some (by kernel_rfl))
 f221:=func291.trans (congrArg some (by kernel_rfl))
 f224:=func282.trans (congrArg some (by kernel_rfl))
 f225:=func281.trans (congrArg some (by kernel_rfl))
 f260:=func299.trans (congrArg some (by kernel_rfl))
 f266:=func289.trans (congrArg some (by kernel_rfl))
 f267:=func283.trans (congrArg some (by kernel_rfl))
 f268:=func296.trans (congrArg some (by kernel_rfl))
 f314:=func290.trans (congrArg some (by kernel_rfl))
 t0:=underlying0
 a0:=isAgg0
 z0:=sizeOf0
 v0:=zeroValue0
 t3:=underlying3
 a3:=isAgg3
 z3:=sizeOf3
 v3:=zeroValue3
 t4:=underlying4
 a4:=isAgg4
 z4:=sizeOf4
 v4:=zeroValue4
 t5:=underlying5
 a5:=isAgg5
 z5:=sizeOf5
 v5:=zeroValue5
 t9:=underlying9
 a9:=isAgg9
 z9:=sizeOf9
 v9:=zeroValue9
 t21:=underlying21
 a21:=isAgg21
 z21:=sizeOf21
 v21:=zeroValue21
 t31:=underlying52
 a31:=isAgg52
 z31:=sizeOf52
 v31:=zeroValue52
 t46:=underlying148
 a46:=isAgg148
 z46:=sizeOf148
 v46:=zeroValue148
 t51:=underlying206
 a51:=isAgg206
 z51:=sizeOf206
 v51:=zeroValue206
 t105:=underlying355
 a105:=isAgg355
 z105:=sizeOf355
 v105:=zeroValue355
 t119:=underlying365
 a119:=isAgg365
 z119:=sizeOf365
 t138:=underlying367
 a138:=isAgg367
 z138:=sizeOf367
 v138:=zeroValue367
 t139:=underlying368
 a139:=isAgg368
 z139:=sizeOf368
 v139:=zeroValue368
 t146:=underlying352
 a146:=isAgg352
 z146:=sizeOf352
 v146:=zeroValue352
 g1:=by kernel_rfl
 g3:=by kernel_rfl
 g4:=by kernel_rfl }
open Go.RowKit Go.Lib in
theorem Tryz.strings_Split(s sep:ByteArray)(m:Int)(w:World)(hs:s.size<4294967281)(hm:w.cell? ⟨13,0,none⟩=some (.int .i64 m))(h1:1<=sep.size):
  Calls prog 285 #[.string s,.string sep] w fun e w' =>
   e=.returned (.slice (some ⟨w.heap.size,0,none⟩) (Lib.countB s sep+1) (Lib.countB s sep+1))/\w'=w.alloc (.cells ((Lib.splitB sep 0 (Lib.countB s sep) s).map Value.string).toArray 9):=Any.strings_Split lays146 (by kernel_rfl) s sep m w hs hm h1
