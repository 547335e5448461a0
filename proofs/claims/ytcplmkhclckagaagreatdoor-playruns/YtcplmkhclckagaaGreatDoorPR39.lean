import Derived.Test.YtcplmkhclckagaaGreatDoorPR12
open Go.Proofs.Tryz
namespace Go.Proofs
open Go.Shelf
def Tryz.lays169_renK:Go.Shelf.Ren:=⟨fun | 169=>32 | n=>n,fun | 70=>58 | 9=>9 | 0=>0 | 72=>61 | 37=>59 | 127=>108 | 3=>3 | 5=>5 | n=>n,fun | n=>n⟩
theorem Tryz.lays169K:Go.Proofs.Lays.n169 prog lays169_renK:={
 mixed:=by kernel_rfl
 f169:=func32.trans (congrArg some (by kernel_rfl))
 t0:=underlying0
 a0:=isAgg0
 z0:=sizeOf0
 v0:=zeroValue0
 t3:=underlying3
 a3:=isAgg3
 z3:=sizeOf3
 v3:=zeroValue3
 t9:=underlying9
 a9:=isAgg9
 z9:=sizeOf9
 v9:=zeroValue9
 t37:=underlying59
 a37:=isAgg59
 z37:=sizeOf59
 v37:=zeroValue59
 t70:=underlying58
 a70:=isAgg58
 z70:=sizeOf58
 v70:=zeroValue58
 t72:=underlying61
 a72:=isAgg61
 z72:=sizeOf61
 v72:=zeroValue61
 t127:=underlying108
 a127:=isAgg108
 z127:=sizeOf108
 v127:=zeroValue108 }
theorem Tryz.Builder_Extra_169K:Builder.Extra prog lays169_renK:={
 sizeBuilder:=by kernel_rfl
 liesBuilder:=by kernel_rfl
 t5:=underlying5
 a5:=isAgg5
 z5:=sizeOf5
 v5:=zeroValue5
 infoByte:=by kernel_rfl
 cellsByte:=by kernel_rfl
 sizeByte:=by kernel_rfl
 neB5:=by decide }
open Go.RowKit in
theorem Tryz.Builder_String_any_k(B b:Nat)(l:List UInt8)(w:World)(h:Lib.IsBuilderF 61 5 B b (Lib.byteCells l) w)(hBw:B<=w.heap.size):
  Calls prog 32 #[.pointer (some ⟨b,0,none⟩)] w fun e w'=>e=.returned (.string ⟨l.toArray⟩)/\(Lib.IsBuilderF 61 5 B b (Lib.byteCells l) w'/\Below B w w'/\Lib.OthersKept 5 (some b) w w'):=Any.Builder_String_any_k lays169K Builder_Extra_169K B b l w h hBw
