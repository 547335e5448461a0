import Derived.Shelf.SlIter.Nil
import Derived.Shelf.SortM.Plain
import Derived.Shelf.SortM.SortNone
import Derived.Test.YtcplmkhclckagaaGreatDoorProg
set_option maxHeartbeats 1000000
open Go.Proofs.Tryz
namespace Go.Proofs
open Go.Shelf Go.RowKit Go.Maps Go.Sort
def Tryz.keys52_ren:Go.Shelf.Ren:=⟨fun | 7=>52 | 10=>86 | n=>n,fun | 23=>103 | 26=>9 | 3=>105 | 28=>101 | 0=>0 | 27=>100 | 33=>95 | 4=>4 | n=>n,fun | n=>n⟩
theorem Tryz.keys52:Go.Proofs.SlLaysZ.n7 prog keys52_ren:={
 mixed:=by kernel_rfl
 f7:=⟨f52.name,by decide,func52.trans (congrArg some (by kernel_rfl))⟩
 f10:=⟨f86.name,by decide,func86.trans (congrArg some (by kernel_rfl))⟩
 t0:=underlying0
 a0:=isAgg0
 z0:=sizeOf0
 v0:=zeroValue0
 t4:=underlying4
 a4:=isAgg4
 z4:=sizeOf4
 v4:=zeroValue4
 t23:=underlying103
 a23:=isAgg103
 z23:=sizeOf103
 v23:=zeroValue103
 t26:=underlying9
 a26:=isAgg9
 z26:=sizeOf9
 v26:=zeroValue9
 t27:=underlying100
 a27:=isAgg100
 z27:=sizeOf100
 v27:=zeroValue100
 t28:=underlying101
 a28:=isAgg101
 z28:=sizeOf101
 v28:=zeroValue101
 t33:=underlying95
 a33:=isAgg95
 z33:=sizeOf95
 v33:=zeroValue95 }
def Tryz.sorted51_ren:Go.Shelf.Ren:=⟨fun | 6=>51 | 8=>85 | 9=>48 | 11=>133 | 13=>83 | 12=>82 | 23=>129 | 24=>130 | 14=>120 | 15=>121 | 16=>122 | 17=>123 | 18=>124 | 19=>125 | 20=>126 | 21=>127 | 22=>128 | 25=>165 | 26=>166 | 27=>167 | 28=>168 | 29=>169 | 30=>170 | 31=>199 | n=>n,fun | 26=>9 | 28=>101 | 24=>52 | 0=>0 | 3=>3 | 37=>148 | 48=>206 | 50=>208 | 4=>4 | 40=>199 | 39=>198 | 45=>203 | 5=>5 | 9=>9 | 51=>255 | 55=>259 | 57=>285 | 58=>87 | 33=>95 | n=>n,fun | n=>n⟩
theorem Tryz.sorted51:Go.Proofs.SlLaysZ.n6 prog sorted51_ren:={
 mixed:=by kernel_rfl
 f6:=⟨f51.name,by decide,func51.trans (congrArg some (by kernel_rfl))⟩
 f8:=⟨f85.name,by decide,func85.trans (congrArg some (by kernel_rfl))⟩
 f11:=⟨f133.name,by decide,func133.trans (congrArg some (by kernel_rfl))⟩
 t0:=underlying0
 a0:=isAgg0
 z0:=sizeOf0
 v0:=zeroValue0
 t24:=underlying52
 a24:=isAgg52
 z24:=sizeOf52
 v24:=zeroValue52
 t26:=underlying9
 a26:=isAgg9
 z26:=sizeOf9
 v26:=zeroValue9
 t28:=underlying101
 a28:=isAgg101
 z28:=sizeOf101
 v28:=zeroValue101
 i26:=by kernel_rfl }
def Tryz.sort48_ren:Go.Shelf.Ren:=⟨fun | 6=>48 | 8=>83 | 9=>82 | 19=>129 | 20=>130 | 21=>120 | 22=>121 | 23=>122 | 24=>123 | 25=>124 | 26=>125 | 27=>126 | 28=>127 | 29=>128 | 36=>165 | 31=>166 | 32=>167 | 37=>168 | 38=>169 | 39=>170 | 41=>199 | n=>n,fun | 27=>52 | 29=>9 | 3=>3 | 32=>148 | 26=>52 | 0=>0 | 44=>206 | 46=>208 | 4=>4 | 36=>199 | 35=>198 | 41=>203 | 5=>5 | 9=>9 | 53=>255 | 57=>259 | 63=>285 | 64=>87 | n=>n,fun | n=>n⟩
theorem Tryz.sort48:Go.Proofs.SlLaysM.n6 prog sort48_ren:={
 mixed:=by kernel_rfl
 f6:=⟨f48.name,by decide,func48.trans (congrArg some (by kernel_rfl))⟩
 f8:=func83.trans (congrArg some (by kernel_rfl))
 f9:=⟨f82.name,by decide,func82.trans (congrArg some (by kernel_rfl))⟩
 f19:=func129.trans (congrArg some (by kernel_rfl))
 f20:=func130.trans (congrArg some (by kernel_rfl))
 f21:=⟨f120.name,by decide,func120.trans (congrArg some (by kernel_rfl))⟩
 f22:=⟨f121.name,by decide,func121.trans (congrArg some (by kernel_rfl))⟩
 f23:=⟨f122.name,by decide,func122.trans (congrArg some (by kernel_rfl))⟩
 f24:=⟨f123.name,by decide,func123.trans (congrArg some (by kernel_rfl))⟩
 f25:=⟨f124.name,by decide,func124.trans (congrArg some (by kernel_rfl))⟩
 f26:=⟨f125.name,by decide,func125.trans (congrArg some (by kernel_rfl))⟩
 f27:=⟨f126.name,by decide,func126.trans (congrArg some (by kernel_rfl))⟩
 f28:=⟨f127.name,by decide,func127.trans (congrArg some (by kernel_rfl))⟩
 f29:=⟨f128.name,by decide,func128.trans (congrArg some (by kernel_rfl))⟩
 f31:=func166.trans (congrArg some (by kernel_rfl))
 f32:=func167.trans (congrArg some (by kernel_rfl))
 f36:=⟨f165.name,by decide,func165.trans (congrArg some (by kernel_rfl))⟩
 f37:=⟨f168.name,by decide,func168.trans (congrArg some (by kernel_rfl))⟩
 f38:=⟨f169.name,by decide,func169.trans (congrArg some (by kernel_rfl))⟩
 f39:=⟨f170.name,by decide,func170.trans (congrArg some (by kernel_rfl))⟩
 f41:=⟨f199.name,by decide,func199.trans (congrArg some (by kernel_rfl))⟩
 t0:=underlying0
 a0:=isAgg0
 z0:=sizeOf0
 v0:=zeroValue0
 t3:=underlying3
 a3:=isAgg3
 z3:=sizeOf3
 v3:=zeroValue3
 t4:=underlying4
 a4:=isAgg4
 z4:=sizeOf4
 v4:=zeroValue4
 t5:=underlying5
 a5:=isAgg5
 z5:=sizeOf5
 v5:=zeroValue5
 t9:=underlying9
 a9:=isAgg9
 z9:=sizeOf9
 v9:=zeroValue9
 t26:=underlying52
 a26:=isAgg52
 z26:=sizeOf52
 v26:=zeroValue52
 t27:=underlying52
 a27:=isAgg52
 z27:=sizeOf52
 v27:=zeroValue52
 t29:=underlying9
 a29:=isAgg9
 z29:=sizeOf9
 v29:=zeroValue9
 t32:=underlying148
 a32:=isAgg148
 z32:=sizeOf148
 v32:=zeroValue148
 t35:=underlying198
 a35:=isAgg198
 z35:=sizeOf198
 v35:=zeroValue198
 t36:=underlying199
 a36:=isAgg199
 z36:=sizeOf199
 v36:=zeroValue199
 t41:=underlying203
 a41:=isAgg203
 z41:=sizeOf203
 v41:=zeroValue203
 t44:=underlying206
 a44:=isAgg206
 z44:=sizeOf206
 v44:=zeroValue206
 t46:=underlying208
 a46:=isAgg208
 z46:=sizeOf208
 v46:=zeroValue208
 t53:=underlying255
 a53:=isAgg255
 z53:=sizeOf255
 v53:=zeroValue255
 t57:=underlying259
 a57:=isAgg259
 z57:=sizeOf259
 v57:=zeroValue259
 t63:=underlying285
 a63:=isAgg285
 z63:=sizeOf285
 v63:=zeroValue285
 t64:=underlying87
 a64:=isAgg87
 z64:=sizeOf87
 v64:=zeroValue87 }
theorem Tryz.sorts51(m:Nat):AnyZ.SortsIn prog sorted51_ren Fence.wide m :=
 ⟨fun blk off cap ss W hH hblk hsz=>callsIn_wide.2 (AnyM.slices_Sort_string sort48 blk off cap ss W hH hblk hsz),
  fun p cap W=>callsIn_wide.2 (AnyM.slices_Sort_string_none sort48 p cap W)⟩
theorem Tryz.maps_Keys_52(mb:Option Nat)(W:World):CallsIn Fence.wide 5 prog 52 #[.map mb] W fun e w'=>e=.returned (.func (.func 86) #[] #[.pointer (some ⟨W.heap.size,0,none⟩)])/\w'=W.alloc (.cells #[.map mb] 103) :=
 AnyZ.keys_in keys52 Fence.wide 5 trivial rfl mb W
theorem Tryz.slices_Sorted_keys_51_52{H:Type}(b nn:Nat)(D0:DataW H)(R:Value->Option (DataW H×List MemPlace))(w:World)(hown:w.ownsMap prog 9 R b nn D0)(hmax:Maps.size D0<=maxLen)(hbytes:Maps.size D0*16<=140737488355328):
  CallsIn Fence.wide 5 prog 51 #[.func (.func 86) #[] #[.pointer (some ⟨w.heap.size,0,none⟩)]] (w.alloc (.cells #[.map (some b)] 103)) fun e w'=>∃(v:Value) (ss:List (List UInt8)),e=.returned v/\ss.Perm (strKeys D0) /\
   w'.ownsRow (w.alloc (.cells #[.map (some b)] 103)).heap.size 9 1 v ss.length ((ss.mergeSort (fun x y=>decide (x<=y))).map encStr)/\(v=.slice none 0 0↔ss=[])/\Below (w.alloc (.cells #[.map (some b)] 103)).heap.size (w.alloc (.cells #[.map (some b)] 103)) w':=by
 have hbl:=hown.lt;have hseq:SeqGives Fence.wide 2 prog 86 #[.pointer (some ⟨w.heap.size,0,none⟩)] encStr (fun ss=>ss.Perm (strKeys D0)) (Maps.size D0) (w.alloc (.cells #[.map (some b)] 103)) :=
  AnyZ.keys_gives (ρ:=keys52_ren) { keys52 with } Fence.wide _ trivial rfl (by omega) w.heap.size b nn D0 _ (by simp) (by simp) (by
   obtain⟨es,clock,hb,Ft,hs,hD⟩:=hown;exact⟨es,clock,(Below.heap_alloc _ _ b hbl).trans hb,Ft,hs,hD⟩)
 exact AnyZ.sorted_in sorted51 Fence.wide 5 trivial trivial trivial trivial rfl (by omega) (sorts51 _) (enters_of func48 (by kernel_rfl) rfl) 86 #[.pointer (some ⟨w.heap.size,0,none⟩)] trivial (enters_of func86 (by kernel_rfl) rfl) _ _ hmax hbytes _ hseq
theorem Tryz.slices_Sorted_keys_nil_51_52(w:World):
  CallsIn Fence.wide 5 prog 51 #[.func (.func 86) #[] #[.pointer (some ⟨w.heap.size,0,none⟩)]] (w.alloc (.cells #[.map none] 103)) fun e w'=>∃(v:Value) (ss:List (List UInt8)),e=.returned v/\ss=[] /\
   w'.ownsRow (w.alloc (.cells #[.map none] 103)).heap.size 9 1 v ss.length ((ss.mergeSort (fun x y=>decide (x<=y))).map encStr)/\(v=.slice none 0 0↔ss=[])/\Below (w.alloc (.cells #[.map none] 103)).heap.size (w.alloc (.cells #[.map none] 103)) w':=by
 have hseq:SeqGives Fence.wide 2 prog 86 #[.pointer (some ⟨w.heap.size,0,none⟩)] encStr (fun ss:List (List UInt8)=>ss=[]) 0 (w.alloc (.cells #[.map none] 103)) :=
  AnyZ.keys_gives_nil (ρ:=keys52_ren) { keys52 with } Fence.wide _ trivial rfl w.heap.size _ (by simp) (by simp)
 exact AnyZ.sorted_in sorted51 Fence.wide 5 trivial trivial trivial trivial rfl (by omega) (sorts51 _) (enters_of func48 (by kernel_rfl) rfl) 86 #[.pointer (some ⟨w.heap.size,0,none⟩)] trivial (enters_of func86 (by kernel_rfl) rfl) _ 0 (Nat.zero_le _) (by omega) _ hseq
