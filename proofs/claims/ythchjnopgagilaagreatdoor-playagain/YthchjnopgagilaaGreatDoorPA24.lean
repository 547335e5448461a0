import Derived.Shelf.SlGeneric
import Derived.Shelf.SlIter.Nil
import Derived.Shelf.SortM.Plain
import Derived.Shelf.SortM.SortNone
import Derived.Ground.GgzProg
import Derived.Ground.SlgmProg
import Derived.Test.YthchjnopgagilaaGreatDoorProg
set_option maxHeartbeats 1000000
namespace Go.Proofs
open Go.Shelf
def Tryz.keys115_ren : Go.Shelf.Ren := ⟨fun | 7 => 115 | 10 => 180 | n => n,fun | 23 => 167 | 26 => 9 | 3 => 171 | 28 => 179 | 0 => 0 | 27 => 178 | 33 => 33 | 4 => 4 | n => n,fun | n => n⟩
theorem Tryz.keys115 : Go.Proofs.SlLaysZ.n7 Tryz.prog Tryz.keys115_ren := {
 mixed := by kernel_rfl
 f7 := ⟨Tryz.f115.name,by decide,Tryz.func115.trans (congrArg some (by kernel_rfl))⟩
 f10 := ⟨Tryz.f180.name,by decide,Tryz.func180.trans (congrArg some (by kernel_rfl))⟩
 t0 := Tryz.underlying0
 a0 := Tryz.isAgg0
 z0 := Tryz.sizeOf0
 v0 := Tryz.zeroValue0
 t4 := Tryz.underlying4
 a4 := Tryz.isAgg4
 z4 := Tryz.sizeOf4
 v4 := Tryz.zeroValue4
 t23 := Tryz.underlying167
 a23 := Tryz.isAgg167
 z23 := Tryz.sizeOf167
 v23 := Tryz.zeroValue167
 t26 := Tryz.underlying9
 a26 := Tryz.isAgg9
 z26 := Tryz.sizeOf9
 v26 := Tryz.zeroValue9
 t27 := Tryz.underlying178
 a27 := Tryz.isAgg178
 z27 := Tryz.sizeOf178
 v27 := Tryz.zeroValue178
 t28 := Tryz.underlying179
 a28 := Tryz.isAgg179
 z28 := Tryz.sizeOf179
 v28 := Tryz.zeroValue179
 t33 := Tryz.underlying33
 a33 := Tryz.isAgg33
 z33 := Tryz.sizeOf33
 v33 := Tryz.zeroValue33 }
def Tryz.sorted114_ren : Go.Shelf.Ren := ⟨fun | 6 => 114 | 8 => 177 | 9 => 125 | 11 => 239 | 13 => 193 | 12 => 194 | 23 => 274 | 24 => 275 | 14 => 276 | 15 => 277 | 16 => 278 | 17 => 279 | 18 => 280 | 19 => 281 | 20 => 282 | 21 => 283 | 22 => 284 | 25 => 332 | 26 => 327 | 27 => 328 | 28 => 333 | 29 => 334 | 30 => 335 | 31 => 355 | n => n,fun | 26 => 9 | 28 => 179 | 24 => 45 | 0 => 0 | 3 => 3 | 37 => 267 | 48 => 341 | 50 => 343 | 4 => 4 | 40 => 334 | 39 => 333 | 45 => 199 | 5 => 5 | 9 => 9 | 51 => 387 | 55 => 391 | 57 => 408 | 58 => 158 | 33 => 33 | n => n,fun | n => n⟩
theorem Tryz.sorted114 : Go.Proofs.SlLaysZ.n6 Tryz.prog Tryz.sorted114_ren := {
 mixed := by kernel_rfl
 f6 := ⟨Tryz.f114.name,by decide,Tryz.func114.trans (congrArg some (by kernel_rfl))⟩
 f8 := ⟨Tryz.f177.name,by decide,Tryz.func177.trans (congrArg some (by kernel_rfl))⟩
 f11 := ⟨Tryz.f239.name,by decide,Tryz.func239.trans (congrArg some (by kernel_rfl))⟩
 t0 := Tryz.underlying0
 a0 := Tryz.isAgg0
 z0 := Tryz.sizeOf0
 v0 := Tryz.zeroValue0
 t24 := Tryz.underlying45
 a24 := Tryz.isAgg45
 z24 := Tryz.sizeOf45
 v24 := Tryz.zeroValue45
 t26 := Tryz.underlying9
 a26 := Tryz.isAgg9
 z26 := Tryz.sizeOf9
 v26 := Tryz.zeroValue9
 t28 := Tryz.underlying179
 a28 := Tryz.isAgg179
 z28 := Tryz.sizeOf179
 v28 := Tryz.zeroValue179
 i26 := by kernel_rfl }
def Tryz.sort125_ren : Go.Shelf.Ren := ⟨fun | 6 => 125 | 8 => 193 | 9 => 194 | 19 => 274 | 20 => 275 | 21 => 276 | 22 => 277 | 23 => 278 | 24 => 279 | 25 => 280 | 26 => 281 | 27 => 282 | 28 => 283 | 29 => 284 | 36 => 332 | 31 => 327 | 32 => 328 | 37 => 333 | 38 => 334 | 39 => 335 | 41 => 355 | n => n,fun | 27 => 45 | 29 => 9 | 3 => 3 | 32 => 267 | 26 => 45 | 0 => 0 | 44 => 341 | 46 => 343 | 4 => 4 | 36 => 334 | 35 => 333 | 41 => 199 | 5 => 5 | 9 => 9 | 53 => 387 | 57 => 391 | 63 => 408 | 64 => 158 | n => n,fun | n => n⟩
theorem Tryz.sort125 : Go.Proofs.SlLaysM.n6 Tryz.prog Tryz.sort125_ren := {
 mixed := by kernel_rfl
 f6 := ⟨Tryz.f125.name,by decide,Tryz.func125.trans (congrArg some (by kernel_rfl))⟩
 f8 := Tryz.func193.trans (congrArg some (by kernel_rfl))
 f9 := ⟨Tryz.f194.name,by decide,Tryz.func194.trans (congrArg some (by kernel_rfl))⟩
 f19 := Tryz.func274.trans (congrArg some (by kernel_rfl))
 f20 := Tryz.func275.trans (congrArg some (by kernel_rfl))
 f21 := ⟨Tryz.f276.name,by decide,Tryz.func276.trans (congrArg some (by kernel_rfl))⟩
 f22 := ⟨Tryz.f277.name,by decide,Tryz.func277.trans (congrArg some (by kernel_rfl))⟩
 f23 := ⟨Tryz.f278.name,by decide,Tryz.func278.trans (congrArg some (by kernel_rfl))⟩
 f24 := ⟨Tryz.f279.name,by decide,Tryz.func279.trans (congrArg some (by kernel_rfl))⟩
 f25 := ⟨Tryz.f280.name,by decide,Tryz.func280.trans (congrArg some (by kernel_rfl))⟩
 f26 := ⟨Tryz.f281.name,by decide,Tryz.func281.trans (congrArg some (by kernel_rfl))⟩
 f27 := ⟨Tryz.f282.name,by decide,Tryz.func282.trans (congrArg some (by kernel_rfl))⟩
 f28 := ⟨Tryz.f283.name,by decide,Tryz.func283.trans (congrArg some (by kernel_rfl))⟩
 f29 := ⟨Tryz.f284.name,by decide,Tryz.func284.trans (congrArg some (by kernel_rfl))⟩
 f31 := Tryz.func327.trans (congrArg some (by kernel_rfl))
 f32 := Tryz.func328.trans (congrArg some (by kernel_rfl))
 f36 := ⟨Tryz.f332.name,by decide,Tryz.func332.trans (congrArg some (by kernel_rfl))⟩
 f37 := ⟨Tryz.f333.name,by decide,Tryz.func333.trans (congrArg some (by kernel_rfl))⟩
 f38 := ⟨Tryz.f334.name,by decide,Tryz.func334.trans (congrArg some (by kernel_rfl))⟩
 f39 := ⟨Tryz.f335.name,by decide,Tryz.func335.trans (congrArg some (by kernel_rfl))⟩
 f41 := ⟨Tryz.f355.name,by decide,Tryz.func355.trans (congrArg some (by kernel_rfl))⟩
 t0 := Tryz.underlying0
 a0 := Tryz.isAgg0
 z0 := Tryz.sizeOf0
 v0 := Tryz.zeroValue0
 t3 := Tryz.underlying3
 a3 := Tryz.isAgg3
 z3 := Tryz.sizeOf3
 v3 := Tryz.zeroValue3
 t4 := Tryz.underlying4
 a4 := Tryz.isAgg4
 z4 := Tryz.sizeOf4
 v4 := Tryz.zeroValue4
 t5 := Tryz.underlying5
 a5 := Tryz.isAgg5
 z5 := Tryz.sizeOf5
 v5 := Tryz.zeroValue5
 t9 := Tryz.underlying9
 a9 := Tryz.isAgg9
 z9 := Tryz.sizeOf9
 v9 := Tryz.zeroValue9
 t26 := Tryz.underlying45
 a26 := Tryz.isAgg45
 z26 := Tryz.sizeOf45
 v26 := Tryz.zeroValue45
 t27 := Tryz.underlying45
 a27 := Tryz.isAgg45
 z27 := Tryz.sizeOf45
 v27 := Tryz.zeroValue45
 t29 := Tryz.underlying9
 a29 := Tryz.isAgg9
 z29 := Tryz.sizeOf9
 v29 := Tryz.zeroValue9
 t32 := Tryz.underlying267
 a32 := Tryz.isAgg267
 z32 := Tryz.sizeOf267
 v32 := Tryz.zeroValue267
 t35 := Tryz.underlying333
 a35 := Tryz.isAgg333
 z35 := Tryz.sizeOf333
 v35 := Tryz.zeroValue333
 t36 := Tryz.underlying334
 a36 := Tryz.isAgg334
 z36 := Tryz.sizeOf334
 v36 := Tryz.zeroValue334
 t41 := Tryz.underlying199
 a41 := Tryz.isAgg199
 z41 := Tryz.sizeOf199
 v41 := Tryz.zeroValue199
 t44 := Tryz.underlying341
 a44 := Tryz.isAgg341
 z44 := Tryz.sizeOf341
 v44 := Tryz.zeroValue341
 t46 := Tryz.underlying343
 a46 := Tryz.isAgg343
 z46 := Tryz.sizeOf343
 v46 := Tryz.zeroValue343
 t53 := Tryz.underlying387
 a53 := Tryz.isAgg387
 z53 := Tryz.sizeOf387
 v53 := Tryz.zeroValue387
 t57 := Tryz.underlying391
 a57 := Tryz.isAgg391
 z57 := Tryz.sizeOf391
 v57 := Tryz.zeroValue391
 t63 := Tryz.underlying408
 a63 := Tryz.isAgg408
 z63 := Tryz.sizeOf408
 v63 := Tryz.zeroValue408
 t64 := Tryz.underlying158
 a64 := Tryz.isAgg158
 z64 := Tryz.sizeOf158
 v64 := Tryz.zeroValue158 }
open Go.RowKit Go.Maps Go.Sort Go.Shelf
theorem Tryz.sorts114 (m : Nat) : AnyZ.SortsIn Tryz.prog Tryz.sorted114_ren Fence.wide m :=
 ⟨fun blk off cap ss W hH hblk hsz => callsIn_wide.2 (AnyM.slices_Sort_string Tryz.sort125 blk off cap ss W hH hblk hsz),
  fun p cap W => callsIn_wide.2 (AnyM.slices_Sort_string_none Tryz.sort125 p cap W)⟩
theorem Tryz.maps_Keys_115 (mb : Option Nat) (W : World) : CallsIn Fence.wide 5 Tryz.prog 115 #[.map mb] W fun e w' => e = .returned (.func (.func 180) #[] #[.pointer (some ⟨W.heap.size,0,none⟩)]) ∧ w' = W.alloc (.cells #[.map mb] 167) :=
 AnyZ.keys_in Tryz.keys115 Fence.wide 5 trivial rfl mb W
theorem Tryz.slices_Sorted_keys_114_115 {H : Type} (b nn : Nat) (D0 : DataW H) (R : Value → Option (DataW H × List MemPlace)) (w : World) (hown : w.ownsMap Tryz.prog 9 R b nn D0) (hmax : Maps.size D0 ≤ maxLen) (hbytes : Maps.size D0 * 16 ≤ 140737488355328) :
  CallsIn Fence.wide 5 Tryz.prog 114 #[.func (.func 180) #[] #[.pointer (some ⟨w.heap.size,0,none⟩)]] (w.alloc (.cells #[.map (some b)] 167)) fun e w' => ∃ (v : Value) (ss : List (List UInt8)),e = .returned v ∧ ss.Perm (strKeys D0) ∧
   w'.ownsRow (w.alloc (.cells #[.map (some b)] 167)).heap.size 9 1 v ss.length ((ss.mergeSort (fun x y => decide (x ≤ y))).map encStr) ∧ (v = .slice none 0 0 ↔ ss = []) ∧ Below (w.alloc (.cells #[.map (some b)] 167)).heap.size (w.alloc (.cells #[.map (some b)] 167)) w' := by
 have hbl := hown.lt
 have hseq : SeqGives Fence.wide 2 Tryz.prog 180 #[.pointer (some ⟨w.heap.size,0,none⟩)] encStr (fun ss => ss.Perm (strKeys D0)) (Maps.size D0) (w.alloc (.cells #[.map (some b)] 167)) :=
  AnyZ.keys_gives (ρ := Tryz.keys115_ren) { Tryz.keys115 with } Fence.wide _ trivial rfl (by omega) w.heap.size b nn D0 _ (by simp) (by simp) (by
   obtain ⟨es,clock,hb,Ft,hs,hD⟩ := hown
   exact ⟨es,clock,(Below.heap_alloc _ _ b hbl).trans hb,Ft,hs,hD⟩)
 exact AnyZ.sorted_in Tryz.sorted114 Fence.wide 5 trivial trivial trivial trivial rfl (by omega) (Tryz.sorts114 _) (enters_of Tryz.func125 (by kernel_rfl) rfl) 180 #[.pointer (some ⟨w.heap.size,0,none⟩)] trivial (enters_of Tryz.func180 (by kernel_rfl) rfl) _ _ hmax hbytes _ hseq
theorem Tryz.slices_Sorted_keys_nil_114_115 (w : World) :
  CallsIn Fence.wide 5 Tryz.prog 114 #[.func (.func 180) #[] #[.pointer (some ⟨w.heap.size,0,none⟩)]] (w.alloc (.cells #[.map none] 167)) fun e w' => ∃ (v : Value) (ss : List (List UInt8)),e = .returned v ∧ ss = [] ∧
   w'.ownsRow (w.alloc (.cells #[.map none] 167)).heap.size 9 1 v ss.length ((ss.mergeSort (fun x y => decide (x ≤ y))).map encStr) ∧ (v = .slice none 0 0 ↔ ss = []) ∧ Below (w.alloc (.cells #[.map none] 167)).heap.size (w.alloc (.cells #[.map none] 167)) w' := by
 have hseq : SeqGives Fence.wide 2 Tryz.prog 180 #[.pointer (some ⟨w.heap.size,0,none⟩)] encStr (fun ss : List (List UInt8) => ss = []) 0 (w.alloc (.cells #[.map none] 167)) :=
  AnyZ.keys_gives_nil (ρ := Tryz.keys115_ren) { Tryz.keys115 with } Fence.wide _ trivial rfl w.heap.size _ (by simp) (by simp)
 exact AnyZ.sorted_in Tryz.sorted114 Fence.wide 5 trivial trivial trivial trivial rfl (by omega) (Tryz.sorts114 _) (enters_of Tryz.func125 (by kernel_rfl) rfl) 180 #[.pointer (some ⟨w.heap.size,0,none⟩)] trivial (enters_of Tryz.func180 (by kernel_rfl) rfl) _ 0 (Nat.zero_le _) (by omega) _ hseq
end Go.Proofs
