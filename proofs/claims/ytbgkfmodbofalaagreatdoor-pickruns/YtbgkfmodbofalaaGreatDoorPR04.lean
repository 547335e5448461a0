import Derived.Shelf.Strings.Builder1
import Derived.Shelf.Small.Bits
import Derived.Shelf.Small.Wraps
import Derived.Shelf.Strings.BuilderF
import Derived.Shelf.Strings.BuilderK
import Derived.Shelf.Strconv.Atoi
import Derived.Shelf.Strconv.Itoa0
import Derived.Shelf.Strconv.Itoa1
import Derived.Shelf.LaysM
import Derived.Shelf.Strconv.Itoa2
import Derived.Shelf.Strconv.Itoa3
import Derived.Shelf.Strconv.AtoiErrFast
import Derived.Shelf.Strconv.ParseIntEmpty
import Derived.Shelf.Strconv.AtoiFail
import Derived.Shelf.Strconv.Clone
import Derived.Shelf.Strconv.SyntaxError
import Derived.Shelf.LaysC
import Derived.Shelf.Strconv.ToError
import Derived.Shelf.Strconv.AtoiErr
import Derived.Shelf.Strconv.Lower
import Derived.Shelf.Strconv.ParseUint10
import Derived.Shelf.Strconv.ParseUint10Empty
import Derived.Shelf.Strconv.ParseUint10Any
import Derived.Shelf.Strconv.ParseInt10
import Derived.Shelf.Strconv.AtoiLong
import Derived.Shelf.Strconv.AtoiInnerAll
import Derived.Shelf.Strconv.RangeError
import Derived.Shelf.Strconv.ToErrorRange
import Derived.Shelf.Strconv.AtoiAll
import Derived.Shelf.Strings.Search1
import Derived.Shelf.Strings.Search2
import Derived.Shelf.Strings.Search3
import Derived.Shelf.Strings.Cut
import Derived.Shelf.Strings.Count
import Derived.Shelf.Strings.Shaped
import Derived.Shelf.GgClosure.StringsIndexFunc
import Derived.Ground.GgwProg
import Derived.Shelf.GgClosure.StringsIndexFuncTop
import Derived.Shelf.GgClosure.StringsRunes
import Derived.Shelf.Strings.Prefix
import Derived.Shelf.Unicode.DecodeSlow
import Derived.Shelf.Unicode.DecodeAny
import Derived.Ground.SlgmProg
import Derived.Shelf.SortM.Plain
import Derived.Shelf.SortM.SortNone
import Derived.Test.YtbgkfmodbofalaaGreatDoorProg
namespace Go.Proofs
open Go.Shelf
def Tryz.lays166_ren : Go.Shelf.Ren := ⟨fun | 166 => 97 | 240 => 152 | 276 => 209 | n => n,fun | 0 => 0 | 3 => 3 | 4 => 4 | 5 => 5 | 9 => 9 | 20 => 20 | 37 => 152 | 70 => 151 | 72 => 154 | 75 => 25 | 76 => 132 | 80 => 32 | 127 => 232 | 164 => 279 | n => n,fun | n => n⟩
theorem Tryz.lays166 : Go.Proofs.Lays.n166 Tryz.prog Tryz.lays166_ren := {
 mixed := by kernel_rfl
 f166 := Tryz.func97.trans (congrArg some (by kernel_rfl))
 f240 := Tryz.func152.trans (congrArg some (by kernel_rfl))
 f276 := Tryz.func209.trans (congrArg some (by kernel_rfl))
 t0 := Tryz.underlying0
 a0 := Tryz.isAgg0
 z0 := Tryz.sizeOf0
 v0 := Tryz.zeroValue0
 t3 := Tryz.underlying3
 a3 := Tryz.isAgg3
 z3 := Tryz.sizeOf3
 v3 := Tryz.zeroValue3
 t4 := Tryz.underlying4
 a4 := Tryz.isAgg4
 z4 := Tryz.sizeOf4
 v4 := Tryz.zeroValue4
 t9 := Tryz.underlying9
 a9 := Tryz.isAgg9
 z9 := Tryz.sizeOf9
 v9 := Tryz.zeroValue9
 t20 := Tryz.underlying20
 a20 := Tryz.isAgg20
 z20 := Tryz.sizeOf20
 v20 := Tryz.zeroValue20
 t37 := Tryz.underlying152
 a37 := Tryz.isAgg152
 z37 := Tryz.sizeOf152
 v37 := Tryz.zeroValue152
 t70 := Tryz.underlying151
 a70 := Tryz.isAgg151
 z70 := Tryz.sizeOf151
 v70 := Tryz.zeroValue151
 t72 := Tryz.underlying154
 a72 := Tryz.isAgg154
 z72 := Tryz.sizeOf154
 v72 := Tryz.zeroValue154
 t75 := Tryz.underlying25
 a75 := Tryz.isAgg25
 z75 := Tryz.sizeOf25
 v75 := Tryz.zeroValue25
 t164 := Tryz.underlying279
 a164 := Tryz.isAgg279
 z164 := Tryz.sizeOf279
 v164 := Tryz.zeroValue279 }
theorem Tryz.Builder_Extra_166 : Builder.Extra Tryz.prog Tryz.lays166_ren := {
 sizeBuilder := by kernel_rfl
 liesBuilder := by kernel_rfl
 t5 := Tryz.underlying5
 a5 := Tryz.isAgg5
 z5 := Tryz.sizeOf5
 v5 := Tryz.zeroValue5
 infoByte := by kernel_rfl
 cellsByte := by kernel_rfl
 sizeByte := by kernel_rfl
 neB5 := by decide }
def Tryz.lays169_ren : Go.Shelf.Ren := ⟨fun | 169 => 99 | n => n,fun | 70 => 151 | 9 => 9 | 0 => 0 | 72 => 154 | 37 => 152 | 127 => 232 | 3 => 3 | 5 => 5 | n => n,fun | n => n⟩
theorem Tryz.lays169 : Go.Proofs.Lays.n169 Tryz.prog Tryz.lays169_ren := {
 mixed := by kernel_rfl
 f169 := Tryz.func99.trans (congrArg some (by kernel_rfl))
 t0 := Tryz.underlying0
 a0 := Tryz.isAgg0
 z0 := Tryz.sizeOf0
 v0 := Tryz.zeroValue0
 t3 := Tryz.underlying3
 a3 := Tryz.isAgg3
 z3 := Tryz.sizeOf3
 v3 := Tryz.zeroValue3
 t9 := Tryz.underlying9
 a9 := Tryz.isAgg9
 z9 := Tryz.sizeOf9
 v9 := Tryz.zeroValue9
 t37 := Tryz.underlying152
 a37 := Tryz.isAgg152
 z37 := Tryz.sizeOf152
 v37 := Tryz.zeroValue152
 t70 := Tryz.underlying151
 a70 := Tryz.isAgg151
 z70 := Tryz.sizeOf151
 v70 := Tryz.zeroValue151
 t72 := Tryz.underlying154
 a72 := Tryz.isAgg154
 z72 := Tryz.sizeOf154
 v72 := Tryz.zeroValue154
 t127 := Tryz.underlying232
 a127 := Tryz.isAgg232
 z127 := Tryz.sizeOf232
 v127 := Tryz.zeroValue232 }
theorem Tryz.Builder_Extra_169 : Builder.Extra Tryz.prog Tryz.lays169_ren := {
 sizeBuilder := by kernel_rfl
 liesBuilder := by kernel_rfl
 t5 := Tryz.underlying5
 a5 := Tryz.isAgg5
 z5 := Tryz.sizeOf5
 v5 := Tryz.zeroValue5
 infoByte := by kernel_rfl
 cellsByte := by kernel_rfl
 sizeByte := by kernel_rfl
 neB5 := by decide }
def Tryz.lays172_ren : Go.Shelf.Ren := ⟨fun | 172 => 277 | 244 => 314 | 245 => 315 | 247 => 335 | 279 => 336 | 280 => 337 | 281 => 338 | 282 => 339 | 287 => 349 | 316 => 350 | 171 => 98 | 205 => 351 | 321 => 355 | 322 => 356 | 243 => 153 | 246 => 210 | 283 => 281 | 284 => 282 | 285 => 283 | 286 => 284 | 129 => 254 | 317 => 316 | 318 => 317 | 319 => 318 | 320 => 319 | 337 => 340 | 338 => 341 | n => n,fun | 9 => 9 | 3 => 3 | 75 => 25 | 76 => 132 | 4 => 4 | 5 => 5 | 167 => 388 | 37 => 152 | 0 => 0 | 85 => 389 | 2 => 2 | 168 => 391 | 53 => 321 | 175 => 400 | 46 => 246 | 210 => 403 | 127 => 232 | 145 => 409 | 143 => 407 | 21 => 21 | 171 => 354 | 173 => 356 | 212 => 374 | 51 => 319 | 20 => 20 | 213 => 375 | 232 => 404 | 233 => 405 | 80 => 32 | n => n,fun | 15 => 15 | 16 => 16 | 17 => 13 | 18 => 17 | 19 => 18 | n => n⟩
theorem Tryz.lays172 : Go.Proofs.Lays.n172 Tryz.prog Tryz.lays172_ren := {
 mixed := by kernel_rfl
 f129 := Tryz.func254.trans (congrArg some (by kernel_rfl))
 f171 := Tryz.func98.trans (congrArg some (by kernel_rfl))
 f172 := Tryz.func277.trans (congrArg some (by kernel_rfl))
 f205 := Tryz.func351.trans (congrArg some (by kernel_rfl))
 f243 := Tryz.func153.trans (congrArg some (by kernel_rfl))
 f244 := Tryz.func314.trans (congrArg some (by kernel_rfl))
 f245 := Tryz.func315.trans (congrArg some (by kernel_rfl))
 f246 := Tryz.func210.trans (congrArg some (by kernel_rfl))
 f247 := Tryz.func335.trans (congrArg some (by kernel_rfl))
 f279 := Tryz.func336.trans (congrArg some (by kernel_rfl))
 f280 := Tryz.func337.trans (congrArg some (by kernel_rfl))
 f281 := Tryz.func338.trans (congrArg some (by kernel_rfl))
 f282 := Tryz.func339.trans (congrArg some (by kernel_rfl))
 f283 := Tryz.func281.trans (congrArg some (by kernel_rfl))
 f284 := Tryz.func282.trans (congrArg some (by kernel_rfl))
 f285 := Tryz.func283.trans (congrArg some (by kernel_rfl))
 f286 := Tryz.func284.trans (congrArg some (by kernel_rfl))
 f287 := Tryz.func349.trans (congrArg some (by kernel_rfl))
 f316 := Tryz.func350.trans (congrArg some (by kernel_rfl))
 f317 := Tryz.func316.trans (congrArg some (by kernel_rfl))
 f318 := Tryz.func317.trans (congrArg some (by kernel_rfl))
 f319 := Tryz.func318.trans (congrArg some (by kernel_rfl))
 f320 := Tryz.func319.trans (congrArg some (by kernel_rfl))
 f321 := Tryz.func355.trans (congrArg some (by kernel_rfl))
 f322 := Tryz.func356.trans (congrArg some (by kernel_rfl))
 f337 := Tryz.func340.trans (congrArg some (by kernel_rfl))
 f338 := Tryz.func341.trans (congrArg some (by kernel_rfl))
 t0 := Tryz.underlying0
 a0 := Tryz.isAgg0
 z0 := Tryz.sizeOf0
 v0 := Tryz.zeroValue0
 t2 := Tryz.underlying2
 a2 := Tryz.isAgg2
 z2 := Tryz.sizeOf2
 v2 := Tryz.zeroValue2
 t3 := Tryz.underlying3
 a3 := Tryz.isAgg3
 z3 := Tryz.sizeOf3
 v3 := Tryz.zeroValue3
 t4 := Tryz.underlying4
 a4 := Tryz.isAgg4
 z4 := Tryz.sizeOf4
 v4 := Tryz.zeroValue4
 t5 := Tryz.underlying5
 a5 := Tryz.isAgg5
 z5 := Tryz.sizeOf5
 v5 := Tryz.zeroValue5
 t9 := Tryz.underlying9
 a9 := Tryz.isAgg9
 z9 := Tryz.sizeOf9
 v9 := Tryz.zeroValue9
 t20 := Tryz.underlying20
 a20 := Tryz.isAgg20
 z20 := Tryz.sizeOf20
 v20 := Tryz.zeroValue20
 t21 := Tryz.underlying21
 a21 := Tryz.isAgg21
 z21 := Tryz.sizeOf21
 v21 := Tryz.zeroValue21
 t37 := Tryz.underlying152
 a37 := Tryz.isAgg152
 z37 := Tryz.sizeOf152
 v37 := Tryz.zeroValue152
 t46 := Tryz.underlying246
 a46 := Tryz.isAgg246
 z46 := Tryz.sizeOf246
 v46 := Tryz.zeroValue246
 t51 := Tryz.underlying319
 a51 := Tryz.isAgg319
 z51 := Tryz.sizeOf319
 v51 := Tryz.zeroValue319
 t53 := Tryz.underlying321
 a53 := Tryz.isAgg321
 z53 := Tryz.sizeOf321
 v53 := Tryz.zeroValue321
 t75 := Tryz.underlying25
 a75 := Tryz.isAgg25
 z75 := Tryz.sizeOf25
 v75 := Tryz.zeroValue25
 t76 := Tryz.underlying132
 a76 := Tryz.isAgg132
 z76 := Tryz.sizeOf132
 v76 := Tryz.zeroValue132
 t85 := Tryz.underlying389
 a85 := Tryz.isAgg389
 z85 := Tryz.sizeOf389
 v85 := Tryz.zeroValue389
 t127 := Tryz.underlying232
 a127 := Tryz.isAgg232
 z127 := Tryz.sizeOf232
 v127 := Tryz.zeroValue232
 t143 := Tryz.underlying407
 a143 := Tryz.isAgg407
 z143 := Tryz.sizeOf407
 v143 := Tryz.zeroValue407
 t145 := Tryz.underlying409
 a145 := Tryz.isAgg409
 z145 := Tryz.sizeOf409
 v145 := Tryz.zeroValue409
 t167 := Tryz.underlying388
 a167 := Tryz.isAgg388
 z167 := Tryz.sizeOf388
 v167 := Tryz.zeroValue388
 t168 := Tryz.underlying391
 a168 := Tryz.isAgg391
 z168 := Tryz.sizeOf391
 v168 := Tryz.zeroValue391
 t171 := Tryz.underlying354
 a171 := Tryz.isAgg354
 z171 := Tryz.sizeOf354
 v171 := Tryz.zeroValue354
 t173 := Tryz.underlying356
 a173 := Tryz.isAgg356
 z173 := Tryz.sizeOf356
 v173 := Tryz.zeroValue356
 t175 := Tryz.underlying400
 a175 := Tryz.isAgg400
 z175 := Tryz.sizeOf400
 v175 := Tryz.zeroValue400
 t210 := Tryz.underlying403
 a210 := Tryz.isAgg403
 z210 := Tryz.sizeOf403
 v210 := Tryz.zeroValue403
 t212 := Tryz.underlying374
 a212 := Tryz.isAgg374
 z212 := Tryz.sizeOf374
 v212 := Tryz.zeroValue374
 t213 := Tryz.underlying375
 a213 := Tryz.isAgg375
 z213 := Tryz.sizeOf375
 t232 := Tryz.underlying404
 a232 := Tryz.isAgg404
 z232 := Tryz.sizeOf404
 v232 := Tryz.zeroValue404
 t233 := Tryz.underlying405
 a233 := Tryz.isAgg405
 z233 := Tryz.sizeOf405
 v233 := Tryz.zeroValue405
 g15 := by kernel_rfl
 g16 := by kernel_rfl
 g17 := by kernel_rfl
 g18 := by kernel_rfl
 g19 := by kernel_rfl }
open Go.RowKit in
theorem Tryz.strconv_Atoi (s : ByteArray) (n : Int) (hl : s.size <= 18) (h : Lib.atoi s.data.toList = some n) (w : World) :
  Calls Tryz.prog 277 #[.string s] w fun e w' => e = .returned (.tuple #[.int .i64 n,.nilIface]) /\ ∃ t,w' = Lib.bytesWorld w 5 t := Any.strconv_Atoi Tryz.lays172 s n hl h w
def Tryz.laysM171_ren : Go.Shelf.Ren := ⟨fun | 171 => 98 | 243 => 153 | 246 => 210 | 283 => 281 | 284 => 282 | 285 => 283 | 286 => 284 | 129 => 254 | 317 => 316 | 318 => 317 | 319 => 318 | 320 => 319 | 337 => 340 | 338 => 341 | n => n,fun | 3 => 3 | 9 => 9 | 2 => 2 | 4 => 4 | 171 => 354 | 0 => 0 | 53 => 321 | 37 => 152 | 5 => 5 | 173 => 356 | 212 => 374 | 51 => 319 | 20 => 20 | 213 => 375 | 46 => 246 | 232 => 404 | 233 => 405 | n => n,fun | 17 => 13 | 18 => 17 | 19 => 18 | n => n⟩
theorem Tryz.laysM171 : Go.Proofs.LaysM.n171 Tryz.prog Tryz.laysM171_ren := {
 mixed := by kernel_rfl
 f129 := Tryz.func254.trans (congrArg some (by kernel_rfl))
 f171 := Tryz.func98.trans (congrArg some (by kernel_rfl))
 f243 := Tryz.func153.trans (congrArg some (by kernel_rfl))
 f246 := Tryz.func210.trans (congrArg some (by kernel_rfl))
 f283 := Tryz.func281.trans (congrArg some (by kernel_rfl))
 f284 := Tryz.func282.trans (congrArg some (by kernel_rfl))
 f285 := Tryz.func283.trans (congrArg some (by kernel_rfl))
 f286 := Tryz.func284.trans (congrArg some (by kernel_rfl))
 f317 := Tryz.func316.trans (congrArg some (by kernel_rfl))
 f318 := Tryz.func317.trans (congrArg some (by kernel_rfl))
 f319 := Tryz.func318.trans (congrArg some (by kernel_rfl))
 f320 := Tryz.func319.trans (congrArg some (by kernel_rfl))
 f337 := Tryz.func340.trans (congrArg some (by kernel_rfl))
 f338 := Tryz.func341.trans (congrArg some (by kernel_rfl))
 t0 := Tryz.underlying0
 a0 := Tryz.isAgg0
 z0 := Tryz.sizeOf0
 v0 := Tryz.zeroValue0
 t2 := Tryz.underlying2
 a2 := Tryz.isAgg2
 z2 := Tryz.sizeOf2
 v2 := Tryz.zeroValue2
 t3 := Tryz.underlying3
 a3 := Tryz.isAgg3
 z3 := Tryz.sizeOf3
 v3 := Tryz.zeroValue3
 t4 := Tryz.underlying4
 a4 := Tryz.isAgg4
 z4 := Tryz.sizeOf4
 v4 := Tryz.zeroValue4
 t5 := Tryz.underlying5
 a5 := Tryz.isAgg5
 z5 := Tryz.sizeOf5
 v5 := Tryz.zeroValue5
 t9 := Tryz.underlying9
 a9 := Tryz.isAgg9
 z9 := Tryz.sizeOf9
 v9 := Tryz.zeroValue9
 t20 := Tryz.underlying20
 a20 := Tryz.isAgg20
 z20 := Tryz.sizeOf20
 v20 := Tryz.zeroValue20
 t37 := Tryz.underlying152
 a37 := Tryz.isAgg152
 z37 := Tryz.sizeOf152
 v37 := Tryz.zeroValue152
 t46 := Tryz.underlying246
 a46 := Tryz.isAgg246
 z46 := Tryz.sizeOf246
 v46 := Tryz.zeroValue246
 t51 := Tryz.underlying319
 a51 := Tryz.isAgg319
 z51 := Tryz.sizeOf319
 v51 := Tryz.zeroValue319
 t53 := Tryz.underlying321
 a53 := Tryz.isAgg321
 z53 := Tryz.sizeOf321
 v53 := Tryz.zeroValue321
 t171 := Tryz.underlying354
 a171 := Tryz.isAgg354
 z171 := Tryz.sizeOf354
 v171 := Tryz.zeroValue354
 t173 := Tryz.underlying356
 a173 := Tryz.isAgg356
 z173 := Tryz.sizeOf356
 v173 := Tryz.zeroValue356
 t212 := Tryz.underlying374
 a212 := Tryz.isAgg374
 z212 := Tryz.sizeOf374
 v212 := Tryz.zeroValue374
 t213 := Tryz.underlying375
 a213 := Tryz.isAgg375
 z213 := Tryz.sizeOf375
 t232 := Tryz.underlying404
 a232 := Tryz.isAgg404
 z232 := Tryz.sizeOf404
 v232 := Tryz.zeroValue404
 t233 := Tryz.underlying405
 a233 := Tryz.isAgg405
 z233 := Tryz.sizeOf405
 v233 := Tryz.zeroValue405
 g17 := by kernel_rfl
 g18 := by kernel_rfl
 g19 := by kernel_rfl
 i0 := by kernel_rfl
 i2 := by kernel_rfl
 i3 := by kernel_rfl
 i4 := by kernel_rfl
 i5 := by kernel_rfl
 i9 := by kernel_rfl
 i20 := by kernel_rfl
 i37 := by kernel_rfl
 i46 := by kernel_rfl
 i51 := by kernel_rfl
 i53 := by kernel_rfl
 i171 := by kernel_rfl
 i173 := by kernel_rfl
 i212 := by kernel_rfl
 i232 := by kernel_rfl
 i233 := by kernel_rfl
 m17 := by kernel_rfl
 m18 := by kernel_rfl
 m19 := by kernel_rfl }
open Go.RowKit Go.Sort Go.Lib in
theorem Tryz.strconv_Itoa (n : Int) (h0 : -9223372036854775808 <= n) (h1 : n <= 9223372036854775807) (w : World) (htab : Lib.TabIs Tryz.prog w "internal/strconv.uint64pow10" .u64 Lib.pow10Tab) :
  Calls Tryz.prog 98 #[.int .i64 n] w fun e w' => e = .returned (.string ⟨(Lib.itoa n).toArray⟩) /\ ∃ k os,w' = grow (w.drewN k) os := Any.strconv_Itoa Tryz.laysM171 n h0 h1 w htab
def Tryz.laysC172_ren : Go.Shelf.Ren := ⟨fun | 172 => 277 | 244 => 314 | 245 => 315 | 247 => 335 | 279 => 336 | 280 => 337 | 281 => 338 | 282 => 339 | 287 => 349 | 316 => 350 | 171 => 98 | 205 => 351 | 321 => 355 | 322 => 356 | 243 => 153 | 246 => 210 | 283 => 281 | 284 => 282 | 285 => 283 | 286 => 284 | 129 => 254 | 317 => 316 | 318 => 317 | 319 => 318 | 320 => 319 | 337 => 340 | 338 => 341 | n => n,fun | 9 => 9 | 3 => 3 | 75 => 25 | 76 => 132 | 4 => 4 | 5 => 5 | 167 => 388 | 37 => 152 | 0 => 0 | 85 => 389 | 2 => 2 | 168 => 391 | 53 => 321 | 175 => 400 | 46 => 246 | 210 => 403 | 127 => 232 | 145 => 409 | 143 => 407 | 21 => 21 | 171 => 354 | 173 => 356 | 212 => 374 | 51 => 319 | 20 => 20 | 213 => 375 | 232 => 404 | 233 => 405 | 80 => 32 | n => n,fun | 15 => 15 | 16 => 16 | 17 => 13 | 18 => 17 | 19 => 18 | n => n⟩
theorem Tryz.laysC172 : Go.Proofs.LaysC.n172 Tryz.prog Tryz.laysC172_ren := {
 mixed := by kernel_rfl
 f129 := Tryz.func254.trans (congrArg some (by kernel_rfl))
 f171 := Tryz.func98.trans (congrArg some (by kernel_rfl))
 f172 := Tryz.func277.trans (congrArg some (by kernel_rfl))
 f205 := Tryz.func351.trans (congrArg some (by kernel_rfl))
 f243 := Tryz.func153.trans (congrArg some (by kernel_rfl))
 f244 := Tryz.func314.trans (congrArg some (by kernel_rfl))
 f245 := Tryz.func315.trans (congrArg some (by kernel_rfl))
 f246 := Tryz.func210.trans (congrArg some (by kernel_rfl))
 f247 := Tryz.func335.trans (congrArg some (by kernel_rfl))
 f279 := Tryz.func336.trans (congrArg some (by kernel_rfl))
 f280 := Tryz.func337.trans (congrArg some (by kernel_rfl))
 f281 := Tryz.func338.trans (congrArg some (by kernel_rfl))
 f282 := Tryz.func339.trans (congrArg some (by kernel_rfl))
 f283 := Tryz.func281.trans (congrArg some (by kernel_rfl))
 f284 := Tryz.func282.trans (congrArg some (by kernel_rfl))
 f285 := Tryz.func283.trans (congrArg some (by kernel_rfl))
 f286 := Tryz.func284.trans (congrArg some (by kernel_rfl))
 f287 := Tryz.func349.trans (congrArg some (by kernel_rfl))
 f316 := Tryz.func350.trans (congrArg some (by kernel_rfl))
 f317 := Tryz.func316.trans (congrArg some (by kernel_rfl))
 f318 := Tryz.func317.trans (congrArg some (by kernel_rfl))
 f319 := Tryz.func318.trans (congrArg some (by kernel_rfl))
 f320 := Tryz.func319.trans (congrArg some (by kernel_rfl))
 f321 := Tryz.func355.trans (congrArg some (by kernel_rfl))
 f322 := Tryz.func356.trans (congrArg some (by kernel_rfl))
 f337 := Tryz.func340.trans (congrArg some (by kernel_rfl))
 f338 := Tryz.func341.trans (congrArg some (by kernel_rfl))
 t0 := Tryz.underlying0
 a0 := Tryz.isAgg0
 z0 := Tryz.sizeOf0
 v0 := Tryz.zeroValue0
 t2 := Tryz.underlying2
 a2 := Tryz.isAgg2
 z2 := Tryz.sizeOf2
 v2 := Tryz.zeroValue2
 t3 := Tryz.underlying3
 a3 := Tryz.isAgg3
 z3 := Tryz.sizeOf3
 v3 := Tryz.zeroValue3
 t4 := Tryz.underlying4
 a4 := Tryz.isAgg4
 z4 := Tryz.sizeOf4
 v4 := Tryz.zeroValue4
 t5 := Tryz.underlying5
 a5 := Tryz.isAgg5
 z5 := Tryz.sizeOf5
 v5 := Tryz.zeroValue5
 t9 := Tryz.underlying9
 a9 := Tryz.isAgg9
 z9 := Tryz.sizeOf9
 v9 := Tryz.zeroValue9
 t20 := Tryz.underlying20
 a20 := Tryz.isAgg20
 z20 := Tryz.sizeOf20
 v20 := Tryz.zeroValue20
 t21 := Tryz.underlying21
 a21 := Tryz.isAgg21
 z21 := Tryz.sizeOf21
 v21 := Tryz.zeroValue21
 t37 := Tryz.underlying152
 a37 := Tryz.isAgg152
 z37 := Tryz.sizeOf152
 v37 := Tryz.zeroValue152
 t46 := Tryz.underlying246
 a46 := Tryz.isAgg246
 z46 := Tryz.sizeOf246
 v46 := Tryz.zeroValue246
 t51 := Tryz.underlying319
 a51 := Tryz.isAgg319
 z51 := Tryz.sizeOf319
 v51 := Tryz.zeroValue319
 t53 := Tryz.underlying321
 a53 := Tryz.isAgg321
 z53 := Tryz.sizeOf321
 v53 := Tryz.zeroValue321
 t75 := Tryz.underlying25
 a75 := Tryz.isAgg25
 z75 := Tryz.sizeOf25
 v75 := Tryz.zeroValue25
 t76 := Tryz.underlying132
 a76 := Tryz.isAgg132
 z76 := Tryz.sizeOf132
 v76 := Tryz.zeroValue132
 t85 := Tryz.underlying389
 a85 := Tryz.isAgg389
 z85 := Tryz.sizeOf389
 v85 := Tryz.zeroValue389
 t127 := Tryz.underlying232
 a127 := Tryz.isAgg232
 z127 := Tryz.sizeOf232
 v127 := Tryz.zeroValue232
 t143 := Tryz.underlying407
 a143 := Tryz.isAgg407
 z143 := Tryz.sizeOf407
 v143 := Tryz.zeroValue407
 t145 := Tryz.underlying409
 a145 := Tryz.isAgg409
 z145 := Tryz.sizeOf409
 v145 := Tryz.zeroValue409
 t167 := Tryz.underlying388
 a167 := Tryz.isAgg388
 z167 := Tryz.sizeOf388
 v167 := Tryz.zeroValue388
 t168 := Tryz.underlying391
 a168 := Tryz.isAgg391
 z168 := Tryz.sizeOf391
 v168 := Tryz.zeroValue391
 t171 := Tryz.underlying354
 a171 := Tryz.isAgg354
 z171 := Tryz.sizeOf354
 v171 := Tryz.zeroValue354
 t173 := Tryz.underlying356
 a173 := Tryz.isAgg356
 z173 := Tryz.sizeOf356
 v173 := Tryz.zeroValue356
 t175 := Tryz.underlying400
 a175 := Tryz.isAgg400
 z175 := Tryz.sizeOf400
 v175 := Tryz.zeroValue400
 t210 := Tryz.underlying403
 a210 := Tryz.isAgg403
 z210 := Tryz.sizeOf403
 v210 := Tryz.zeroValue403
 t212 := Tryz.underlying374
 a212 := Tryz.isAgg374
 z212 := Tryz.sizeOf374
 v212 := Tryz.zeroValue374
 t213 := Tryz.underlying375
 a213 := Tryz.isAgg375
 z213 := Tryz.sizeOf375
 t232 := Tryz.underlying404
 a232 := Tryz.isAgg404
 z232 := Tryz.sizeOf404
 v232 := Tryz.zeroValue404
 t233 := Tryz.underlying405
 a233 := Tryz.isAgg405
 z233 := Tryz.sizeOf405
 v233 := Tryz.zeroValue405
 g15 := by kernel_rfl
 g16 := by kernel_rfl
 g17 := by kernel_rfl
 g18 := by kernel_rfl
 g19 := by kernel_rfl
 t80 := Tryz.underlying32
 a80 := Tryz.isAgg32
 z80 := Tryz.sizeOf32
 v80 := Tryz.zeroValue32
 i0 := by kernel_rfl
 i2 := by kernel_rfl
 i3 := by kernel_rfl
 i4 := by kernel_rfl
 i5 := by kernel_rfl
 i9 := by kernel_rfl
 i20 := by kernel_rfl
 i21 := by kernel_rfl
 i37 := by kernel_rfl
 i46 := by kernel_rfl
 i51 := by kernel_rfl
 i53 := by kernel_rfl
 i75 := by kernel_rfl
 i76 := by kernel_rfl
 i80 := by kernel_rfl
 i85 := by kernel_rfl
 i127 := by kernel_rfl
 i143 := by kernel_rfl
 i145 := by kernel_rfl
 i167 := by kernel_rfl
 i168 := by kernel_rfl
 i171 := by kernel_rfl
 i173 := by kernel_rfl
 i175 := by kernel_rfl
 i210 := by kernel_rfl
 i212 := by kernel_rfl
 i232 := by kernel_rfl
 i233 := by kernel_rfl
 m15 := by kernel_rfl
 m16 := by kernel_rfl
 m17 := by kernel_rfl
 m18 := by kernel_rfl
 m19 := by kernel_rfl
 c0 := by kernel_rfl
 c2 := by kernel_rfl
 c3 := by kernel_rfl
 c4 := by kernel_rfl
 c5 := by kernel_rfl
 c9 := by kernel_rfl
 c20 := by kernel_rfl
 c21 := by kernel_rfl
 c37 := by kernel_rfl
 c46 := by kernel_rfl
 c51 := by kernel_rfl
 c53 := by kernel_rfl
 c75 := by kernel_rfl
 c76 := by kernel_rfl
 c80 := by kernel_rfl
 c85 := by kernel_rfl
 c127 := by kernel_rfl
 c143 := by kernel_rfl
 c145 := by kernel_rfl
 c167 := by kernel_rfl
 c168 := by kernel_rfl
 c171 := by kernel_rfl
 c173 := by kernel_rfl
 c175 := by kernel_rfl
 c210 := by kernel_rfl
 c212 := by kernel_rfl
 c213 := by kernel_rfl
 c232 := by kernel_rfl
 c233 := by kernel_rfl }
open Go.RowKit in
theorem Tryz.strconv_Atoi_err (s : ByteArray) (hl : s.size <= 18) (h : Lib.atoi s.data.toList = none) (ev : Value) (w : World) (hv : w.cell? ⟨15,0,none⟩ = some ev) (hev : ev = .nilIface \/ ∃ te pe,ev = .iface te pe) :
  Calls Tryz.prog 277 #[.string s] w fun e w' => ∃ N,e = .returned (.tuple #[.int .i64 0,.iface 391 (.pointer (some ⟨N,0,none⟩))]) /\ w.heap.size <= N /\ w'.heap[N]? = some (.cells #[.string ⟨#[65,116,111,105]⟩,.string s,ev] 403 (0,0)) /\ Below w.heap.size w w' := Any.strconv_Atoi_err Tryz.laysC172 s hl h ev w hv hev
def Tryz.lays145_ren : Go.Shelf.Ren := ⟨fun | 145 => 200 | 220 => 276 | 219 => 313 | 217 => 331 | 225 => 332 | 224 => 333 | 267 => 334 | 266 => 347 | 314 => 348 | n => n,fun | 9 => 9 | 4 => 4 | 59 => 275 | 3 => 3 | 5 => 5 | 46 => 246 | 146 => 380 | 51 => 319 | n => n,fun | 1 => 14 | n => n⟩
theorem Tryz.lays145 : Go.Proofs.Lays.n145 Tryz.prog Tryz.lays145_ren := {
 mixed := by kernel_rfl
 f145 := Tryz.func200.trans (congrArg some (by kernel_rfl))
 f217 := Tryz.func331.trans (congrArg some (by kernel_rfl))
 f219 := Tryz.func313.trans (congrArg some (by kernel_rfl))
 f220 := Tryz.func276.trans (congrArg some (by kernel_rfl))
 f224 := Tryz.func333.trans (congrArg some (by kernel_rfl))
 f225 := Tryz.func332.trans (congrArg some (by kernel_rfl))
 f266 := Tryz.func347.trans (congrArg some (by kernel_rfl))
 f267 := Tryz.func334.trans (congrArg some (by kernel_rfl))
 f314 := Tryz.func348.trans (congrArg some (by kernel_rfl))
 t3 := Tryz.underlying3
 a3 := Tryz.isAgg3
 z3 := Tryz.sizeOf3
 v3 := Tryz.zeroValue3
 t4 := Tryz.underlying4
 a4 := Tryz.isAgg4
 z4 := Tryz.sizeOf4
 v4 := Tryz.zeroValue4
 t5 := Tryz.underlying5
 a5 := Tryz.isAgg5
 z5 := Tryz.sizeOf5
 v5 := Tryz.zeroValue5
 t9 := Tryz.underlying9
 a9 := Tryz.isAgg9
 z9 := Tryz.sizeOf9
 v9 := Tryz.zeroValue9
 t46 := Tryz.underlying246
 a46 := Tryz.isAgg246
 z46 := Tryz.sizeOf246
 v46 := Tryz.zeroValue246
 t51 := Tryz.underlying319
 a51 := Tryz.isAgg319
 z51 := Tryz.sizeOf319
 v51 := Tryz.zeroValue319
 t59 := Tryz.underlying275
 a59 := Tryz.isAgg275
 z59 := Tryz.sizeOf275
 v59 := Tryz.zeroValue275
 t146 := Tryz.underlying380
 a146 := Tryz.isAgg380
 z146 := Tryz.sizeOf380
 v146 := Tryz.zeroValue380
 g1 := by kernel_rfl }
open Go.RowKit Go.Lib in
theorem Tryz.strings_Cut (s sep : ByteArray) (m : Int) (w : World) (hs : s.size < 4294967281) (hm : w.cell? ⟨14,0,none⟩ = some (.int .i64 m)) :
  Calls Tryz.prog 200 #[.string s,.string sep] w fun e w' => e = .returned (.tuple #[.string ⟨(Lib.cut s.data.toList sep.data.toList).1.toArray⟩,.string ⟨(Lib.cut s.data.toList sep.data.toList).2.1.toArray⟩,.bool (Lib.cut s.data.toList sep.data.toList).2.2]) /\ ∃ n,w' = w.drewN n := Any.strings_Cut Tryz.lays145 s sep m w hs hm
def Tryz.lays99_ren : Go.Shelf.Ren := ⟨fun | 99 => 212 | 206 => 285 | n => n,fun | 9 => 9 | 4 => 4 | 3 => 3 | n => n,fun | n => n⟩
theorem Tryz.lays99 : Go.Proofs.Lays.n99 Tryz.prog Tryz.lays99_ren := {
 mixed := by kernel_rfl
 f99 := Tryz.func212.trans (congrArg some (by kernel_rfl))
 f206 := Tryz.func285.trans (congrArg some (by kernel_rfl))
 t3 := Tryz.underlying3
 a3 := Tryz.isAgg3
 z3 := Tryz.sizeOf3
 v3 := Tryz.zeroValue3
 t4 := Tryz.underlying4
 a4 := Tryz.isAgg4
 z4 := Tryz.sizeOf4
 v4 := Tryz.zeroValue4
 t9 := Tryz.underlying9
 a9 := Tryz.isAgg9
 z9 := Tryz.sizeOf9
 v9 := Tryz.zeroValue9 }
open Go.RowKit Go.Lib in
theorem Tryz.strings_HasPrefix (s p : ByteArray) (w : World) :
  Calls Tryz.prog 212 #[.string s,.string p] w fun e w' => e = .returned (.bool (Lib.hasPrefix s.data.toList p.data.toList)) /\ w' = w := Any.strings_HasPrefix Tryz.lays99 s p w
end Go.Proofs
