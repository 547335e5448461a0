import Derived.Shelf.Strings.Builder1
import Derived.Shelf.Small.Bits
import Derived.Shelf.Small.Wraps
import Derived.Shelf.Strings.BuilderF
import Derived.Shelf.Strings.BuilderK
import Derived.Shelf.Strconv.Atoi
import Derived.Shelf.Strconv.Itoa0
import Derived.Shelf.Strconv.Itoa1
import Derived.Shelf.LaysM
import Derived.Shelf.Strconv.Itoa2
import Derived.Shelf.Strconv.Itoa3
import Derived.Shelf.Strconv.AtoiErrFast
import Derived.Shelf.Strconv.ParseIntEmpty
import Derived.Shelf.Strconv.AtoiFail
import Derived.Shelf.Strconv.Clone
import Derived.Shelf.Strconv.SyntaxError
import Derived.Shelf.LaysC
import Derived.Shelf.Strconv.ToError
import Derived.Shelf.Strconv.AtoiErr
import Derived.Shelf.Strconv.Lower
import Derived.Shelf.Strconv.ParseUint10
import Derived.Shelf.Strconv.ParseUint10Empty
import Derived.Shelf.Strconv.ParseUint10Any
import Derived.Shelf.Strconv.ParseInt10
import Derived.Shelf.Strconv.AtoiLong
import Derived.Shelf.Strconv.AtoiInnerAll
import Derived.Shelf.Strconv.RangeError
import Derived.Shelf.Strconv.ToErrorRange
import Derived.Shelf.Strconv.AtoiAll
import Derived.Shelf.Strings.Search1
import Derived.Shelf.Strings.Search2
import Derived.Shelf.Strings.Search3
import Derived.Shelf.Strings.Cut
import Derived.Shelf.Strings.Count
import Derived.Shelf.Strings.Shaped
import Derived.Shelf.GgClosure.StringsIndexFunc
import Derived.Ground.GgwProg
import Derived.Shelf.GgClosure.StringsIndexFuncTop
import Derived.Shelf.GgClosure.StringsRunes
import Derived.Shelf.Strings.Prefix
import Derived.Shelf.Unicode.DecodeSlow
import Derived.Shelf.Unicode.DecodeAny
import Derived.Ground.SlgmProg
import Derived.Shelf.SortM.Plain
import Derived.Shelf.SortM.SortNone
import Derived.Test.YthchjnopgagilaaGreatDoorProg
namespace Go.Proofs
open Go.Shelf
def Tryz.lays166_ren : Go.Shelf.Ren := ⟨fun | 166 => 102 | 240 => 169 | 276 => 231 | n => n,fun | 0 => 0 | 3 => 3 | 4 => 4 | 5 => 5 | 9 => 9 | 20 => 20 | 37 => 161 | 70 => 160 | 72 => 163 | 75 => 25 | 76 => 164 | 80 => 32 | 127 => 253 | 164 => 304 | n => n,fun | n => n⟩
theorem Tryz.lays166 : Go.Proofs.Lays.n166 Tryz.prog Tryz.lays166_ren := {
 mixed := by kernel_rfl
 f166 := Tryz.func102.trans (congrArg some (by kernel_rfl))
 f240 := Tryz.func169.trans (congrArg some (by kernel_rfl))
 f276 := Tryz.func231.trans (congrArg some (by kernel_rfl))
 t0 := Tryz.underlying0
 a0 := Tryz.isAgg0
 z0 := Tryz.sizeOf0
 v0 := Tryz.zeroValue0
 t3 := Tryz.underlying3
 a3 := Tryz.isAgg3
 z3 := Tryz.sizeOf3
 v3 := Tryz.zeroValue3
 t4 := Tryz.underlying4
 a4 := Tryz.isAgg4
 z4 := Tryz.sizeOf4
 v4 := Tryz.zeroValue4
 t9 := Tryz.underlying9
 a9 := Tryz.isAgg9
 z9 := Tryz.sizeOf9
 v9 := Tryz.zeroValue9
 t20 := Tryz.underlying20
 a20 := Tryz.isAgg20
 z20 := Tryz.sizeOf20
 v20 := Tryz.zeroValue20
 t37 := Tryz.underlying161
 a37 := Tryz.isAgg161
 z37 := Tryz.sizeOf161
 v37 := Tryz.zeroValue161
 t70 := Tryz.underlying160
 a70 := Tryz.isAgg160
 z70 := Tryz.sizeOf160
 v70 := Tryz.zeroValue160
 t72 := Tryz.underlying163
 a72 := Tryz.isAgg163
 z72 := Tryz.sizeOf163
 v72 := Tryz.zeroValue163
 t75 := Tryz.underlying25
 a75 := Tryz.isAgg25
 z75 := Tryz.sizeOf25
 v75 := Tryz.zeroValue25
 t164 := Tryz.underlying304
 a164 := Tryz.isAgg304
 z164 := Tryz.sizeOf304
 v164 := Tryz.zeroValue304 }
theorem Tryz.Builder_Extra_166 : Builder.Extra Tryz.prog Tryz.lays166_ren := {
 sizeBuilder := by kernel_rfl
 liesBuilder := by kernel_rfl
 t5 := Tryz.underlying5
 a5 := Tryz.isAgg5
 z5 := Tryz.sizeOf5
 v5 := Tryz.zeroValue5
 infoByte := by kernel_rfl
 cellsByte := by kernel_rfl
 sizeByte := by kernel_rfl
 neB5 := by decide }
def Tryz.lays169_ren : Go.Shelf.Ren := ⟨fun | 169 => 104 | n => n,fun | 70 => 160 | 9 => 9 | 0 => 0 | 72 => 163 | 37 => 161 | 127 => 253 | 3 => 3 | 5 => 5 | n => n,fun | n => n⟩
theorem Tryz.lays169 : Go.Proofs.Lays.n169 Tryz.prog Tryz.lays169_ren := {
 mixed := by kernel_rfl
 f169 := Tryz.func104.trans (congrArg some (by kernel_rfl))
 t0 := Tryz.underlying0
 a0 := Tryz.isAgg0
 z0 := Tryz.sizeOf0
 v0 := Tryz.zeroValue0
 t3 := Tryz.underlying3
 a3 := Tryz.isAgg3
 z3 := Tryz.sizeOf3
 v3 := Tryz.zeroValue3
 t9 := Tryz.underlying9
 a9 := Tryz.isAgg9
 z9 := Tryz.sizeOf9
 v9 := Tryz.zeroValue9
 t37 := Tryz.underlying161
 a37 := Tryz.isAgg161
 z37 := Tryz.sizeOf161
 v37 := Tryz.zeroValue161
 t70 := Tryz.underlying160
 a70 := Tryz.isAgg160
 z70 := Tryz.sizeOf160
 v70 := Tryz.zeroValue160
 t72 := Tryz.underlying163
 a72 := Tryz.isAgg163
 z72 := Tryz.sizeOf163
 v72 := Tryz.zeroValue163
 t127 := Tryz.underlying253
 a127 := Tryz.isAgg253
 z127 := Tryz.sizeOf253
 v127 := Tryz.zeroValue253 }
theorem Tryz.Builder_Extra_169 : Builder.Extra Tryz.prog Tryz.lays169_ren := {
 sizeBuilder := by kernel_rfl
 liesBuilder := by kernel_rfl
 t5 := Tryz.underlying5
 a5 := Tryz.isAgg5
 z5 := Tryz.sizeOf5
 v5 := Tryz.zeroValue5
 infoByte := by kernel_rfl
 cellsByte := by kernel_rfl
 sizeByte := by kernel_rfl
 neB5 := by decide }
def Tryz.lays172_ren : Go.Shelf.Ren := ⟨fun | 172 => 303 | 244 => 340 | 245 => 341 | 247 => 360 | 279 => 361 | 280 => 362 | 281 => 363 | 282 => 364 | 287 => 373 | 316 => 374 | 171 => 103 | 205 => 375 | 321 => 379 | 322 => 380 | 243 => 170 | 246 => 232 | 283 => 307 | 284 => 308 | 285 => 309 | 286 => 310 | 129 => 275 | 317 => 342 | 318 => 343 | 319 => 344 | 320 => 345 | 337 => 365 | 338 => 366 | n => n,fun | 9 => 9 | 3 => 3 | 75 => 25 | 76 => 164 | 4 => 4 | 5 => 5 | 167 => 412 | 37 => 161 | 0 => 0 | 85 => 413 | 2 => 2 | 168 => 415 | 53 => 343 | 175 => 423 | 46 => 267 | 210 => 426 | 127 => 253 | 145 => 432 | 143 => 430 | 21 => 21 | 171 => 378 | 173 => 380 | 212 => 398 | 51 => 341 | 20 => 20 | 213 => 399 | 232 => 427 | 233 => 428 | 80 => 32 | n => n,fun | 15 => 15 | 16 => 16 | 17 => 13 | 18 => 17 | 19 => 18 | n => n⟩
theorem Tryz.lays172 : Go.Proofs.Lays.n172 Tryz.prog Tryz.lays172_ren := {
 mixed := by kernel_rfl
 f129 := Tryz.func275.trans (congrArg some (by kernel_rfl))
 f171 := Tryz.func103.trans (congrArg some (by kernel_rfl))
 f172 := Tryz.func303.trans (congrArg some (by kernel_rfl))
 f205 := Tryz.func375.trans (congrArg some (by kernel_rfl))
 f243 := Tryz.func170.trans (congrArg some (by kernel_rfl))
 f244 := Tryz.func340.trans (congrArg some (by kernel_rfl))
 f245 := Tryz.func341.trans (congrArg some (by kernel_rfl))
 f246 := Tryz.func232.trans (congrArg some (by kernel_rfl))
 f247 := Tryz.func360.trans (congrArg some (by kernel_rfl))
 f279 := Tryz.func361.trans (congrArg some (by kernel_rfl))
 f280 := Tryz.func362.trans (congrArg some (by kernel_rfl))
 f281 := Tryz.func363.trans (congrArg some (by kernel_rfl))
 f282 := Tryz.func364.trans (congrArg some (by kernel_rfl))
 f283 := Tryz.func307.trans (congrArg some (by kernel_rfl))
 f284 := Tryz.func308.trans (congrArg some (by kernel_rfl))
 f285 := Tryz.func309.trans (congrArg some (by kernel_rfl))
 f286 := Tryz.func310.trans (congrArg some (by kernel_rfl))
 f287 := Tryz.func373.trans (congrArg some (by kernel_rfl))
 f316 := Tryz.func374.trans (congrArg some (by kernel_rfl))
 f317 := Tryz.func342.trans (congrArg some (by kernel_rfl))
 f318 := Tryz.func343.trans (congrArg some (by kernel_rfl))
 f319 := Tryz.func344.trans (congrArg some (by kernel_rfl))
 f320 := Tryz.func345.trans (congrArg some (by kernel_rfl))
 f321 := Tryz.func379.trans (congrArg some (by kernel_rfl))
 f322 := Tryz.func380.trans (congrArg some (by kernel_rfl))
 f337 := Tryz.func365.trans (congrArg some (by kernel_rfl))
 f338 := Tryz.func366.trans (congrArg some (by kernel_rfl))
 t0 := Tryz.underlying0
 a0 := Tryz.isAgg0
 z0 := Tryz.sizeOf0
 v0 := Tryz.zeroValue0
 t2 := Tryz.underlying2
 a2 := Tryz.isAgg2
 z2 := Tryz.sizeOf2
 v2 := Tryz.zeroValue2
 t3 := Tryz.underlying3
 a3 := Tryz.isAgg3
 z3 := Tryz.sizeOf3
 v3 := Tryz.zeroValue3
 t4 := Tryz.underlying4
 a4 := Tryz.isAgg4
 z4 := Tryz.sizeOf4
 v4 := Tryz.zeroValue4
 t5 := Tryz.underlying5
 a5 := Tryz.isAgg5
 z5 := Tryz.sizeOf5
 v5 := Tryz.zeroValue5
 t9 := Tryz.underlying9
 a9 := Tryz.isAgg9
 z9 := Tryz.sizeOf9
 v9 := Tryz.zeroValue9
 t20 := Tryz.underlying20
 a20 := Tryz.isAgg20
 z20 := Tryz.sizeOf20
 v20 := Tryz.zeroValue20
 t21 := Tryz.underlying21
 a21 := Tryz.isAgg21
 z21 := Tryz.sizeOf21
 v21 := Tryz.zeroValue21
 t37 := Tryz.underlying161
 a37 := Tryz.isAgg161
 z37 := Tryz.sizeOf161
 v37 := Tryz.zeroValue161
 t46 := Tryz.underlying267
 a46 := Tryz.isAgg267
 z46 := Tryz.sizeOf267
 v46 := Tryz.zeroValue267
 t51 := Tryz.underlying341
 a51 := Tryz.isAgg341
 z51 := Tryz.sizeOf341
 v51 := Tryz.zeroValue341
 t53 := Tryz.underlying343
 a53 := Tryz.isAgg343
 z53 := Tryz.sizeOf343
 v53 := Tryz.zeroValue343
 t75 := Tryz.underlying25
 a75 := Tryz.isAgg25
 z75 := Tryz.sizeOf25
 v75 := Tryz.zeroValue25
 t76 := Tryz.underlying164
 a76 := Tryz.isAgg164
 z76 := Tryz.sizeOf164
 v76 := Tryz.zeroValue164
 t85 := Tryz.underlying413
 a85 := Tryz.isAgg413
 z85 := Tryz.sizeOf413
 v85 := Tryz.zeroValue413
 t127 := Tryz.underlying253
 a127 := Tryz.isAgg253
 z127 := Tryz.sizeOf253
 v127 := Tryz.zeroValue253
 t143 := Tryz.underlying430
 a143 := Tryz.isAgg430
 z143 := Tryz.sizeOf430
 v143 := Tryz.zeroValue430
 t145 := Tryz.underlying432
 a145 := Tryz.isAgg432
 z145 := Tryz.sizeOf432
 v145 := Tryz.zeroValue432
 t167 := Tryz.underlying412
 a167 := Tryz.isAgg412
 z167 := Tryz.sizeOf412
 v167 := Tryz.zeroValue412
 t168 := Tryz.underlying415
 a168 := Tryz.isAgg415
 z168 := Tryz.sizeOf415
 v168 := Tryz.zeroValue415
 t171 := Tryz.underlying378
 a171 := Tryz.isAgg378
 z171 := Tryz.sizeOf378
 v171 := Tryz.zeroValue378
 t173 := Tryz.underlying380
 a173 := Tryz.isAgg380
 z173 := Tryz.sizeOf380
 v173 := Tryz.zeroValue380
 t175 := Tryz.underlying423
 a175 := Tryz.isAgg423
 z175 := Tryz.sizeOf423
 v175 := Tryz.zeroValue423
 t210 := Tryz.underlying426
 a210 := Tryz.isAgg426
 z210 := Tryz.sizeOf426
 v210 := Tryz.zeroValue426
 t212 := Tryz.underlying398
 a212 := Tryz.isAgg398
 z212 := Tryz.sizeOf398
 v212 := Tryz.zeroValue398
 t213 := Tryz.underlying399
 a213 := Tryz.isAgg399
 z213 := Tryz.sizeOf399
 t232 := Tryz.underlying427
 a232 := Tryz.isAgg427
 z232 := Tryz.sizeOf427
 v232 := Tryz.zeroValue427
 t233 := Tryz.underlying428
 a233 := Tryz.isAgg428
 z233 := Tryz.sizeOf428
 v233 := Tryz.zeroValue428
 g15 := by kernel_rfl
 g16 := by kernel_rfl
 g17 := by kernel_rfl
 g18 := by kernel_rfl
 g19 := by kernel_rfl }
open Go.RowKit in
theorem Tryz.strconv_Atoi (s : ByteArray) (n : Int) (hl : s.size ≤ 18) (h : Lib.atoi s.data.toList = some n) (w : World) :
  Calls Tryz.prog 303 #[.string s] w fun e w' => e = .returned (.tuple #[.int .i64 n,.nilIface]) ∧ ∃ t,w' = Lib.bytesWorld w 5 t := Any.strconv_Atoi Tryz.lays172 s n hl h w
def Tryz.laysM171_ren : Go.Shelf.Ren := ⟨fun | 171 => 103 | 243 => 170 | 246 => 232 | 283 => 307 | 284 => 308 | 285 => 309 | 286 => 310 | 129 => 275 | 317 => 342 | 318 => 343 | 319 => 344 | 320 => 345 | 337 => 365 | 338 => 366 | n => n,fun | 3 => 3 | 9 => 9 | 2 => 2 | 4 => 4 | 171 => 378 | 0 => 0 | 53 => 343 | 37 => 161 | 5 => 5 | 173 => 380 | 212 => 398 | 51 => 341 | 20 => 20 | 213 => 399 | 46 => 267 | 232 => 427 | 233 => 428 | n => n,fun | 17 => 13 | 18 => 17 | 19 => 18 | n => n⟩
theorem Tryz.laysM171 : Go.Proofs.LaysM.n171 Tryz.prog Tryz.laysM171_ren := {
 mixed := by kernel_rfl
 f129 := Tryz.func275.trans (congrArg some (by kernel_rfl))
 f171 := Tryz.func103.trans (congrArg some (by kernel_rfl))
 f243 := Tryz.func170.trans (congrArg some (by kernel_rfl))
 f246 := Tryz.func232.trans (congrArg some (by kernel_rfl))
 f283 := Tryz.func307.trans (congrArg some (by kernel_rfl))
 f284 := Tryz.func308.trans (congrArg some (by kernel_rfl))
 f285 := Tryz.func309.trans (congrArg some (by kernel_rfl))
 f286 := Tryz.func310.trans (congrArg some (by kernel_rfl))
 f317 := Tryz.func342.trans (congrArg some (by kernel_rfl))
 f318 := Tryz.func343.trans (congrArg some (by kernel_rfl))
 f319 := Tryz.func344.trans (congrArg some (by kernel_rfl))
 f320 := Tryz.func345.trans (congrArg some (by kernel_rfl))
 f337 := Tryz.func365.trans (congrArg some (by kernel_rfl))
 f338 := Tryz.func366.trans (congrArg some (by kernel_rfl))
 t0 := Tryz.underlying0
 a0 := Tryz.isAgg0
 z0 := Tryz.sizeOf0
 v0 := Tryz.zeroValue0
 t2 := Tryz.underlying2
 a2 := Tryz.isAgg2
 z2 := Tryz.sizeOf2
 v2 := Tryz.zeroValue2
 t3 := Tryz.underlying3
 a3 := Tryz.isAgg3
 z3 := Tryz.sizeOf3
 v3 := Tryz.zeroValue3
 t4 := Tryz.underlying4
 a4 := Tryz.isAgg4
 z4 := Tryz.sizeOf4
 v4 := Tryz.zeroValue4
 t5 := Tryz.underlying5
 a5 := Tryz.isAgg5
 z5 := Tryz.sizeOf5
 v5 := Tryz.zeroValue5
 t9 := Tryz.underlying9
 a9 := Tryz.isAgg9
 z9 := Tryz.sizeOf9
 v9 := Tryz.zeroValue9
 t20 := Tryz.underlying20
 a20 := Tryz.isAgg20
 z20 := Tryz.sizeOf20
 v20 := Tryz.zeroValue20
 t37 := Tryz.underlying161
 a37 := Tryz.isAgg161
 z37 := Tryz.sizeOf161
 v37 := Tryz.zeroValue161
 t46 := Tryz.underlying267
 a46 := Tryz.isAgg267
 z46 := Tryz.sizeOf267
 v46 := Tryz.zeroValue267
 t51 := Tryz.underlying341
 a51 := Tryz.isAgg341
 z51 := Tryz.sizeOf341
 v51 := Tryz.zeroValue341
 t53 := Tryz.underlying343
 a53 := Tryz.isAgg343
 z53 := Tryz.sizeOf343
 v53 := Tryz.zeroValue343
 t171 := Tryz.underlying378
 a171 := Tryz.isAgg378
 z171 := Tryz.sizeOf378
 v171 := Tryz.zeroValue378
 t173 := Tryz.underlying380
 a173 := Tryz.isAgg380
 z173 := Tryz.sizeOf380
 v173 := Tryz.zeroValue380
 t212 := Tryz.underlying398
 a212 := Tryz.isAgg398
 z212 := Tryz.sizeOf398
 v212 := Tryz.zeroValue398
 t213 := Tryz.underlying399
 a213 := Tryz.isAgg399
 z213 := Tryz.sizeOf399
 t232 := Tryz.underlying427
 a232 := Tryz.isAgg427
 z232 := Tryz.sizeOf427
 v232 := Tryz.zeroValue427
 t233 := Tryz.underlying428
 a233 := Tryz.isAgg428
 z233 := Tryz.sizeOf428
 v233 := Tryz.zeroValue428
 g17 := by kernel_rfl
 g18 := by kernel_rfl
 g19 := by kernel_rfl
 i0 := by kernel_rfl
 i2 := by kernel_rfl
 i3 := by kernel_rfl
 i4 := by kernel_rfl
 i5 := by kernel_rfl
 i9 := by kernel_rfl
 i20 := by kernel_rfl
 i37 := by kernel_rfl
 i46 := by kernel_rfl
 i51 := by kernel_rfl
 i53 := by kernel_rfl
 i171 := by kernel_rfl
 i173 := by kernel_rfl
 i212 := by kernel_rfl
 i232 := by kernel_rfl
 i233 := by kernel_rfl
 m17 := by kernel_rfl
 m18 := by kernel_rfl
 m19 := by kernel_rfl }
open Go.RowKit Go.Sort Go.Lib in
theorem Tryz.strconv_Itoa (n : Int) (h0 : -9223372036854775808 ≤ n) (h1 : n ≤ 9223372036854775807) (w : World) (htab : Lib.TabIs Tryz.prog w "internal/strconv.uint64pow10" .u64 Lib.pow10Tab) :
  Calls Tryz.prog 103 #[.int .i64 n] w fun e w' => e = .returned (.string ⟨(Lib.itoa n).toArray⟩) ∧ ∃ k os,w' = grow (w.drewN k) os := Any.strconv_Itoa Tryz.laysM171 n h0 h1 w htab
def Tryz.laysC172_ren : Go.Shelf.Ren := ⟨fun | 172 => 303 | 244 => 340 | 245 => 341 | 247 => 360 | 279 => 361 | 280 => 362 | 281 => 363 | 282 => 364 | 287 => 373 | 316 => 374 | 171 => 103 | 205 => 375 | 321 => 379 | 322 => 380 | 243 => 170 | 246 => 232 | 283 => 307 | 284 => 308 | 285 => 309 | 286 => 310 | 129 => 275 | 317 => 342 | 318 => 343 | 319 => 344 | 320 => 345 | 337 => 365 | 338 => 366 | n => n,fun | 9 => 9 | 3 => 3 | 75 => 25 | 76 => 164 | 4 => 4 | 5 => 5 | 167 => 412 | 37 => 161 | 0 => 0 | 85 => 413 | 2 => 2 | 168 => 415 | 53 => 343 | 175 => 423 | 46 => 267 | 210 => 426 | 127 => 253 | 145 => 432 | 143 => 430 | 21 => 21 | 171 => 378 | 173 => 380 | 212 => 398 | 51 => 341 | 20 => 20 | 213 => 399 | 232 => 427 | 233 => 428 | 80 => 32 | n => n,fun | 15 => 15 | 16 => 16 | 17 => 13 | 18 => 17 | 19 => 18 | n => n⟩
theorem Tryz.laysC172 : Go.Proofs.LaysC.n172 Tryz.prog Tryz.laysC172_ren := {
 mixed := by kernel_rfl
 f129 := Tryz.func275.trans (congrArg some (by kernel_rfl))
 f171 := Tryz.func103.trans (congrArg some (by kernel_rfl))
 f172 := Tryz.func303.trans (congrArg some (by kernel_rfl))
 f205 := Tryz.func375.trans (congrArg some (by kernel_rfl))
 f243 := Tryz.func170.trans (congrArg some (by kernel_rfl))
 f244 := Tryz.func340.trans (congrArg some (by kernel_rfl))
 f245 := Tryz.func341.trans (congrArg some (by kernel_rfl))
 f246 := Tryz.func232.trans (congrArg some (by kernel_rfl))
 f247 := Tryz.func360.trans (congrArg some (by kernel_rfl))
 f279 := Tryz.func361.trans (congrArg some (by kernel_rfl))
 f280 := Tryz.func362.trans (congrArg some (by kernel_rfl))
 f281 := Tryz.func363.trans (congrArg some (by kernel_rfl))
 f282 := Tryz.func364.trans (congrArg some (by kernel_rfl))
 f283 := Tryz.func307.trans (congrArg some (by kernel_rfl))
 f284 := Tryz.func308.trans (congrArg some (by kernel_rfl))
 f285 := Tryz.func309.trans (congrArg some (by kernel_rfl))
 f286 := Tryz.func310.trans (congrArg some (by kernel_rfl))
 f287 := Tryz.func373.trans (congrArg some (by kernel_rfl))
 f316 := Tryz.func374.trans (congrArg some (by kernel_rfl))
 f317 := Tryz.func342.trans (congrArg some (by kernel_rfl))
 f318 := Tryz.func343.trans (congrArg some (by kernel_rfl))
 f319 := Tryz.func344.trans (congrArg some (by kernel_rfl))
 f320 := Tryz.func345.trans (congrArg some (by kernel_rfl))
 f321 := Tryz.func379.trans (congrArg some (by kernel_rfl))
 f322 := Tryz.func380.trans (congrArg some (by kernel_rfl))
 f337 := Tryz.func365.trans (congrArg some (by kernel_rfl))
 f338 := Tryz.func366.trans (congrArg some (by kernel_rfl))
 t0 := Tryz.underlying0
 a0 := Tryz.isAgg0
 z0 := Tryz.sizeOf0
 v0 := Tryz.zeroValue0
 t2 := Tryz.underlying2
 a2 := Tryz.isAgg2
 z2 := Tryz.sizeOf2
 v2 := Tryz.zeroValue2
 t3 := Tryz.underlying3
 a3 := Tryz.isAgg3
 z3 := Tryz.sizeOf3
 v3 := Tryz.zeroValue3
 t4 := Tryz.underlying4
 a4 := Tryz.isAgg4
 z4 := Tryz.sizeOf4
 v4 := Tryz.zeroValue4
 t5 := Tryz.underlying5
 a5 := Tryz.isAgg5
 z5 := Tryz.sizeOf5
 v5 := Tryz.zeroValue5
 t9 := Tryz.underlying9
 a9 := Tryz.isAgg9
 z9 := Tryz.sizeOf9
 v9 := Tryz.zeroValue9
 t20 := Tryz.underlying20
 a20 := Tryz.isAgg20
 z20 := Tryz.sizeOf20
 v20 := Tryz.zeroValue20
 t21 := Tryz.underlying21
 a21 := Tryz.isAgg21
 z21 := Tryz.sizeOf21
 v21 := Tryz.zeroValue21
 t37 := Tryz.underlying161
 a37 := Tryz.isAgg161
 z37 := Tryz.sizeOf161
 v37 := Tryz.zeroValue161
 t46 := Tryz.underlying267
 a46 := Tryz.isAgg267
 z46 := Tryz.sizeOf267
 v46 := Tryz.zeroValue267
 t51 := Tryz.underlying341
 a51 := Tryz.isAgg341
 z51 := Tryz.sizeOf341
 v51 := Tryz.zeroValue341
 t53 := Tryz.underlying343
 a53 := Tryz.isAgg343
 z53 := Tryz.sizeOf343
 v53 := Tryz.zeroValue343
 t75 := Tryz.underlying25
 a75 := Tryz.isAgg25
 z75 := Tryz.sizeOf25
 v75 := Tryz.zeroValue25
 t76 := Tryz.underlying164
 a76 := Tryz.isAgg164
 z76 := Tryz.sizeOf164
 v76 := Tryz.zeroValue164
 t85 := Tryz.underlying413
 a85 := Tryz.isAgg413
 z85 := Tryz.sizeOf413
 v85 := Tryz.zeroValue413
 t127 := Tryz.underlying253
 a127 := Tryz.isAgg253
 z127 := Tryz.sizeOf253
 v127 := Tryz.zeroValue253
 t143 := Tryz.underlying430
 a143 := Tryz.isAgg430
 z143 := Tryz.sizeOf430
 v143 := Tryz.zeroValue430
 t145 := Tryz.underlying432
 a145 := Tryz.isAgg432
 z145 := Tryz.sizeOf432
 v145 := Tryz.zeroValue432
 t167 := Tryz.underlying412
 a167 := Tryz.isAgg412
 z167 := Tryz.sizeOf412
 v167 := Tryz.zeroValue412
 t168 := Tryz.underlying415
 a168 := Tryz.isAgg415
 z168 := Tryz.sizeOf415
 v168 := Tryz.zeroValue415
 t171 := Tryz.underlying378
 a171 := Tryz.isAgg378
 z171 := Tryz.sizeOf378
 v171 := Tryz.zeroValue378
 t173 := Tryz.underlying380
 a173 := Tryz.isAgg380
 z173 := Tryz.sizeOf380
 v173 := Tryz.zeroValue380
 t175 := Tryz.underlying423
 a175 := Tryz.isAgg423
 z175 := Tryz.sizeOf423
 v175 := Tryz.zeroValue423
 t210 := Tryz.underlying426
 a210 := Tryz.isAgg426
 z210 := Tryz.sizeOf426
 v210 := Tryz.zeroValue426
 t212 := Tryz.underlying398
 a212 := Tryz.isAgg398
 z212 := Tryz.sizeOf398
 v212 := Tryz.zeroValue398
 t213 := Tryz.underlying399
 a213 := Tryz.isAgg399
 z213 := Tryz.sizeOf399
 t232 := Tryz.underlying427
 a232 := Tryz.isAgg427
 z232 := Tryz.sizeOf427
 v232 := Tryz.zeroValue427
 t233 := Tryz.underlying428
 a233 := Tryz.isAgg428
 z233 := Tryz.sizeOf428
 v233 := Tryz.zeroValue428
 g15 := by kernel_rfl
 g16 := by kernel_rfl
 g17 := by kernel_rfl
 g18 := by kernel_rfl
 g19 := by kernel_rfl
 t80 := Tryz.underlying32
 a80 := Tryz.isAgg32
 z80 := Tryz.sizeOf32
 v80 := Tryz.zeroValue32
 i0 := by kernel_rfl
 i2 := by kernel_rfl
 i3 := by kernel_rfl
 i4 := by kernel_rfl
 i5 := by kernel_rfl
 i9 := by kernel_rfl
 i20 := by kernel_rfl
 i21 := by kernel_rfl
 i37 := by kernel_rfl
 i46 := by kernel_rfl
 i51 := by kernel_rfl
 i53 := by kernel_rfl
 i75 := by kernel_rfl
 i76 := by kernel_rfl
 i80 := by kernel_rfl
 i85 := by kernel_rfl
 i127 := by kernel_rfl
 i143 := by kernel_rfl
 i145 := by kernel_rfl
 i167 := by kernel_rfl
 i168 := by kernel_rfl
 i171 := by kernel_rfl
 i173 := by kernel_rfl
 i175 := by kernel_rfl
 i210 := by kernel_rfl
 i212 := by kernel_rfl
 i232 := by kernel_rfl
 i233 := by kernel_rfl
 m15 := by kernel_rfl
 m16 := by kernel_rfl
 m17 := by kernel_rfl
 m18 := by kernel_rfl
 m19 := by kernel_rfl
 c0 := by kernel_rfl
 c2 := by kernel_rfl
 c3 := by kernel_rfl
 c4 := by kernel_rfl
 c5 := by kernel_rfl
 c9 := by kernel_rfl
 c20 := by kernel_rfl
 c21 := by kernel_rfl
 c37 := by kernel_rfl
 c46 := by kernel_rfl
 c51 := by kernel_rfl
 c53 := by kernel_rfl
 c75 := by kernel_rfl
 c76 := by kernel_rfl
 c80 := by kernel_rfl
 c85 := by kernel_rfl
 c127 := by kernel_rfl
 c143 := by kernel_rfl
 c145 := by kernel_rfl
 c167 := by kernel_rfl
 c168 := by kernel_rfl
 c171 := by kernel_rfl
 c173 := by kernel_rfl
 c175 := by kernel_rfl
 c210 := by kernel_rfl
 c212 := by kernel_rfl
 c213 := by kernel_rfl
 c232 := by kernel_rfl
 c233 := by kernel_rfl }
open Go.RowKit in
theorem Tryz.strconv_Atoi_err (s : ByteArray) (hl : s.size ≤ 18) (h : Lib.atoi s.data.toList = none) (ev : Value) (w : World) (hv : w.cell? ⟨15,0,none⟩ = some ev) (hev : ev = .nilIface ∨ ∃ te pe,ev = .iface te pe) :
  Calls Tryz.prog 303 #[.string s] w fun e w' => ∃ N,e = .returned (.tuple #[.int .i64 0,.iface 415 (.pointer (some ⟨N,0,none⟩))]) ∧ w.heap.size ≤ N ∧ w'.heap[N]? = some (.cells #[.string ⟨#[65,116,111,105]⟩,.string s,ev] 426 (0,0)) ∧ Below w.heap.size w w' := Any.strconv_Atoi_err Tryz.laysC172 s hl h ev w hv hev
def Tryz.lays145_ren : Go.Shelf.Ren := ⟨fun | 145 => 222 | 220 => 302 | 219 => 339 | 217 => 356 | 225 => 357 | 224 => 358 | 267 => 359 | 266 => 371 | 314 => 372 | n => n,fun | 9 => 9 | 4 => 4 | 59 => 300 | 3 => 3 | 5 => 5 | 46 => 267 | 146 => 404 | 51 => 341 | n => n,fun | 1 => 14 | n => n⟩
theorem Tryz.lays145 : Go.Proofs.Lays.n145 Tryz.prog Tryz.lays145_ren := {
 mixed := by kernel_rfl
 f145 := Tryz.func222.trans (congrArg some (by kernel_rfl))
 f217 := Tryz.func356.trans (congrArg some (by kernel_rfl))
 f219 := Tryz.func339.trans (congrArg some (by kernel_rfl))
 f220 := Tryz.func302.trans (congrArg some (by kernel_rfl))
 f224 := Tryz.func358.trans (congrArg some (by kernel_rfl))
 f225 := Tryz.func357.trans (congrArg some (by kernel_rfl))
 f266 := Tryz.func371.trans (congrArg some (by kernel_rfl))
 f267 := Tryz.func359.trans (congrArg some (by kernel_rfl))
 f314 := Tryz.func372.trans (congrArg some (by kernel_rfl))
 t3 := Tryz.underlying3
 a3 := Tryz.isAgg3
 z3 := Tryz.sizeOf3
 v3 := Tryz.zeroValue3
 t4 := Tryz.underlying4
 a4 := Tryz.isAgg4
 z4 := Tryz.sizeOf4
 v4 := Tryz.zeroValue4
 t5 := Tryz.underlying5
 a5 := Tryz.isAgg5
 z5 := Tryz.sizeOf5
 v5 := Tryz.zeroValue5
 t9 := Tryz.underlying9
 a9 := Tryz.isAgg9
 z9 := Tryz.sizeOf9
 v9 := Tryz.zeroValue9
 t46 := Tryz.underlying267
 a46 := Tryz.isAgg267
 z46 := Tryz.sizeOf267
 v46 := Tryz.zeroValue267
 t51 := Tryz.underlying341
 a51 := Tryz.isAgg341
 z51 := Tryz.sizeOf341
 v51 := Tryz.zeroValue341
 t59 := Tryz.underlying300
 a59 := Tryz.isAgg300
 z59 := Tryz.sizeOf300
 v59 := Tryz.zeroValue300
 t146 := Tryz.underlying404
 a146 := Tryz.isAgg404
 z146 := Tryz.sizeOf404
 v146 := Tryz.zeroValue404
 g1 := by kernel_rfl }
open Go.RowKit Go.Lib in
theorem Tryz.strings_Cut (s sep : ByteArray) (m : Int) (w : World) (hs : s.size < 4294967281) (hm : w.cell? ⟨14,0,none⟩ = some (.int .i64 m)) :
  Calls Tryz.prog 222 #[.string s,.string sep] w fun e w' => e = .returned (.tuple #[.string ⟨(Lib.cut s.data.toList sep.data.toList).1.toArray⟩,.string ⟨(Lib.cut s.data.toList sep.data.toList).2.1.toArray⟩,.bool (Lib.cut s.data.toList sep.data.toList).2.2]) ∧ ∃ n,w' = w.drewN n := Any.strings_Cut Tryz.lays145 s sep m w hs hm
def Tryz.lays99_ren : Go.Shelf.Ren := ⟨fun | 99 => 234 | 206 => 311 | n => n,fun | 9 => 9 | 4 => 4 | 3 => 3 | n => n,fun | n => n⟩
theorem Tryz.lays99 : Go.Proofs.Lays.n99 Tryz.prog Tryz.lays99_ren := {
 mixed := by kernel_rfl
 f99 := Tryz.func234.trans (congrArg some (by kernel_rfl))
 f206 := Tryz.func311.trans (congrArg some (by kernel_rfl))
 t3 := Tryz.underlying3
 a3 := Tryz.isAgg3
 z3 := Tryz.sizeOf3
 v3 := Tryz.zeroValue3
 t4 := Tryz.underlying4
 a4 := Tryz.isAgg4
 z4 := Tryz.sizeOf4
 v4 := Tryz.zeroValue4
 t9 := Tryz.underlying9
 a9 := Tryz.isAgg9
 z9 := Tryz.sizeOf9
 v9 := Tryz.zeroValue9 }
open Go.RowKit Go.Lib in
theorem Tryz.strings_HasPrefix (s p : ByteArray) (w : World) :
  Calls Tryz.prog 234 #[.string s,.string p] w fun e w' => e = .returned (.bool (Lib.hasPrefix s.data.toList p.data.toList)) ∧ w' = w := Any.strings_HasPrefix Tryz.lays99 s p w
end Go.Proofs
