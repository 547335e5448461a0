import Derived.Test.YthchjnopgagilaaGreatDoorPA44
import Derived.Test.YthchjnopgagilaaGreatDoorPA43
set_option maxRecDepth 100000
set_option maxHeartbeats 8000000
namespace Go.Proofs
open Go.Shelf
def Tryz.lays166B_ren : Go.Shelf.Ren := ⟨fun | 166 => 102 | 240 => 169 | 276 => 231 | n => n,fun | 0 => 0 | 3 => 3 | 4 => 4 | 5 => 5 | 9 => 9 | 20 => 20 | 37 => 161 | 70 => 160 | 72 => 163 | 75 => 25 | 76 => 164 | 80 => 32 | 127 => 253 | 164 => 304 | n => n,fun | n => n⟩
theorem Tryz.lays166B : Go.Proofs.Lays.n166 Tryz.prog Tryz.lays166B_ren := {
 mixed := by kernel_rfl
 f166 := Tryz.func102.trans (congrArg some (by kernel_rfl))
 f240 := Tryz.func169.trans (congrArg some (by kernel_rfl))
 f276 := Tryz.func231.trans (congrArg some (by kernel_rfl))
 t0 := Tryz.underlying0
 a0 := Tryz.isAgg0
 z0 := Tryz.sizeOf0
 v0 := Tryz.zeroValue0
 t3 := Tryz.underlying3
 a3 := Tryz.isAgg3
 z3 := Tryz.sizeOf3
 v3 := Tryz.zeroValue3
 t4 := Tryz.underlying4
 a4 := Tryz.isAgg4
 z4 := Tryz.sizeOf4
 v4 := Tryz.zeroValue4
 t9 := Tryz.underlying9
 a9 := Tryz.isAgg9
 z9 := Tryz.sizeOf9
 v9 := Tryz.zeroValue9
 t20 := Tryz.underlying20
 a20 := Tryz.isAgg20
 z20 := Tryz.sizeOf20
 v20 := Tryz.zeroValue20
 t37 := Tryz.underlying161
 a37 := Tryz.isAgg161
 z37 := Tryz.sizeOf161
 v37 := Tryz.zeroValue161
 t70 := Tryz.underlying160
 a70 := Tryz.isAgg160
 z70 := Tryz.sizeOf160
 v70 := Tryz.zeroValue160
 t72 := Tryz.underlying163
 a72 := Tryz.isAgg163
 z72 := Tryz.sizeOf163
 v72 := Tryz.zeroValue163
 t75 := Tryz.underlying25
 a75 := Tryz.isAgg25
 z75 := Tryz.sizeOf25
 v75 := Tryz.zeroValue25
 t164 := Tryz.underlying304
 a164 := Tryz.isAgg304
 z164 := Tryz.sizeOf304
 v164 := Tryz.zeroValue304 }
theorem Tryz.Builder_Extra_166B : Builder.Extra Tryz.prog Tryz.lays166B_ren := {
 sizeBuilder := by kernel_rfl
 liesBuilder := by kernel_rfl
 t5 := Tryz.underlying5
 a5 := Tryz.isAgg5
 z5 := Tryz.sizeOf5
 v5 := Tryz.zeroValue5
 infoByte := by kernel_rfl
 cellsByte := by kernel_rfl
 sizeByte := by kernel_rfl
 neB5 := by decide }
def Tryz.lays167_ren : Go.Shelf.Ren := ⟨fun | 167 => 288 | 240 => 169 | 276 => 231 | n => n,fun | 0 => 0 | 3 => 3 | 4 => 4 | 5 => 5 | 9 => 9 | 20 => 20 | 37 => 161 | 70 => 160 | 72 => 163 | 75 => 25 | 76 => 164 | 80 => 32 | 127 => 253 | 164 => 304 | n => n,fun | n => n⟩
theorem Tryz.lays167 : Go.Proofs.Lays.n167 Tryz.prog Tryz.lays167_ren := {
 mixed := by kernel_rfl
 f167 := Tryz.func288.trans (congrArg some (by kernel_rfl))
 f240 := Tryz.func169.trans (congrArg some (by kernel_rfl))
 f276 := Tryz.func231.trans (congrArg some (by kernel_rfl))
 t0 := Tryz.underlying0
 a0 := Tryz.isAgg0
 z0 := Tryz.sizeOf0
 v0 := Tryz.zeroValue0
 t4 := Tryz.underlying4
 a4 := Tryz.isAgg4
 z4 := Tryz.sizeOf4
 v4 := Tryz.zeroValue4
 t5 := Tryz.underlying5
 a5 := Tryz.isAgg5
 z5 := Tryz.sizeOf5
 v5 := Tryz.zeroValue5
 t9 := Tryz.underlying9
 a9 := Tryz.isAgg9
 z9 := Tryz.sizeOf9
 v9 := Tryz.zeroValue9
 t20 := Tryz.underlying20
 a20 := Tryz.isAgg20
 z20 := Tryz.sizeOf20
 v20 := Tryz.zeroValue20
 t37 := Tryz.underlying161
 a37 := Tryz.isAgg161
 z37 := Tryz.sizeOf161
 v37 := Tryz.zeroValue161
 t70 := Tryz.underlying160
 a70 := Tryz.isAgg160
 z70 := Tryz.sizeOf160
 v70 := Tryz.zeroValue160
 t72 := Tryz.underlying163
 a72 := Tryz.isAgg163
 z72 := Tryz.sizeOf163
 v72 := Tryz.zeroValue163
 t75 := Tryz.underlying25
 a75 := Tryz.isAgg25
 z75 := Tryz.sizeOf25
 v75 := Tryz.zeroValue25
 t164 := Tryz.underlying304
 a164 := Tryz.isAgg304
 z164 := Tryz.sizeOf304
 v164 := Tryz.zeroValue304 }
theorem Tryz.Builder_Extra_167 : Builder.Extra Tryz.prog Tryz.lays167_ren := {
 sizeBuilder := by kernel_rfl
 liesBuilder := by kernel_rfl
 t5 := Tryz.underlying5
 a5 := Tryz.isAgg5
 z5 := Tryz.sizeOf5
 v5 := Tryz.zeroValue5
 infoByte := by kernel_rfl
 cellsByte := by kernel_rfl
 sizeByte := by kernel_rfl
 neB5 := by decide }
end Go.Proofs
namespace Go.Proofs.YthchjnopgagilaaGreatDoor
open Go.RowKit Go.Shelf Go.Lib
open Go.Sort (grow)
theorem kbuilder_below {w w' : World} {B b : Nat} {u : Value} {bs : List Value} (h : Lib.BuilderAtF 163 5 B b u bs w) (hb : Below w.heap.size w w') : Lib.BuilderAtF 163 5 B b u bs w' := by
 obtain ⟨h1,v,h2,h3,h4⟩ := h
 exact ⟨h1,v,(hb.block b (Array.getElem?_eq_some_iff.1 h2).1).trans h2,h3.kept (row := none) ⟨hb.os,hb.tape,hb.output,hb.size,fun k hk _ => hb.block k hk⟩ (by cases v.ownBlock <;> simp),h4⟩
theorem isBuilder_belowK {w w' : World} {B b : Nat} {bs : List Value} (h : Lib.IsBuilderF 163 5 B b bs w) (hb : Below w.heap.size w w') : Lib.IsBuilderF 163 5 B b bs w' :=
 h.imp (fun h => kbuilder_below h hb) (fun h => kbuilder_below h hb)
abbrev KPow (w : World) : Prop := Lib.TabIs Tryz.prog w "internal/strconv.uint64pow10" .u64 Lib.pow10Tab
theorem kpow_below {w w' : World} (h : KPow w) (hb : Below w.heap.size w w') : KPow w' := Go.Joins.tab_stays (g := 13) (by kernel_rfl) h hb (Nat.le_refl _)
theorem cKey1_calls {w0 W : World} (hP : KPow w0) (hB : Below w0.heap.size w0 W) (b : Nat) (bs s : List UInt8) (hb : Lib.IsBuilderF 163 5 w0.heap.size b (Lib.byteCells bs) W) (hl : bs.length ≤ 100000) (hs : s.length ≤ 3000) :
  Calls Tryz.prog 287 #[.string (ba s),.pointer (some ⟨b,0,none⟩)] W fun e w' => e = .returned (.tuple #[]) ∧ Lib.IsBuilderF 163 5 w0.heap.size b (Lib.byteCells (bs ++ Kp.piece s)) w' ∧ Below w0.heap.size W w' := by
 have HI := hid1 ((Tryz.strconv_Itoa (s.length : Int) (by omega) (by omega) W (kpow_below hP hB)).mono (R' := fun e w' => e = .returned (.string (ba (Lib.decDigits s.length))) ∧ Below W.heap.size W w') (by
  rintro e w' ⟨rfl,k,os,rfl⟩
  rw [Lib.itoa_nonneg]
  exact ⟨rfl,below_grow W k os⟩))
 have hdl := digits_len s.length (by omega)
 have HW : Hid (∀ (bs s : List UInt8) V,bs.length + s.length ≤ 10000000 → w0.heap.size ≤ V.heap.size → Lib.IsBuilderF 163 5 w0.heap.size b (Lib.byteCells bs) V → Calls Tryz.prog 102 #[.pointer (some ⟨b,0,none⟩),.string (ba s)] V fun e w' =>
   e = .returned (.tuple #[.int .i64 s.length,.nilIface]) ∧ Lib.IsBuilderF 163 5 w0.heap.size b (Lib.byteCells (bs ++ s)) w' ∧ Below w0.heap.size V w') := hid1 fun bs s V hl hV hb => by
  refine (Any.Builder_WriteString_k Tryz.lays166B Tryz.Builder_Extra_166B w0.heap.size b (Lib.byteCells bs) (ba s) V hb (by rw [Lib.byteCells_length,ba_size];omega) hV).mono ?_
  rintro e w' ⟨rfl,h1,h2,h3⟩
  refine ⟨by rw [ba_size],.inr ?_,h2⟩
  rw [Lib.byteCells_append]
  exact h1
 have HC : Hid (∀ (bs : List UInt8) V,bs.length ≤ 10000000 → w0.heap.size ≤ V.heap.size → Lib.IsBuilderF 163 5 w0.heap.size b (Lib.byteCells bs) V → Calls Tryz.prog 288 #[.pointer (some ⟨b,0,none⟩),.int .u8 58] V fun e w' =>
   e = .returned .nilIface ∧ Lib.IsBuilderF 163 5 w0.heap.size b (Lib.byteCells (bs ++ [58])) w' ∧ Below w0.heap.size V w') := hid1 fun bs V hl hV hb => by
  refine (Any.Builder_WriteByte_k Tryz.lays167 Tryz.Builder_Extra_167 w0.heap.size b (Lib.byteCells bs) 58 V hb (by rw [Lib.byteCells_length];omega) hV).mono ?_
  rintro e w' ⟨rfl,h1,h2,h3⟩
  refine ⟨rfl,.inr ?_,h2⟩
  rw [Lib.byteCells_append]
  exact h1
 have HB := hid1 hb
 have zB := hB.size
 clear hP hB hb
 go_enter Tryz.func287,Tryz.ntmps287
 go_wp2_with fail
 refine HI.out.mono ?_
 rintro e w1 ⟨rfl,g1⟩
 have B1 := hid1 (isBuilder_belowK HB.out g1)
 have z1 := g1.size
 clear HI HB
 go_wp2_with fail
 refine (HW.out bs _ w1 (by omega) (by omega) B1.out).mono ?_
 rintro e w2 ⟨rfl,b2,g2⟩
 have B2 := hid1 b2
 have G2 := hid1 ((g1.mono zB).trans g2)
 have z2 := g2.size
 clear B1 g1 b2 g2
 go_wp2_with fail
 refine (HC.out _ w2 (by rw [List.length_append];omega) (by omega) B2.out).mono ?_
 rintro e w3 ⟨rfl,b3,g3⟩
 have B3 := hid1 b3
 have G3 := hid1 (G2.out.trans g3)
 have z3 := g3.size
 clear B2 G2 b3 g3 HC
 go_wp2_with fail
 refine (HW.out _ s w3 (by rw [List.length_append,List.length_append,List.length_singleton];omega) (by omega) B3.out).mono ?_
 rintro e w4 ⟨rfl,b4,g4⟩
 have B4 := hid1 b4
 have G4 := hid1 (G3.out.trans g4)
 clear B3 G3 b4 g4 HW
 go_wp2
 go_end0
 refine ⟨rfl,?_,G4.out⟩
 have := B4.out
 unfold Kp.piece
 simpa using this
theorem Kp.piece_len (s : List UInt8) (h : s.length ≤ 3000) : (Kp.piece s).length ≤ 3022 := by
 unfold Kp.piece
 have := digits_len s.length (by omega)
 simp
 omega
theorem Kp.flat_len : ∀ (l : List (List UInt8)),(∀ x ∈ l,x.length ≤ 3000) → (l.flatMap Kp.piece).length ≤ l.length * 3022
 | [],_ => by simp
 | x :: l,h => by
  have h1 := Kp.piece_len x (h x (by simp))
  have h2 := Kp.flat_len l fun y hy => h y (List.mem_cons_of_mem _ hy)
  simp only [List.flatMap_cons,List.length_append,List.length_cons]
  omega
theorem Kp.flat_take {l : List (List UInt8)} {j : Nat} (hj : j < l.length) : (l.take (j + 1)).flatMap Kp.piece = (l.take j).flatMap Kp.piece ++ Kp.piece l[j] := by
 rw [List.take_succ_eq_append_getElem hj,List.flatMap_append,List.flatMap_cons,List.flatMap_nil,List.append_nil]
theorem cKey_calls {w0 W : World} (hP : KPow w0) (hB : Below w0.heap.size w0 W) (kind word : List UInt8) (v : Value) (ins : List (List UInt8)) (hx : XRow W v ins) (h1 : kind.length ≤ 3000) (h2 : word.length ≤ 3000) (h3 : ins.length ≤ 20) (h4 : ∀ x ∈ ins,x.length ≤ 3000) :
  Calls Tryz.prog 201 #[.string (ba kind),.string (ba word),v] W fun e w' => e = .returned (.string (ba (Kp.key kind word ins))) ∧ Below W.heap.size W w' := by
 have hPW := kpow_below hP hB
 obtain ⟨p,cap,rfl,hcap,hnn,hin⟩ := hx
 have HX := hid1 hin
 have g0 : Below W.heap.size W (W.alloc (.cells #[.pointer none,.slice none 0 0] 163)) := (Below.refl _ W).alloc (Nat.le_refl _) _
 have b0 : Lib.IsBuilderF 163 5 W.heap.size W.heap.size (Lib.byteCells []) (W.alloc (.cells #[.pointer none,.slice none 0 0] 163)) := Lib.IsBuilderF.of (Lib.fresh_isBuilder 163 5 W)
 have HA := hid1 fun (V : World) (bs s : List UInt8) (gV : Below W.heap.size W V) (bV : Lib.IsBuilderF 163 5 W.heap.size W.heap.size (Lib.byteCells bs) V) (hl : bs.length ≤ 100000) (hs : s.length ≤ 3000) => cKey1_calls hPW gV W.heap.size bs s bV hl hs
 have HS := hid1 fun (V : World) (bs : List UInt8) (hV : W.heap.size ≤ V.heap.size) (hb : Lib.IsBuilderF 163 5 W.heap.size W.heap.size (Lib.byteCells bs) V) => Any.Builder_String_any_k Tryz.lays169 Tryz.Builder_Extra_169 W.heap.size W.heap.size bs V hb hV
 have hf1 := Kp.piece_len kind h1
 have hf2 := Kp.piece_len word h2
 have HFl := hid1 fun j : Nat => Kp.flat_len (ins.take j) fun x hx => h4 x (List.mem_of_mem_take hx)
 have hen := enters_of Tryz.func287 (by kernel_rfl) rfl
 have HH4 := hid1 h4
 have zi : (ins.length : Int) ≤ 20 := by omega
 clear hP hB hin h4
 generalize hW0 : W.alloc (.cells #[.pointer none,.slice none 0 0] 163) = w1 at *
 go_enter Tryz.func201,Tryz.ntmps201
 go_wp2_with fail
 refine (HA.out w1 [] kind g0 b0 (by simp) h1).mono ?_
 rintro e w2 ⟨rfl,b2,g2⟩
 have G2 := g0.trans g2
 clear b0 g2
 go_wp2_with fail
 refine (HA.out w2 _ word G2 b2 (by simp;omega) h2).mono ?_
 rintro e w3 ⟨rfl,b3,g3⟩
 have G3 := G2.trans g3
 have HB3 := hid1 b3
 clear b2 g3 b3
 go_wp2
 go_loopw [20] (fun iv wr => ∃ j : Nat,j ≤ ins.length ∧ iv = .int .i64 j ∧ Lib.IsBuilderF 163 5 W.heap.size W.heap.size (Lib.byteCells (Kp.piece kind ++ Kp.piece word ++ (ins.take j).flatMap Kp.piece)) wr ∧ Below W.heap.size W wr) (fun iv _ => ins.length - (intOf iv).toNat)
 case atStart => exact ⟨0,Nat.zero_le _,rfl,by simpa using HB3.out,G3⟩
 case round =>
  clear HB3 G3
  obtain ⟨j,hj,rfl,hb,hB⟩ := hrel
  have HB := hid1 hb
  clear hb
  have hfl := HFl.out j
  rw [List.length_take] at hfl
  have j0 : (0 : Int) ≤ (j : Int) := by omega
  by_cases hlt : j < ins.length
  ·have j1 : (j : Int) < (ins.length : Int) := by omega
   obtain ⟨g,o,rfl,hg,hc⟩ := HX.out (by intro e;rw [e] at hlt;simp at hlt)
   have d0 := (hB.cell (p := ⟨g,o + j,none⟩) hg).trans (hc j hlt)
   have HF := hid1 (HA.out wr _ ins[j] hB HB.out (by simp only [List.length_append];omega) (HH4.out _ (List.getElem_mem hlt)))
   have HT := hid1 (Kp.flat_take hlt)
   clear hc HX HA HB HS
   generalize ins[j] = x at *
   go_wp2_with fail
   refine HF.out.mono ?_
   rintro e w5 ⟨rfl,b5,g5⟩
   have HB5 := hid1 b5
   have G5 := hB.trans g5
   clear HF b5 g5
   go_wp2
   refine ⟨⟨j + 1,by omega,by go_num,?_,G5⟩,by simp [intOf];omega⟩
   have := HB5.out
   rw [HT.out]
   simpa using this
  ·have j1 : (ins.length : Int) ≤ (j : Int) := by omega
   obtain rfl : j = ins.length := by omega
   have hb : Lib.IsBuilderF 163 5 W.heap.size W.heap.size (Lib.byteCells (Kp.key kind word ins)) wr := by
    have := HB.out
    rw [List.take_length] at this
    exact this
   have HE := hid1 (HS.out wr _ hB.size hb)
   clear HB HX HA hb HS
   go_wp2_with fail
   refine HE.out.mono ?_
   rintro e w5 ⟨rfl,-,g5,-⟩
   have G5 := hB.trans g5
   clear HE g5
   go_wp2
   go_ret
   exact ⟨rfl,G5⟩
theorem keyTells {W : World} (hP : KPow W) : KeyTells W := fun V hV kind word v ins hx h1 h2 h3 h4 => cKey_calls hP hV kind word v ins hx (by omega) (by omega) (by omega) fun x hx => by have := h4 x hx;omega
end Go.Proofs.YthchjnopgagilaaGreatDoor
namespace Go.Proofs.YthchjnopgagilaaGreatDoor
open Go.RowKit Go.Shelf Go.Lib
theorem plFile_calls (W : World) (q : Nat) : Calls Tryz.prog 298 #[.int .i64 q] W fun e w' => e = .returned (.string (ba (Pl.file q))) ∧ w' = W := by
 have hm : ((q : Int)).tmod 3 = ((q % 3 : Nat) : Int) := rfl
 have h3 : q % 3 = 0 ∨ q % 3 = 1 ∨ q % 3 = 2 := by omega
 unfold Pl.file
 rcases h3 with h | h | h
 ·rw [h] at hm
  rw [if_pos h]
  have hm' : ((q : Int)).tmod 3 = 0 := hm
  clear hm h
  go_enter Tryz.func298,Tryz.ntmps298
  go_wp2
  go_ret
  exact ⟨rfl,rfl⟩
 ·rw [h] at hm
  rw [if_neg (by omega),if_pos h]
  have hm' : ((q : Int)).tmod 3 = 1 := hm
  clear hm h
  go_enter Tryz.func298,Tryz.ntmps298
  go_wp2
  go_ret
  exact ⟨rfl,rfl⟩
 ·rw [h] at hm
  rw [if_neg (by omega),if_neg (by omega)]
  have hm' : ((q : Int)).tmod 3 = 2 := hm
  clear hm h
  go_enter Tryz.func298,Tryz.ntmps298
  go_wp2
  go_ret
  exact ⟨rfl,rfl⟩
namespace Pl
def bitN : Nat → Nat | 0 => 16 | 1 => 8 | 2 => 4 | 3 => 2 | 4 => 1 | _ => 0
theorem bits_and : ∀ (n : Fin 32) (k : Fin 5),bits .and .i64 ((n.1 : Nat) : Int) ((bitN k.1 : Nat) : Int) = if bit n.1 k.1 = 120 then ((bitN k.1 : Nat) : Int) else 0 := by decide
theorem bit_two (n k : Nat) : bit n k = 120 ∨ bit n k = 10 := by unfold bit;split <;> simp
theorem lets_take (n k : Nat) (hk : k < 5) : (lets n).take (k + 1) = (lets n).take k ++ [bit n k] := by
 have : k = 0 ∨ k = 1 ∨ k = 2 ∨ k = 3 ∨ k = 4 := by omega
 rcases this with rfl | rfl | rfl | rfl | rfl <;> rfl
theorem bitN_half (k : Nat) (hk : k < 5) : ((bitN k : Nat) : Int).tdiv 2 = ((bitN (k + 1) : Nat) : Int) := by
 have : k = 0 ∨ k = 1 ∨ k = 2 ∨ k = 3 ∨ k = 4 := by omega
 rcases this with rfl | rfl | rfl | rfl | rfl <;> rfl
theorem bitN_pos (k : Nat) (hk : k < 5) : 1 ≤ bitN k ∧ bitN k ≤ 16 := by
 have : k = 0 ∨ k = 1 ∨ k = 2 ∨ k = 3 ∨ k = 4 := by omega
 rcases this with rfl | rfl | rfl | rfl | rfl <;> decide
end Pl
theorem plLetters_calls (w : World) (n : Nat) (hn : n < 32) : Calls Tryz.prog 299 #[.int .i64 n] w fun e w' => e = .returned (.string (ba (Pl.lets n))) ∧ Below w.heap.size w w' := by
 have g0 : Below w.heap.size w (w.alloc (.cells #[.pointer none,.slice none 0 0] 163)) := (Below.refl _ w).alloc (Nat.le_refl _) _
 have b0 : Lib.IsBuilderF 163 5 w.heap.size w.heap.size [] (w.alloc (.cells #[.pointer none,.slice none 0 0] 163)) := Lib.IsBuilderF.of (Lib.fresh_isBuilder 163 5 w)
 have HC : Hid (∀ (c : UInt8) (bs : List UInt8) V,bs.length ≤ 100 → w.heap.size ≤ V.heap.size → Lib.IsBuilderF 163 5 w.heap.size w.heap.size (Lib.byteCells bs) V → Calls Tryz.prog 288 #[.pointer (some ⟨w.heap.size,0,none⟩),.int .u8 (c.toNat : Int)] V fun e w' =>
   e = .returned .nilIface ∧ Lib.IsBuilderF 163 5 w.heap.size w.heap.size (Lib.byteCells (bs ++ [c])) w' ∧ Below w.heap.size V w') := hid1 fun c bs V hl hV hb => by
  refine (Any.Builder_WriteByte_k Tryz.lays167 Tryz.Builder_Extra_167 w.heap.size w.heap.size (Lib.byteCells bs) (c.toNat : Int) V hb (by rw [Lib.byteCells_length];omega) hV).mono ?_
  rintro e w' ⟨rfl,h1,h2,h3⟩
  refine ⟨rfl,.inr ?_,h2⟩
  rw [Lib.byteCells_append]
  exact h1
 have HS : Hid (∀ V,w.heap.size ≤ V.heap.size → Lib.IsBuilderF 163 5 w.heap.size w.heap.size (Lib.byteCells (Pl.lets n)) V → Calls Tryz.prog 104 #[.pointer (some ⟨w.heap.size,0,none⟩)] V fun e w' => e = .returned (.string (ba (Pl.lets n))) ∧ Below w.heap.size V w') := hid1 fun V hV hb => by
  refine (Tryz.Builder_String_any_k w.heap.size w.heap.size (Pl.lets n) V hb hV).mono ?_
  rintro e w' ⟨rfl,_,h2,_⟩
  exact ⟨rfl,h2⟩
 have HB0 := hid1 (And.intro g0 b0)
 have hn' : (n : Int) < 32 := by omega
 clear g0 b0
 go_enter Tryz.func299,Tryz.ntmps299
 go_wp2
 go_loopw [4] (fun bv wr => ∃ k : Nat,k ≤ 5 ∧ bv = .int .i64 ((Pl.bitN k : Nat) : Int) ∧ Lib.IsBuilderF 163 5 w.heap.size w.heap.size (Lib.byteCells ((Pl.lets n).take k)) wr ∧ Below w.heap.size w wr) (fun bv _ => (intOf bv).toNat)
 case atStart => exact ⟨0,by omega,rfl,HB0.out.2,HB0.out.1⟩
 case round =>
  clear HB0
  obtain ⟨k,hk,rfl,hbl,hB⟩ := hrel
  by_cases hlt : k < 5
  ·have hb1 := Pl.bitN_pos k hlt
   have hhalf := Pl.bitN_half k hlt
   have hand := Pl.bits_and ⟨n,hn⟩ ⟨k,hlt⟩
   have HTk := hid1 (Pl.lets_take n k hlt)
   have hkl : ((Pl.lets n).take k).length ≤ 100 := by simp [Pl.lets];omega
   have HHalf : Hid (((Pl.bitN (k + 1) : Nat)) < Pl.bitN k) := hid1 (by
    have : k = 0 ∨ k = 1 ∨ k = 2 ∨ k = 3 ∨ k = 4 := by omega
    rcases this with rfl | rfl | rfl | rfl | rfl <;> decide)
   have p1 : (0 : Int) < ((Pl.bitN k : Nat) : Int) := by omega
   have HBl := hid1 (And.intro hbl hB)
   have hsz := hB.size
   have ho : w.heap.size ≤ wr.heap.size := hB.size
   simp only at hand
   have HW2 : Hid (wrap64 ((Pl.bitN (k + 1) : Nat) : Int) = ((Pl.bitN (k + 1) : Nat) : Int)) := hid1 (by
    have : k = 0 ∨ k = 1 ∨ k = 2 ∨ k = 3 ∨ k = 4 := by omega
    rcases this with rfl | rfl | rfl | rfl | rfl <;> exact (by unfold wrap64;decide))
   have HEnd : Hid (∀ w2,Lib.IsBuilderF 163 5 w.heap.size w.heap.size (Lib.byteCells ((Pl.lets n).take k ++ [Pl.bit n k])) w2 → Below w.heap.size wr w2 → (∃ j,j ≤ 5 ∧ Value.int .i64 (wrap64 ((Pl.bitN (k + 1) : Nat) : Int)) = Value.int .i64 ((Pl.bitN j : Nat) : Int) ∧ Lib.IsBuilderF 163 5 w.heap.size w.heap.size (Lib.byteCells ((Pl.lets n).take j)) w2 ∧ Below w.heap.size w w2) ∧ (intOf (Value.int .i64 (wrap64 ((Pl.bitN (k + 1) : Nat) : Int)))).toNat < (intOf (Value.int .i64 ((Pl.bitN k : Nat) : Int))).toNat) := hid1 fun w2 h1 h2 => by
    rw [HW2.out]
    refine ⟨⟨k + 1,by omega,rfl,by rw [HTk.out];exact h1,HBl.out.2.trans h2⟩,?_⟩
    have := HHalf.out
    simp [intOf]
    omega
   clear hbl hB hb1
   rcases Pl.bit_two n k with hb | hb
   ·rw [hb] at HEnd hand
    rw [if_pos rfl] at hand
    generalize Pl.bitN (k + 1) = b2 at *
    generalize hbk : Pl.bitN k = b1 at *
    go_wp2_with fail
    refine (HC.out 120 _ wr hkl ho HBl.out.1).mono ?_
    rintro e w2 ⟨rfl,B2,h2⟩
    go_wp2
    exact HEnd.out w2 B2 h2
   ·rw [hb] at HEnd hand
    rw [if_neg (by decide)] at hand
    generalize Pl.bitN (k + 1) = b2 at *
    generalize hbk : Pl.bitN k = b1 at *
    go_wp2_with fail
    refine (HC.out 10 _ wr hkl ho HBl.out.1).mono ?_
    rintro e w2 ⟨rfl,B2,h2⟩
    go_wp2
    exact HEnd.out w2 B2 h2
  ·obtain rfl : k = 5 := by omega
   have e0 : ((Pl.bitN 5 : Nat) : Int) = 0 := rfl
   have HS1 := hid1 (HS.out wr hB.size hbl)
   clear HS HC
   go_wp2_with fail
   refine HS1.out.mono ?_
   rintro e w2 ⟨rfl,h2⟩
   go_wp2
   go_ret
   exact ⟨rfl,hB.trans h2⟩
end Go.Proofs.YthchjnopgagilaaGreatDoor
namespace Go.Proofs.YthchjnopgagilaaGreatDoor
open Go.RowKit Go.Shelf Go.Lib
variable {es : Nat → Addr} {At : (Nat → Prop) → World → Value → Nat → Cf.Ens → Prop}
def YOwn (yb : Nat) (L : YL) (j : Nat) : Prop := j = yb ∨ j = L.tb ∨ L.o1 = some j ∨ j = L.ob ∨ L.o2 = some j ∨ L.SC j ∨ L.R j
open Classical in
theorem YdAt.stay (HC : Caches0 es At) {B : Nat} {W W' : World} {yb : Nat} {L : YL} {y : Bf.Yd} (h : YdAt At B W yb L y) (hz : W.heap.size ≤ W'.heap.size) (hb : ∀ j,j < W.heap.size → YOwn yb L j → W'.heap[j]? = W.heap[j]?) : YdAt At B W' yb L y := by
 have hk : ∀ j,YOwn yb L j → (fun j => if YOwn yb L j then L.k j else 9) j = L.k j := fun j hj => if_pos hj
 have h2 : YdAt At B W yb { L with k := fun j => if YOwn yb L j then L.k j else 9 } y :=
  ⟨h.row,h.low,h.t,h.o,h.ca,h.cp,h.lowC,h.rows,h.rlt,(hk _ (.inl rfl)).trans h.ky,(hk _ (.inr (.inl rfl))).trans h.kt,fun j hj => (hk j (.inr (.inr (.inl hj)))).trans (h.k1 j hj),(hk _ (.inr (.inr (.inr (.inl rfl))))).trans h.ko,fun j hj => (hk j (.inr (.inr (.inr (.inr (.inl hj)))))).trans (h.k2 j hj),fun j hj => (hk j (.inr (.inr (.inr (.inr (.inr (.inl hj))))))).trans (h.kc j hj),fun j hj => (hk j (.inr (.inr (.inr (.inr (.inr (.inr hj))))))).trans (h.kr j hj)⟩
 have h3 := h2.aside HC (W' := W') ⟨hz,fun j hj hn => hb j hj (Classical.byContradiction fun ho => hn (if_neg ho))⟩
 exact ⟨h3.row,h3.low,h3.t,h3.o,h3.ca,h3.cp,h3.lowC,h3.rows,h3.rlt,h.ky,h.kt,h.k1,h.ko,h.k2,h.kc,h.kr⟩
theorem YdAt.own_k {B : Nat} {W : World} {yb : Nat} {L : YL} {y : Bf.Yd} (h : YdAt At B W yb L y) {j : Nat} (hj : YOwn yb L j) : L.k j ≤ 4 := by
 rcases hj with rfl | rfl | e | rfl | e | e | e
 ·rw [h.ky];omega
 ·rw [h.kt];omega
 ·rw [h.k1 j e];omega
 ·rw [h.ko];omega
 ·rw [h.k2 j e];omega
 ·rw [h.kc j e];omega
 ·rw [h.kr j e];omega
theorem MapAt.low {B : Nat} {w : World} {tb : Nat} {fs : Tf.Fs} {j : Nat} (h : MapAt B w tb (some j) fs) : B ≤ j := h.1
theorem YdAt.own_low {B : Nat} {W : World} {yb : Nat} {L : YL} {y : Bf.Yd} (h : YdAt At B W yb L y) (hR : ∀ j,L.R j → B ≤ j) {j : Nat} (hj : YOwn yb L j) : B ≤ j := by
 rcases hj with rfl | rfl | e | rfl | e | e | e
 ·exact h.low
 ·exact h.t.low
 ·have := h.t.isMap;rw [e] at this;exact this.low
 ·exact h.o.low
 ·have := h.o.isMap;rw [e] at this;exact this.low
 ·exact h.lowC j e
 ·exact hR j e
structure YStep (W w' : World) (L L' : YL) : Prop where
 size : W.heap.size ≤ w'.heap.size
 rest : ∀ j,j < W.heap.size → L.k j = 9 → w'.heap[j]? = W.heap[j]?
 kk : ∀ j,j < W.heap.size → L'.k j = L.k j
theorem YStep.refl (W : World) (L : YL) : YStep W W L L := ⟨Nat.le_refl _,fun _ _ _ => rfl,fun _ _ => rfl⟩
theorem YStep.trans {W V U : World} {L M N : YL} (h : YStep W V L M) (h' : YStep V U M N) : YStep W U L N :=
 ⟨Nat.le_trans h.size h'.size,fun j hj hk => (h'.rest j (Nat.lt_of_lt_of_le hj h.size) ((h.kk j hj).trans hk)).trans (h.rest j hj hk),fun j hj => (h'.kk j (Nat.lt_of_lt_of_le hj h.size)).trans (h.kk j hj)⟩
theorem YStep.below {W V : World} (L : YL) (h : Below W.heap.size W V) : YStep W V L L := ⟨h.size,fun j hj _ => h.block j hj,fun _ _ => rfl⟩
theorem YdAt.files2 (HC : Caches0 es At) {B : Nat} {W W' : World} {yb : Nat} {L : YL} {y : Bf.Yd} (h : YdAt At B W yb L y) {fs : Tf.Fs} {o' : Option Nat} (hT : TreeAt B W' L.tb fs o') (hon : OldNew W L.o1 o') (hK : Kept (tS L.tb L.o1) W W') : ∃ L',YdAt At B W' yb L' { y with fs := fs } ∧ YStep W W' L L' :=
 ⟨_,h.files HC hT hon hK,hK.size,fun j hj h9 => hK.block j hj fun e => e.elim (fun e => by rw [e,h.kt] at h9;omega) fun e => by rw [h.k1 j e] at h9;omega,fun j hj => L.more_old hj⟩
theorem YdAt.made2 {B : Nat} {W w' : World} {yb : Nat} {L L' : YL} {y : Bf.Yd} (h : YdAt At B W yb L y) (hz : W.heap.size ≤ w'.heap.size) (hr : ∀ j,j < W.heap.size → j ≠ L.ob → L.o2 ≠ some j → ¬ L.SC j → w'.heap[j]? = W.heap[j]?) (hk : ∀ j,j < W.heap.size → L'.k j = L.k j) : YStep W w' L L' :=
 ⟨hz,fun j hj h9 => hr j hj (fun e => by rw [e,h.ko] at h9;omega) (fun e => by rw [h.k2 j e] at h9;omega) (fun e => by rw [h.kc j e] at h9;omega),hk⟩
end Go.Proofs.YthchjnopgagilaaGreatDoor
namespace Go.Proofs.YthchjnopgagilaaGreatDoor
open Go.RowKit Go.Shelf Go.Lib
variable {es : Nat → Addr} {At : (Nat → Prop) → World → Value → Nat → Cf.Ens → Prop}
theorem yRules_calls (HC : Caches0 es At) {B : Nat} {W : World} {yb : Nat} {L : YL} {y : Bf.Yd} (h : YdAt At B W yb L y) (hG : GraphW W es) (v : Value) (l : List Ru) (hrow : RRow W v l) (hl : l.length ≤ 1000) (hS : ∀ x ∈ l,x.Small) :
  Calls Tryz.prog 82 #[Ptr yb,v] W fun e w' => ∃ ev,e = .returned ev ∧ Below B W w' ∧
   (((∃ t u,ev = .iface t u) ∧ ¬ ((Ru.fault l).1 = 0 ∧ (Ru.order l allB1).isSome = true) ∧ Below W.heap.size W w') ∨
    (ev = .nilIface ∧ (Ru.fault l).1 = 0 ∧ (Ru.order l allB1).isSome = true ∧ ∃ L',L'.tb = L.tb ∧ L'.ob = L.ob ∧ ((∀ j,L'.R j → W.heap.size ≤ j) ∧ L'.o1 = L.o1 ∧ L'.o2 = L.o2 ∧ L'.SC = L.SC) ∧ YdAt At B w' yb L' { y with l := l })) := by
 have HO := hid1 (gOrder_calls hG v l hrow hl hS)
 have HCp := hid1 fun (V : World) (g : Below W.heap.size W V) => ycopy_calls v l (hrow.below g) hl fun x hx => by have := (hS x hx).many;omega
 have HY := hid1 h
 have hBW : B ≤ W.heap.size := by have := h.low;have := h.lt;omega
 have HCs := hid1 HC
 obtain ⟨pl,cl,rfl,-⟩ := hrow
 clear h hG hS HC
 go_enter Tryz.func82,Tryz.ntmps82
 go_wp2_with fail
 refine HO.out.mono ?_
 rintro e w1 ⟨u1,ev,rfl,g1,hT⟩
 clear HO
 have hcase : (∃ p n c,u1 = .slice p n c) ∧ ((∃ t x,ev = .iface t x) ∧ ¬ ((Ru.fault l).1 = 0 ∧ (Ru.order l allB1).isSome = true) ∨ (ev = .nilIface ∧ (Ru.fault l).1 = 0 ∧ (Ru.order l allB1).isSome = true)) := by
  rcases hT with ⟨hf,hE,p,c,rfl⟩ | ⟨hf,ho,rfl,p,c,rfl⟩ | ⟨hf,o,ho,rfl,p,c,rfl,-⟩
  ·exact ⟨⟨_,_,_,rfl⟩,.inl ⟨hE.some hf,fun e => hf e.1⟩⟩
  ·exact ⟨⟨_,_,_,rfl⟩,.inl ⟨⟨_,_,rfl⟩,fun e => by have := e.2;rw [ho] at this;cases this⟩⟩
  ·exact ⟨⟨_,_,_,rfl⟩,.inr ⟨rfl,hf,by rw [ho];rfl⟩⟩
 clear hT
 obtain ⟨⟨p1,n1,c1,rfl⟩,hcase⟩ := hcase
 rcases hcase with ⟨⟨t,x,rfl⟩,hbad⟩ | ⟨rfl,hok⟩
 ·have HB := hid1 hbad
  clear hbad HCp HY
  go_wp2
  go_ret
  exact ⟨_,rfl,g1.mono hBW,.inl ⟨⟨_,_,rfl⟩,HB.out,g1⟩⟩
 ·have HOk := hid1 hok
  have HC1 := hid1 (HCp.out w1 g1)
  clear hok HCp
  go_wp2_with fail
  refine HC1.out.mono ?_
  rintro e w2 ⟨v2,rfl,g2,hN⟩
  have G2 := below_then g1 g2
  have HN := hid1 hN
  obtain ⟨p2,c2,rfl,-⟩ := hN w2 (Nat.le_refl _) fun _ _ _ => rfl
  have hy2 := HY.out.below HCs.out G2
  have d2 := hy2.c2
  have f2 : w2.frozen? ⟨yb,2,none⟩ = false := by simp [World.frozen?,hy2.row]
  have HR : Hid ((w2.setCell ⟨yb,2,none⟩ (.slice p2 l.length c2)).heap[yb]? = some (.cells #[Ptr L.tb,Ptr L.ob,.slice p2 l.length c2,L.cv] 239 (0,0))) := hid1 (by
   rw [heap_setCell_same w2 yb 2 _ _ _ hy2.row]
   rfl)
  have hst : ∀ (a : Addr) (m : Mode) (W : World),Sem.run Tryz.prog (store a (.slice p2 l.length c2) m) W = stored Tryz.prog W a (.slice p2 l.length c2) m := fun a m W => run_store _ W a _ m rfl
  have hlow := HY.out.low
  have HG1 := hid1 g1
  clear HC1 hN hy2 g1 g2
  go_wp2
  go_ret
  have hNew : ∀ V : World,w2.heap.size ≤ V.heap.size → (∀ j,W.heap.size ≤ j → j < w2.heap.size → V.heap[j]? = w2.heap[j]?) → RRow V (.slice p2 l.length c2) l := fun V hz hV => HN.out V hz fun j h1 h2 => hV j (by have := HG1.out.size;omega) h2
  refine ⟨_,rfl,(G2.mono hBW).setCell (p := ⟨yb,2,none⟩) hlow _,.inr ⟨rfl,HOk.out.1,HOk.out.2,_,?_,?_,?_,HY.out.ruled HCs.out G2 hNew HR.out⟩⟩
  ·rfl
  ·rfl
  ·exact ⟨fun j hj => hj.1,rfl,rfl,rfl⟩
end Go.Proofs.YthchjnopgagilaaGreatDoor
namespace Go.Proofs.YthchjnopgagilaaGreatDoor
namespace Lb
abbrev fs : Tf.Fs := [([97],[120])]
abbrev r : Ru := ⟨[98],[117,112,112,101,114],[],[[97]]⟩
abbrev l : List Ru := [r]
abbrev outs : List (List UInt8) := [[98]]
abbrev key : List UInt8 := Kp.key [117,112,112,101,114] [] [[120]]
abbrev d : Bf.Bd := ⟨fs,l,fun k => if k = 0 then .waits else .no⟩
theorem fault0 : (Ru.fault l).1 = 0 := by kernel_rfl
theorem needs0 (i k : Nat) : Ru.needs l i k = false := by
 cases hn : Ru.needs l i k with
 | false => rfl
 | true =>
  obtain ⟨h1,h2⟩ := Ru.needs_lt hn
  obtain rfl : i = 0 := by simp at h1;omega
  obtain rfl : k = 0 := by simp at h2;omega
  have : Ru.needs l 0 0 = false := by decide
  rw [this] at hn
  cases hn
theorem needed : Ru.Needed l outs (fun k => decide (k = 0)) := by
 have hb : Ru.base l outs 0 = true := by decide
 refine ⟨fun k hk => ?_,fun i k _ h => ?_,fun P h1 _ k hk h => ?_⟩
 ·cases k with
  | zero => rfl
  | succ k =>
   simp [Ru.base] at hk
 ·rw [needs0] at h
  cases h
 ·obtain rfl : k = 0 := by simp at hk;omega
  exact h1 0 hb
theorem need0 : Bf.need l outs 0 = true := by
 rw [Bf.need_eq needed (by decide)]
 rfl
theorem init0 : Bf.init fs l outs = d := by
 unfold Bf.init
 congr 1
 funext k
 by_cases h : k = 0
 ·subst h
  rw [need0]
  rfl
 ·rw [Bf.need_out (by simp;omega)]
  simp [h]
theorem order0 : (Ru.order l (Bf.need l outs)).isSome = true := by
 rw [Ru.order_congr2 (g := fun k => decide (k = 0)) fun k hk => Bf.need_eq needed hk]
 decide
theorem ready0 : d.isReady 0 = true := Bf.ready_of rfl fun k _ hn => by
 rw [show Ru.needs d.l 0 k = false from needs0 0 k] at hn
 cases hn
theorem act0 : Af.actO [117,112,112,101,114] [] [[120]] = ([88],0) := by decide
theorem run1 : Bf.run Af.actO (some (3,[])) d 0 = ⟨false,0,d.set 0 (.done [88] false),some (3,[(key,[88])])⟩ := by
 rw [show (0 : Int) = ((0 : Nat) : Int) from rfl,Bf.run_ready _ _ _ _ (by decide) ready0]
 unfold Bf.go
 have e1 : d.ins 0 = some [[120]] := by decide
 have e2 : d.rule 0 = r := rfl
 rw [e1]
 simp only [e2]
 have e3 : Bf.cfind (some (3,[])) (Kp.key r.kind r.word [[120]]) = none := rfl
 rw [e3]
 simp only
 rw [act0,if_pos rfl]
 rfl
end Lb
end Go.Proofs.YthchjnopgagilaaGreatDoor
namespace Go.Proofs.YthchjnopgagilaaGreatDoor
open Go.RowKit Go.Shelf Go.Lib Go.Maps
theorem lb_rises : Tf.Rises Lb.fs := by
 unfold Tf.Rises
 simp
theorem lb_small : ∀ x ∈ Lb.l,x.Small := fun x hx => by
 obtain rfl := List.mem_singleton.1 hx
 exact ⟨by decide,by decide,by decide,by decide,fun y hy => by obtain rfl := List.mem_singleton.1 hy;decide⟩
end Go.Proofs.YthchjnopgagilaaGreatDoor
namespace Go.Proofs.YthchjnopgagilaaGreatDoor
open Go.RowKit Go.Shelf Go.Lib
variable {es : Nat → Addr} {At : (Nat → Prop) → World → Value → Nat → Cf.Ens → Prop} {BAt : (Nat → Prop) → World → Value → Value → Bf.Bd → Prop}
namespace Ly
abbrev y0 : Bf.Yd := ⟨Lb.fs,[],Lb.l,some (3,[])⟩
abbrev d1 : Bf.Bd := Lb.d.set 0 (.done [88] false)
theorem sheet : SheetOk Lb.l := ⟨Lb.fault0,by decide,lb_small⟩
theorem flat : Bf.Flat Lb.l := fun i k hi hk => by
 obtain rfl : i = 0 := by simp at hi;omega
 obtain rfl : k = 0 := by simp at hk;omega
 exact Tf.above_self _
theorem well : Tf.Well pathB Lb.fs := by
 have hp1 : pathB [97] = true := by rw [pathB_R];decide
 refine ⟨lb_rises,by simp,fun f hf => ?_,fun f hf g hg => ?_⟩
 ·obtain rfl := List.mem_singleton.1 hf
  exact ⟨hp1,by simp⟩
 ·obtain rfl := List.mem_singleton.1 hf
  obtain rfl := List.mem_singleton.1 hg
  exact Tf.above_self _
theorem wellnil : Tf.Well pathB [] := ⟨List.Pairwise.nil,by simp,fun f hf => by simp at hf,fun f hf => by simp at hf⟩
theorem fine : Bf.YFine Lb.l 3 y0 := ⟨rfl,well,wellnil,fun f hf => by simp at hf,⟨_,rfl⟩,⟨by omega,by omega,Cf.Ok.nil 3,by simp⟩,fun e he => by simp at he⟩
theorem go1 : Bf.go Af.actO (some (3,[])) Lb.d 0 = ⟨false,0,d1,some (3,[(Lb.key,[88])])⟩ := by
 have := Lb.run1
 rw [show (0 : Int) = ((0 : Nat) : Int) from rfl,Bf.run_ready _ _ _ _ (by decide) Lb.ready0] at this
 exact this
theorem made : y0.made [] = (d1,some (3,[(Lb.key,[88])])) := by
 rw [Bf.made_eq,show y0.l.map Ru.out = Lb.outs from rfl,show Bf.init y0.fs y0.l Lb.outs = Lb.d from Lb.init0]
 have hr : Lb.d.ready = [0] := by decide
 have hw : Lb.d.waits = 1 := by decide
 have hr1 : d1.ready = [] := by decide
 unfold Bf.all
 rw [hw]
 unfold Bf.allF
 rw [hr]
 simp only
 rw [go1]
 simp only
 unfold Bf.allF
 rw [hr1]
theorem stale : Bf.stale Lb.fs (y0.makeP []).os Lb.l = [] := (fine.make sheet flat).2
end Ly
end Go.Proofs.YthchjnopgagilaaGreatDoor
