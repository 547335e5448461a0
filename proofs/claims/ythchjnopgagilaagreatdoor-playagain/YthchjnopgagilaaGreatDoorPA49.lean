import Derived.Test.YthchjnopgagilaaGreatDoorPA48
set_option maxRecDepth 100000
set_option maxHeartbeats 32000000
namespace Go.Proofs.YthchjnopgagilaaGreatDoor
open Go.RowKit Go.Shelf Go.Lib
theorem ex_mv2 {P : Program} {o : Oper} {j : Nat} {v : Value} {a : Act} (ho : o.op = .move (.tmp j)) (he : a.eval (.tmp j) = v) (w : World) : (execOp a.eval o).run P w = .ok (.value v) w := by
 simp [execOp,ho,he]
theorem ex_pk2 {P : Program} {o : Oper} {c : Nat} {x y : Operand} {b : Bool} {v : Value} {a : Act} (ho : o.op = .pick (.tmp c) x y) (hc : a.eval (.tmp c) = .bool b) (he : a.eval (cond b x y) = v) (w : World) : (execOp a.eval o).run P w = .ok (.value v) w := by
 cases b <;> simp_all [execOp,asBool]
theorem ev_fn2 {a : Act} {f : Nat} : a.eval (.func f) = .func (.func f) #[] #[] := rfl
def sameVals (ga oa ca gb ob cb k : Nat) (l : List Ru) (y : Ru) (pa pb : Option Addr) (qa qb : Nat) : List Value :=
 [.slice (some ⟨ga,oa,none⟩) l.length ca,
  .int .i64 (k : Int),
  .pointer (some ⟨ga,oa + k * 4,none⟩),
  .pointer (some ⟨ga,oa + k * 4,none⟩),
  .string (ba y.out),
  .slice (some ⟨gb,ob,none⟩) l.length cb,
  .int .i64 (k : Int),
  .pointer (some ⟨gb,ob + k * 4,none⟩),
  .pointer (some ⟨gb,ob + k * 4,none⟩),
  .string (ba y.out),
  .bool false,
  .bool false,
  .slice (some ⟨ga,oa,none⟩) l.length ca,
  .int .i64 (k : Int),
  .pointer (some ⟨ga,oa + k * 4,none⟩),
  .pointer (some ⟨ga,oa + k * 4 + 1,none⟩),
  .string (ba y.kind),
  .slice (some ⟨gb,ob,none⟩) l.length cb,
  .int .i64 (k : Int),
  .pointer (some ⟨gb,ob + k * 4,none⟩),
  .pointer (some ⟨gb,ob + k * 4 + 1,none⟩),
  .string (ba y.kind),
  .bool false,
  .bool false,
  .bool false,
  .slice (some ⟨ga,oa,none⟩) l.length ca,
  .int .i64 (k : Int),
  .pointer (some ⟨ga,oa + k * 4,none⟩),
  .pointer (some ⟨ga,oa + k * 4 + 2,none⟩),
  .string (ba y.word),
  .slice (some ⟨gb,ob,none⟩) l.length cb,
  .int .i64 (k : Int),
  .pointer (some ⟨gb,ob + k * 4,none⟩),
  .pointer (some ⟨gb,ob + k * 4 + 2,none⟩),
  .string (ba y.word),
  .bool false,
  .bool false,
  .bool false,
  .slice (some ⟨ga,oa,none⟩) l.length ca,
  .int .i64 (k : Int),
  .pointer (some ⟨ga,oa + k * 4,none⟩),
  .pointer (some ⟨ga,oa + k * 4 + 3,none⟩),
  .slice pa y.ins.length qa,
  .slice (some ⟨gb,ob,none⟩) l.length cb,
  .int .i64 (k : Int),
  .pointer (some ⟨gb,ob + k * 4,none⟩),
  .pointer (some ⟨gb,ob + k * 4 + 3,none⟩),
  .slice pb y.ins.length qb,
  .bool true,
  .bool false,
  .bool false]
theorem SameRules_calls {W : World} (va vb : Value) (l : List Ru) (ha : RRow W va l) (hb : RRow W vb l) (hl : l.length ≤ 1000) (hI : ∀ x ∈ l,x.ins.length ≤ 1000) :
  Calls Tryz.prog 159 #[va,vb] W fun e w' => e = .returned (.bool true) ∧ Below W.heap.size W w' := by
 obtain ⟨pa0,ca,rfl,hca,-,ha⟩ := ha
 obtain ⟨pb0,cb,rfl,hcb,-,hb⟩ := hb
 have HA := hid1 ha
 have HB := hid1 hb
 have HI := hid1 hI
 clear ha hb hI
 have zl : (l.length : Int) ≤ 1000 := by omega
 go_enter Tryz.func159,Tryz.ntmps159
 go_wp2
 go_loopw [5] (fun i wr => ∃ k : Nat,k ≤ l.length ∧ i = .int .i64 k ∧ Below W.heap.size W wr) (fun i _ => l.length - (intOf i).toNat)
 case atStart => exact ⟨0,Nat.zero_le _,rfl,Below.refl _ _⟩
 case round =>
  obtain ⟨k,hkl,rfl,hB⟩ := hrel
  have k0 : (0 : Int) ≤ (k : Int) := by omega
  by_cases hlt : k < l.length
  ·have k1 : (k : Int) < (l.length : Int) := by omega
   have hne : l ≠ [] := by intro e;rw [e] at hlt;simp at hlt
   obtain ⟨ga,oa,rfl,hga,hra⟩ := HA.out hne
   obtain ⟨gb,ob,rfl,hgb,hrb⟩ := HB.out hne
   obtain ⟨a0,a1,a2,va3,a3,xa⟩ := hra k hlt
   obtain ⟨b0,b1,b2,vb3,b3,xb⟩ := hrb k hlt
   have hyl := HI.out _ (List.getElem_mem hlt)
   clear hra hrb HA HB HI
   generalize l[k] = y at *
   have HSt := hid1 fun (V : World) (g : Below W.heap.size W V) => SameTexts_any (w := V) va3 vb3 y.ins y.ins (xa.below g).irow (xb.below g).irow hyl hyl
   obtain ⟨pa,qa,rfl,-⟩ := xa
   obtain ⟨pb,qb,rfl,-⟩ := xb
   go_wp2
   refine wp_region_any (by kernel_rfl) ?_
   refine wpAny_det 17 (sameVals ga oa ca gb ob cb k l y pa pb qa qb) (fun V => Below W.heap.size W V) rfl rfl (Nat.le_of_ble_eq_true rfl) (by kernel_rfl) ?step (below_draws hB 1) ?fin
   case step =>
    intro i o a w ho hk hb hE
    have f0 : a.eval (.tmp 0) = .slice (some ⟨ga,oa,none⟩) l.length ca := hb 0 (by decide)
    have f1 : a.eval (.tmp 1) = .slice (some ⟨gb,ob,none⟩) l.length cb := hb 1 (by decide)
    have f5 : a.eval (.tmp 5) = .int .i64 (k : Int) := hb 5 (by decide)
    clear hb
    exact match i,ho,hE with
    | 0,ho,hE => by
     obtain rfl := Option.some.inj ho
     exact .val rfl (ex_mv2 rfl f0 w)
    | 1,ho,hE => by
     obtain rfl := Option.some.inj ho
     exact .val rfl (ex_mv2 rfl f5 w)
    | 2,ho,hE => by
     obtain rfl := Option.some.inj ho
     have f17 : a.eval (.tmp 17) = .slice (some ⟨ga,oa,none⟩) l.length ca := hE 0 rfl
     have f18 : a.eval (.tmp 18) = .int .i64 (k : Int) := hE 1 rfl
     refine .val rfl ?_
     show (execOp a.eval { dst := some 19,op := Op.indexAddr _ (Operand.tmp 17) (Operand.tmp 18),type := _,pos := _,after := _,guard := _ }).run _ w = Result.ok (Next.value (.pointer (some ⟨ga,oa + k * 4,none⟩))) w
     simp only [execOp]
     rw [f17,f18]
     go_simp
    | 3,ho,hE => by
     obtain rfl := Option.some.inj ho
     have f19 : a.eval (.tmp 19) = .pointer (some ⟨ga,oa + k * 4,none⟩) := hE 2 rfl
     refine .val rfl ?_
     show (execOp a.eval { dst := some 20,op := Op.fieldAddr _ (Operand.tmp 19) 0,type := _,pos := _,after := _,guard := _ }).run _ w = Result.ok (Next.value (.pointer (some ⟨ga,oa + k * 4,none⟩))) w
     simp only [execOp]
     rw [f19]
     go_simp
    | 4,ho,hE => by
     obtain rfl := Option.some.inj ho
     have f20 : a.eval (.tmp 20) = .pointer (some ⟨ga,oa + k * 4,none⟩) := hE 3 rfl
     have c := cell_below' a0 hk
     refine .val rfl ?_
     show (execOp a.eval { dst := some 21,op := Op.load _ (Operand.tmp 20),type := _,pos := _,after := _,guard := _ }).run _ w = Result.ok (Next.value (.string (ba y.out))) w
     simp only [execOp]
     rw [f20]
     go_simp
    | 5,ho,hE => by
     obtain rfl := Option.some.inj ho
     exact .val rfl (ex_mv2 rfl f1 w)
    | 6,ho,hE => by
     obtain rfl := Option.some.inj ho
     exact .val rfl (ex_mv2 rfl f5 w)
    | 7,ho,hE => by
     obtain rfl := Option.some.inj ho
     have f22 : a.eval (.tmp 22) = .slice (some ⟨gb,ob,none⟩) l.length cb := hE 5 rfl
     have f23 : a.eval (.tmp 23) = .int .i64 (k : Int) := hE 6 rfl
     refine .val rfl ?_
     show (execOp a.eval { dst := some 24,op := Op.indexAddr _ (Operand.tmp 22) (Operand.tmp 23),type := _,pos := _,after := _,guard := _ }).run _ w = Result.ok (Next.value (.pointer (some ⟨gb,ob + k * 4,none⟩))) w
     simp only [execOp]
     rw [f22,f23]
     go_simp
    | 8,ho,hE => by
     obtain rfl := Option.some.inj ho
     have f24 : a.eval (.tmp 24) = .pointer (some ⟨gb,ob + k * 4,none⟩) := hE 7 rfl
     refine .val rfl ?_
     show (execOp a.eval { dst := some 25,op := Op.fieldAddr _ (Operand.tmp 24) 0,type := _,pos := _,after := _,guard := _ }).run _ w = Result.ok (Next.value (.pointer (some ⟨gb,ob + k * 4,none⟩))) w
     simp only [execOp]
     rw [f24]
     go_simp
    | 9,ho,hE => by
     obtain rfl := Option.some.inj ho
     have f25 : a.eval (.tmp 25) = .pointer (some ⟨gb,ob + k * 4,none⟩) := hE 8 rfl
     have c := cell_below' b0 hk
     refine .val rfl ?_
     show (execOp a.eval { dst := some 26,op := Op.load _ (Operand.tmp 25),type := _,pos := _,after := _,guard := _ }).run _ w = Result.ok (Next.value (.string (ba y.out))) w
     simp only [execOp]
     rw [f25]
     go_simp
    | 10,ho,hE => by
     obtain rfl := Option.some.inj ho
     have f21 : a.eval (.tmp 21) = .string (ba y.out) := hE 4 rfl
     have f26 : a.eval (.tmp 26) = .string (ba y.out) := hE 9 rfl
     refine .val rfl ?_
     show (execOp a.eval { dst := some 27,op := Op.binOp BinOp.neq _ (Operand.tmp 21) (Operand.tmp 26) _,type := _,pos := _,after := _,guard := _ }).run _ w = Result.ok (Next.value (.bool false)) w
     simp only [execOp]
     rw [f21,f26]
     go_simp
    | 11,ho,hE => by
     obtain rfl := Option.some.inj ho
     exact .val rfl (ex_mv2 rfl (hE 10 rfl) w)
    | 12,ho,hE => by
     obtain rfl := Option.some.inj ho
     exact .val rfl (ex_mv2 rfl f0 w)
    | 13,ho,hE => by
     obtain rfl := Option.some.inj ho
     exact .val rfl (ex_mv2 rfl f5 w)
    | 14,ho,hE => by
     obtain rfl := Option.some.inj ho
     have f29 : a.eval (.tmp 29) = .slice (some ⟨ga,oa,none⟩) l.length ca := hE 12 rfl
     have f30 : a.eval (.tmp 30) = .int .i64 (k : Int) := hE 13 rfl
     refine .val rfl ?_
     show (execOp a.eval { dst := some 31,op := Op.indexAddr _ (Operand.tmp 29) (Operand.tmp 30),type := _,pos := _,after := _,guard := _ }).run _ w = Result.ok (Next.value (.pointer (some ⟨ga,oa + k * 4,none⟩))) w
     simp only [execOp]
     rw [f29,f30]
     go_simp
    | 15,ho,hE => by
     obtain rfl := Option.some.inj ho
     have f31 : a.eval (.tmp 31) = .pointer (some ⟨ga,oa + k * 4,none⟩) := hE 14 rfl
     refine .val rfl ?_
     show (execOp a.eval { dst := some 32,op := Op.fieldAddr _ (Operand.tmp 31) 1,type := _,pos := _,after := _,guard := _ }).run _ w = Result.ok (Next.value (.pointer (some ⟨ga,oa + k * 4 + 1,none⟩))) w
     simp only [execOp]
     rw [f31]
     go_simp
    | 16,ho,hE => by
     obtain rfl := Option.some.inj ho
     have f32 : a.eval (.tmp 32) = .pointer (some ⟨ga,oa + k * 4 + 1,none⟩) := hE 15 rfl
     have c := cell_below' a1 hk
     refine .val rfl ?_
     show (execOp a.eval { dst := some 33,op := Op.load _ (Operand.tmp 32),type := _,pos := _,after := _,guard := _ }).run _ w = Result.ok (Next.value (.string (ba y.kind))) w
     simp only [execOp]
     rw [f32]
     go_simp
    | 17,ho,hE => by
     obtain rfl := Option.some.inj ho
     exact .val rfl (ex_mv2 rfl f1 w)
    | 18,ho,hE => by
     obtain rfl := Option.some.inj ho
     exact .val rfl (ex_mv2 rfl f5 w)
    | 19,ho,hE => by
     obtain rfl := Option.some.inj ho
     have f34 : a.eval (.tmp 34) = .slice (some ⟨gb,ob,none⟩) l.length cb := hE 17 rfl
     have f35 : a.eval (.tmp 35) = .int .i64 (k : Int) := hE 18 rfl
     refine .val rfl ?_
     show (execOp a.eval { dst := some 36,op := Op.indexAddr _ (Operand.tmp 34) (Operand.tmp 35),type := _,pos := _,after := _,guard := _ }).run _ w = Result.ok (Next.value (.pointer (some ⟨gb,ob + k * 4,none⟩))) w
     simp only [execOp]
     rw [f34,f35]
     go_simp
    | 20,ho,hE => by
     obtain rfl := Option.some.inj ho
     have f36 : a.eval (.tmp 36) = .pointer (some ⟨gb,ob + k * 4,none⟩) := hE 19 rfl
     refine .val rfl ?_
     show (execOp a.eval { dst := some 37,op := Op.fieldAddr _ (Operand.tmp 36) 1,type := _,pos := _,after := _,guard := _ }).run _ w = Result.ok (Next.value (.pointer (some ⟨gb,ob + k * 4 + 1,none⟩))) w
     simp only [execOp]
     rw [f36]
     go_simp
    | 21,ho,hE => by
     obtain rfl := Option.some.inj ho
     have f37 : a.eval (.tmp 37) = .pointer (some ⟨gb,ob + k * 4 + 1,none⟩) := hE 20 rfl
     have c := cell_below' b1 hk
     refine .val rfl ?_
     show (execOp a.eval { dst := some 38,op := Op.load _ (Operand.tmp 37),type := _,pos := _,after := _,guard := _ }).run _ w = Result.ok (Next.value (.string (ba y.kind))) w
     simp only [execOp]
     rw [f37]
     go_simp
    | 22,ho,hE => by
     obtain rfl := Option.some.inj ho
     have f33 : a.eval (.tmp 33) = .string (ba y.kind) := hE 16 rfl
     have f38 : a.eval (.tmp 38) = .string (ba y.kind) := hE 21 rfl
     refine .val rfl ?_
     show (execOp a.eval { dst := some 39,op := Op.binOp BinOp.neq _ (Operand.tmp 33) (Operand.tmp 38) _,type := _,pos := _,after := _,guard := _ }).run _ w = Result.ok (Next.value (.bool false)) w
     simp only [execOp]
     rw [f33,f38]
     go_simp
    | 23,ho,hE => by
     obtain rfl := Option.some.inj ho
     exact .val rfl (ex_pk2 (x := Operand.const (Value.bool true)) (y := Operand.tmp 39) (b := false) rfl (hE 11 rfl) (hE 22 rfl) w)
    | 24,ho,hE => by
     obtain rfl := Option.some.inj ho
     exact .val rfl (ex_mv2 rfl (hE 23 rfl) w)
    | 25,ho,hE => by
     obtain rfl := Option.some.inj ho
     exact .val rfl (ex_mv2 rfl f0 w)
    | 26,ho,hE => by
     obtain rfl := Option.some.inj ho
     exact .val rfl (ex_mv2 rfl f5 w)
    | 27,ho,hE => by
     obtain rfl := Option.some.inj ho
     have f42 : a.eval (.tmp 42) = .slice (some ⟨ga,oa,none⟩) l.length ca := hE 25 rfl
     have f43 : a.eval (.tmp 43) = .int .i64 (k : Int) := hE 26 rfl
     refine .val rfl ?_
     show (execOp a.eval { dst := some 44,op := Op.indexAddr _ (Operand.tmp 42) (Operand.tmp 43),type := _,pos := _,after := _,guard := _ }).run _ w = Result.ok (Next.value (.pointer (some ⟨ga,oa + k * 4,none⟩))) w
     simp only [execOp]
     rw [f42,f43]
     go_simp
    | 28,ho,hE => by
     obtain rfl := Option.some.inj ho
     have f44 : a.eval (.tmp 44) = .pointer (some ⟨ga,oa + k * 4,none⟩) := hE 27 rfl
     refine .val rfl ?_
     show (execOp a.eval { dst := some 45,op := Op.fieldAddr _ (Operand.tmp 44) 2,type := _,pos := _,after := _,guard := _ }).run _ w = Result.ok (Next.value (.pointer (some ⟨ga,oa + k * 4 + 2,none⟩))) w
     simp only [execOp]
     rw [f44]
     go_simp
    | 29,ho,hE => by
     obtain rfl := Option.some.inj ho
     have f45 : a.eval (.tmp 45) = .pointer (some ⟨ga,oa + k * 4 + 2,none⟩) := hE 28 rfl
     have c := cell_below' a2 hk
     refine .val rfl ?_
     show (execOp a.eval { dst := some 46,op := Op.load _ (Operand.tmp 45),type := _,pos := _,after := _,guard := _ }).run _ w = Result.ok (Next.value (.string (ba y.word))) w
     simp only [execOp]
     rw [f45]
     go_simp
    | 30,ho,hE => by
     obtain rfl := Option.some.inj ho
     exact .val rfl (ex_mv2 rfl f1 w)
    | 31,ho,hE => by
     obtain rfl := Option.some.inj ho
     exact .val rfl (ex_mv2 rfl f5 w)
    | 32,ho,hE => by
     obtain rfl := Option.some.inj ho
     have f47 : a.eval (.tmp 47) = .slice (some ⟨gb,ob,none⟩) l.length cb := hE 30 rfl
     have f48 : a.eval (.tmp 48) = .int .i64 (k : Int) := hE 31 rfl
     refine .val rfl ?_
     show (execOp a.eval { dst := some 49,op := Op.indexAddr _ (Operand.tmp 47) (Operand.tmp 48),type := _,pos := _,after := _,guard := _ }).run _ w = Result.ok (Next.value (.pointer (some ⟨gb,ob + k * 4,none⟩))) w
     simp only [execOp]
     rw [f47,f48]
     go_simp
    | 33,ho,hE => by
     obtain rfl := Option.some.inj ho
     have f49 : a.eval (.tmp 49) = .pointer (some ⟨gb,ob + k * 4,none⟩) := hE 32 rfl
     refine .val rfl ?_
     show (execOp a.eval { dst := some 50,op := Op.fieldAddr _ (Operand.tmp 49) 2,type := _,pos := _,after := _,guard := _ }).run _ w = Result.ok (Next.value (.pointer (some ⟨gb,ob + k * 4 + 2,none⟩))) w
     simp only [execOp]
     rw [f49]
     go_simp
    | 34,ho,hE => by
     obtain rfl := Option.some.inj ho
     have f50 : a.eval (.tmp 50) = .pointer (some ⟨gb,ob + k * 4 + 2,none⟩) := hE 33 rfl
     have c := cell_below' b2 hk
     refine .val rfl ?_
     show (execOp a.eval { dst := some 51,op := Op.load _ (Operand.tmp 50),type := _,pos := _,after := _,guard := _ }).run _ w = Result.ok (Next.value (.string (ba y.word))) w
     simp only [execOp]
     rw [f50]
     go_simp
    | 35,ho,hE => by
     obtain rfl := Option.some.inj ho
     have f46 : a.eval (.tmp 46) = .string (ba y.word) := hE 29 rfl
     have f51 : a.eval (.tmp 51) = .string (ba y.word) := hE 34 rfl
     refine .val rfl ?_
     show (execOp a.eval { dst := some 52,op := Op.binOp BinOp.neq _ (Operand.tmp 46) (Operand.tmp 51) _,type := _,pos := _,after := _,guard := _ }).run _ w = Result.ok (Next.value (.bool false)) w
     simp only [execOp]
     rw [f46,f51]
     go_simp
    | 36,ho,hE => by
     obtain rfl := Option.some.inj ho
     exact .val rfl (ex_pk2 (x := Operand.const (Value.bool true)) (y := Operand.tmp 52) (b := false) rfl (hE 24 rfl) (hE 35 rfl) w)
    | 37,ho,hE => by
     obtain rfl := Option.some.inj ho
     exact .val rfl (ex_mv2 rfl (hE 36 rfl) w)
    | 38,ho,hE => by
     obtain rfl := Option.some.inj ho
     exact .val rfl (ex_mv2 rfl f0 w)
    | 39,ho,hE => by
     obtain rfl := Option.some.inj ho
     exact .val rfl (ex_mv2 rfl f5 w)
    | 40,ho,hE => by
     obtain rfl := Option.some.inj ho
     have f55 : a.eval (.tmp 55) = .slice (some ⟨ga,oa,none⟩) l.length ca := hE 38 rfl
     have f56 : a.eval (.tmp 56) = .int .i64 (k : Int) := hE 39 rfl
     refine .val rfl ?_
     show (execOp a.eval { dst := some 57,op := Op.indexAddr _ (Operand.tmp 55) (Operand.tmp 56),type := _,pos := _,after := _,guard := _ }).run _ w = Result.ok (Next.value (.pointer (some ⟨ga,oa + k * 4,none⟩))) w
     simp only [execOp]
     rw [f55,f56]
     go_simp
    | 41,ho,hE => by
     obtain rfl := Option.some.inj ho
     have f57 : a.eval (.tmp 57) = .pointer (some ⟨ga,oa + k * 4,none⟩) := hE 40 rfl
     refine .val rfl ?_
     show (execOp a.eval { dst := some 58,op := Op.fieldAddr _ (Operand.tmp 57) 3,type := _,pos := _,after := _,guard := _ }).run _ w = Result.ok (Next.value (.pointer (some ⟨ga,oa + k * 4 + 3,none⟩))) w
     simp only [execOp]
     rw [f57]
     go_simp
    | 42,ho,hE => by
     obtain rfl := Option.some.inj ho
     have f58 : a.eval (.tmp 58) = .pointer (some ⟨ga,oa + k * 4 + 3,none⟩) := hE 41 rfl
     have c := cell_below' a3 hk
     refine .val rfl ?_
     show (execOp a.eval { dst := some 59,op := Op.load _ (Operand.tmp 58),type := _,pos := _,after := _,guard := _ }).run _ w = Result.ok (Next.value (.slice pa y.ins.length qa)) w
     simp only [execOp]
     rw [f58]
     go_simp
    | 43,ho,hE => by
     obtain rfl := Option.some.inj ho
     exact .val rfl (ex_mv2 rfl f1 w)
    | 44,ho,hE => by
     obtain rfl := Option.some.inj ho
     exact .val rfl (ex_mv2 rfl f5 w)
    | 45,ho,hE => by
     obtain rfl := Option.some.inj ho
     have f60 : a.eval (.tmp 60) = .slice (some ⟨gb,ob,none⟩) l.length cb := hE 43 rfl
     have f61 : a.eval (.tmp 61) = .int .i64 (k : Int) := hE 44 rfl
     refine .val rfl ?_
     show (execOp a.eval { dst := some 62,op := Op.indexAddr _ (Operand.tmp 60) (Operand.tmp 61),type := _,pos := _,after := _,guard := _ }).run _ w = Result.ok (Next.value (.pointer (some ⟨gb,ob + k * 4,none⟩))) w
     simp only [execOp]
     rw [f60,f61]
     go_simp
    | 46,ho,hE => by
     obtain rfl := Option.some.inj ho
     have f62 : a.eval (.tmp 62) = .pointer (some ⟨gb,ob + k * 4,none⟩) := hE 45 rfl
     refine .val rfl ?_
     show (execOp a.eval { dst := some 63,op := Op.fieldAddr _ (Operand.tmp 62) 3,type := _,pos := _,after := _,guard := _ }).run _ w = Result.ok (Next.value (.pointer (some ⟨gb,ob + k * 4 + 3,none⟩))) w
     simp only [execOp]
     rw [f62]
     go_simp
    | 47,ho,hE => by
     obtain rfl := Option.some.inj ho
     have f63 : a.eval (.tmp 63) = .pointer (some ⟨gb,ob + k * 4 + 3,none⟩) := hE 46 rfl
     have c := cell_below' b3 hk
     refine .val rfl ?_
     show (execOp a.eval { dst := some 64,op := Op.load _ (Operand.tmp 63),type := _,pos := _,after := _,guard := _ }).run _ w = Result.ok (Next.value (.slice pb y.ins.length qb)) w
     simp only [execOp]
     rw [f63]
     go_simp
    | 48,ho,hE => by
     obtain rfl := Option.some.inj ho
     have f59 : a.eval (.tmp 59) = .slice pa y.ins.length qa := hE 42 rfl
     have f64 : a.eval (.tmp 64) = .slice pb y.ins.length qb := hE 47 rfl
     refine .call 28 #[.slice pa y.ins.length qa,.slice pb y.ins.length qb] rfl (by
      show (execOp a.eval { dst := some 65,op := Op.call { callee := Callee.value (Operand.func 28),args := #[Operand.tmp 59,Operand.tmp 64],argTypes := _ },type := _,pos := _,after := _,guard := _ }).run _ w = _
      simp only [execOp,resolve,List.map_toArray,List.map_cons,List.map_nil,ev_fn2]
      rw [f59,f64]
      go_simp) ?_
     refine (HSt.out w hk).mono ?_
     rintro e w' ⟨rfl,q,rfl⟩
     exact ⟨by simp;rfl,below_draws hk q⟩
    | 49,ho,hE => by
     obtain rfl := Option.some.inj ho
     have f65 : a.eval (.tmp 65) = .bool true := hE 48 rfl
     refine .val rfl ?_
     show (execOp a.eval { dst := some 66,op := Op.unOp UnOp.not _ (Operand.tmp 65),type := _,pos := _,after := _,guard := _ }).run _ w = Result.ok (Next.value (.bool false)) w
     simp only [execOp]
     rw [f65]
     go_simp
    | 50,ho,hE => by
     obtain rfl := Option.some.inj ho
     exact .val rfl (ex_pk2 (x := Operand.const (Value.bool true)) (y := Operand.tmp 66) (b := false) rfl (hE 37 rfl) (hE 49 rfl) w)
    | n + 51,ho,hE => by simp at ho
   case fin =>
    intro w5 hk5
    show Exit.then _ _ Exit.normal { tmps := #[_,_,_,_,_,_,_,_,_,_,_,_,_,_,_,_,_,_,_,_,_,_,_,_,_,_,_,_,_,_,_,_,_,_,_,_,_,_,_,_,_,_,_,_,_,_,_,_,_,_,_,_,_,_,_,_,_,_,_,_,_,_,_,_,_,_,_,_],defers := _ } w5
    go_wp2
    exact ⟨⟨k + 1,by omega,by go_num,hk5⟩,by simp [intOf];omega⟩
  ·have k1 : (l.length : Int) ≤ (k : Int) := by omega
   clear HA HB HI
   go_wp2
   go_ret
   exact ⟨rfl,hB⟩
variable {es : Nat → Addr} {At : (Nat → Prop) → World → Value → Nat → Cf.Ens → Prop} {BAt : (Nat → Prop) → World → Value → Value → Bf.Bd → Prop}
theorem qrow_lit {V : World} {g : Nat} {l : List Int} (h : V.heap[g]? = some (.cells (l.map zv).toArray 3)) : QRow V (.slice (some ⟨g,0,none⟩) l.length l.length) l :=
 ⟨_,_,rfl,Nat.le_refl _,fun h => (by cases h),fun _ => ⟨g,0,rfl,(Array.getElem?_eq_some_iff.1 h).1,fun j hj => by
  rw [Nat.zero_add]
  exact cell_of_row h (by simp [hj])⟩⟩
theorem PlS.row {B : Nat} {W : World} {yb : Nat} {L : YL} {y : Bf.Yd} {ps : List Int} {out : Value} {L' : YL} {wr : World} (h : PlS At B W yb L y ps out L' wr) : QRow wr out (Pl.answers y ps) ∧ ∀ g o n c,out = .slice (some ⟨g,o,none⟩) n c → W.heap.size ≤ g := by
 have h1 := h.own
 rw [← Pl.answers_len ps y] at h1
 exact QRow.of_owns h1
theorem played_calls (HC : Caches0 es At) (HB : Builds es Af.actO At BAt) {W : World} (hP : PBase W.heap.size W es) :
  Calls Tryz.prog 91 #[] W fun e w' => e = .returned (.bool true) ∧ Below W.heap.size W w' := by
 have HN := hid1 (plNew_calls HC hP)
 have HPb := hid1 hP
 have HCs := hid1 HC
 have HBs := hid1 HB
 clear hP HC HB
 go_enter Tryz.func91,Tryz.ntmps91
 go_wp2_with fail
 refine HN.out.mono ?_
 rintro e w1 ⟨yb,L1,rfl,g1,hy1,-⟩
 have gA : Below w1.heap.size w1 (w1.alloc (.cells #[.int .i64 0,.int .i64 (-1),.int .i64 5] 3)) := (Below.refl _ w1).alloc (Nat.le_refl _) _
 have rA := row_newR w1 (.cells #[.int .i64 0,.int .i64 (-1),.int .i64 5] 3)
 have hz1 := g1.size
 have G2 := g1.trans (gA.mono hz1)
 have HR := hid1 (plRun_calls HCs.out HBs.out ((hy1.retag HCs.out 9).below HCs.out gA) (HPb.out.trans G2) Pl.fine0 (fun j hj => L1.more_new (by have := gA.size;omega)) (.slice (some ⟨w1.heap.size,0,none⟩) 3 3) [0,-1,5] (qrow_lit (l := [0,-1,5]) rA) (fun x hx => by simp only [List.mem_cons,List.not_mem_nil,or_false] at hx;omega) (by decide) (fun _ g o n c e => by cases e;exact L1.more_new (Nat.le_refl _)))
 have HG2 := hid1 G2
 clear HN hy1 rA gA G2
 go_wp2_with fail
 refine HR.out.mono ?_
 rintro e w3 ⟨u,L3,rfl,hS3⟩
 have h3 := hS3.row
 have G3 := HG2.out.trans hS3.base
 have hz3 := G3.size
 rw [Pl.played] at h3
 have gB : Below w3.heap.size w3 (w3.alloc (.cells #[.int .i64 0,.int .i64 (-1),.int .i64 0] 3)) := (Below.refl _ w3).alloc (Nat.le_refl _) _
 have HSi := hid1 (SameInts_q u (.slice (some ⟨w3.heap.size,0,none⟩) 3 3) [0,-1,0] (h3.1.below gB) (qrow_lit (l := [0,-1,0]) (row_newR w3 _)) (by decide))
 have hus : ∃ p c,u = .slice p 3 c := by obtain ⟨p,c,e,-⟩ := h3.1;exact ⟨p,c,e⟩
 obtain ⟨p3,c3,rfl⟩ := hus
 have G4 := G3.trans (gB.mono hz3)
 have HG4 := hid1 G4
 clear HR hS3 h3 gB G4 G3
 go_wp2_with fail
 refine HSi.out.mono ?_
 rintro e w5 ⟨rfl,q,rfl⟩
 have G5 := below_draws HG4.out q
 generalize (w3.alloc (.cells #[.int .i64 0,.int .i64 (-1),.int .i64 0] 3)).drewN q = w5 at *
 clear HSi
 have HA := hid1 (plSheet_calls w5)
 go_wp2_with fail
 refine HA.out.mono ?_
 rintro e w6 ⟨va,rfl,g6,hNa⟩
 have HB2 := hid1 (PlaySheet_calls w6)
 clear HA
 go_wp2_with fail
 refine HB2.out.mono ?_
 rintro e w7 ⟨vb,rfl,g7,hNb⟩
 have hz5 := G5.size
 have G7 := (G5.trans (g6.mono hz5)).trans (g7.mono (by have := g6.size;omega))
 have HSr := hid1 (SameRules_calls va vb Pl.l (hNa.more g7).row hNb.row (by decide) (fun x hx => by have := (Pl.small x hx).many;omega))
 have hva : ∃ p c,va = .slice p 6 c := by obtain ⟨p,c,e,-⟩ := hNa.row;exact ⟨p,c,e⟩
 have hvb : ∃ p c,vb = .slice p 6 c := by obtain ⟨p,c,e,-⟩ := hNb.row;exact ⟨p,c,e⟩
 obtain ⟨pa,ca,rfl⟩ := hva
 obtain ⟨pb,cb,rfl⟩ := hvb
 clear HB2 hNa hNb
 go_wp2_with fail
 refine HSr.out.mono ?_
 rintro e w8 ⟨rfl,g8⟩
 have G8 := below_then G7 g8
 go_wp2
 go_ret
 exact ⟨rfl,G8⟩
end Go.Proofs.YthchjnopgagilaaGreatDoor
namespace Go.Proofs.YthchjnopgagilaaGreatDoor
open Go.RowKit Go.Shelf Go.Lib
variable {es : Nat → Addr} {At : (Nat → Prop) → World → Value → Nat → Cf.Ens → Prop} {BAt : (Nat → Prop) → World → Value → Value → Bf.Bd → Prop}
theorem ZRow.belowP {w w' : World} {v : Value} {l : List Int} (h : ZRow w v l) (hb : Below w.heap.size w w') : ZRow w' v l := by
 obtain ⟨p,cap,e,h1⟩ := h
 refine ⟨p,cap,e,fun hl => ?_⟩
 obtain ⟨g,o,e,hg,hc⟩ := h1 hl
 exact ⟨g,o,e,Nat.lt_of_lt_of_le hg hb.size,fun j hj => cell_below' (hc j hj) hb⟩
theorem PBase.up {n B : Nat} {W : World} (h : PBase n W es) (h1 : n ≤ B) (h2 : B ≤ W.heap.size) : PBase B W es := by
 obtain ⟨w0,rfl,a,b,c,d⟩ := h
 have e1 : ({ W with heap := W.heap.extract 0 B } : World).heap.size = B := by simp;omega
 have e2 : ∀ j,j < B → ({ W with heap := W.heap.extract 0 B } : World).heap[j]? = W.heap[j]? := fun j hj => by
  show (W.heap.extract 0 B)[j]? = _
  rw [Array.getElem?_extract]
  simp
  omega
 have g : Below w0.heap.size w0 { W with heap := W.heap.extract 0 B } := ⟨d.os,d.tape,d.output,by rw [e1];exact h1,fun j hj => (e2 j (by omega)).trans (d.block j hj)⟩
 exact ⟨{ W with heap := W.heap.extract 0 B },e1,a.below g,b.below g,c.below g,⟨rfl,rfl,rfl,by rw [e1];exact h2,fun j hj => (e2 j hj).symm⟩⟩
theorem YdAt.behind (HC : Caches0 es At) {B' : Nat} {V W w' : World} {yb' : Nat} {L L' M : YL} {y : Bf.Yd} (h : YdAt At B' V yb' M y) (hown : ∀ j,YOwn yb' M j → B' ≤ j) (hV : Below V.heap.size V W) (hs : YStep W w' { L with k := L.more B' 9 } L') : YdAt At B' w' yb' M y :=
 (h.below HC hV).stay HC hs.size fun j hj ho => hs.rest j hj (L.more_new (hown j ho))
theorem YdAt.ahead (HC : Caches0 es At) {B : Nat} {V3 W w' : World} {ya : Nat} {La La0 Lb L' : YL} {y : Bf.Yd} {n : Nat} (h : YdAt At B W ya La y) (hk : ∀ j,j < V3.heap.size → La.k j = La0.more n 9 j) (hb : Below n W w') (hs : YStep W w' { Lb with k := Lb.more V3.heap.size 9 } L') : YdAt At B w' ya La y := by
 refine h.stay HC hs.size fun j hj ho => ?_
 by_cases h1 : j < n
 ·exact hb.block j h1
 ·by_cases h2 : j < V3.heap.size
  ·have h3 := h.own_k ho
   rw [hk j h2,La0.more_new (by omega)] at h3
   omega
  ·exact hs.rest j hj (Lb.more_new (by omega))
theorem PlayAgain_calls (HC : Caches0 es At) (HB : Builds es Af.actO At BAt) {W : World} (hW : BuildW W es) (hE : TErr W (erOf es)) (h12 : E12 W es) (vl : Value) (ps : List Int) (hZ : ZRow W vl ps) (hps : ∀ x ∈ ps,-9223372036854775808 ≤ x ∧ x ≤ 9223372036854775807) (hvl : vl = .slice none 0 0 ∨ ∃ a n c,vl = .slice (some a) n c) :
  Calls Tryz.prog 13 #[vl] W fun e w' => e = .returned (.bool true) ∧ Below W.heap.size W w' := by
 obtain ⟨i0,hi,hz0,hz1,hz2⟩ := info_parts Tryz.infoInt
 have HCs := hid1 HC
 have HBs := hid1 HB
 have HBase := hid1 fun (V : World) (g : Below W.heap.size W V) => PBase.of (hW.below g) (hE.below g) (h12.below g)
 have HPl := hid1 (played_calls HC HB (PBase.of hW hE h12))
 have HZ := hid1 hZ
 have HPs := hid1 hps
 have hvs : ∃ p c,vl = .slice p ps.length c := by obtain ⟨p,c,e,-⟩ := hZ;exact ⟨p,c,e⟩
 obtain ⟨pl,cl,rfl⟩ := hvs
 have HVl := hid1 hvl
 clear HC HB hW hE h12 hZ hps hvl
 go_enter Tryz.func13,Tryz.ntmps13
 go_wp2_with fail
 refine HPl.out.mono ?_
 rintro e w1 ⟨rfl,g1⟩
 clear HPl
 by_cases h100 : 100 < ps.length
 ·have z100 : (100 : Int) < (ps.length : Int) := by omega
  clear HBase HVl
  go_wp2
  go_ret
  exact ⟨rfl,g1⟩
 have z100 : (ps.length : Int) ≤ 100 := by omega
 have HNa := hid1 (plNew_calls HCs.out (HBase.out w1 g1))
 have HP1 := hid1 (HBase.out w1 g1)
 go_wp2_with fail
 refine HNa.out.mono ?_
 rintro e w2 ⟨ya,La,rfl,g2,hya2,-⟩
 have zz1 := g1.size
 have zz2 := g2.size
 have G2 := g1.trans (g2.mono zz1)
 have HNb := hid1 (plNew_calls HCs.out (HBase.out w2 G2))
 have HP2 := hid1 (HBase.out w2 G2)
 have HYa2 := hid1 (hya2.retag HCs.out 9)
 clear HNa hya2
 go_wp2_with fail
 refine HNb.out.mono ?_
 rintro e w3 ⟨yb,Lb,rfl,g3,hyb3,hown⟩
 have zz3 := g3.size
 have G3 := G2.trans (g3.mono (by omega))
 have HYb3 := hid1 (hyb3.retag HCs.out 9)
 have HOwn := hid1 hown
 have HZ3 := hid1 (HZ.out.belowP G3)
 have HG13 := hid1 ((Below.refl w1.heap.size w1).trans (g2.trans (g3.mono zz2)))
 have HG23 := hid1 g3
 have HGW3 := hid1 G3
 clear HNb hyb3 hown HBase
 have hvl := HVl.out
 have hZ3 := HZ3.out
 go_wp2_with (at_builtin;refine app_copyQ rfl _ _ rfl i0 hi hz0 hz1 hz2 rfl rfl hZ3 hvl (by omega) ?_;intro v4 w4 hq4 hlow4 g4)
 have zz4 := g4.size
 have GW4 : Below W.heap.size W w4 := HGW3.out.trans (g4.mono (by omega))
 have hP4 := HP1.out.trans (HG13.out.trans (g4.mono (by omega)))
 have HRa := hid1 (plRun_calls HCs.out HBs.out ((HYa2.out.below HCs.out HG23.out).below HCs.out g4) hP4 Pl.fine0 (fun j hj => La.more_new (by omega)) v4 ps hq4 HPs.out (by omega) (fun _ g o n c e => La.more_new (by have := hlow4 g o n c e;omega)))
 have HP4 := hid1 hP4
 have HG4 := hid1 (And.intro g4 GW4)
 clear hZ3 hvl hq4 hlow4 HP1 HP2 HYa2 hP4 HZ3 g4 GW4
 go_wp2_with fail
 refine HRa.out.mono ?_
 rintro e w5 ⟨ua,La5,rfl,hSa⟩
 have zz5 := hSa.step.size
 have GW5 : Below W.heap.size W w5 := HG4.out.2.trans (hSa.base.mono (by omega))
 have hZ5 := HZ.out.belowP GW5
 have hvl := HVl.out
 have HSa := hid1 hSa
 have HYb5 := hid1 (YdAt.behind HCs.out (B' := w2.heap.size) HYb3.out HOwn.out HG4.out.1 hSa.step)
 have HP5 := hid1 (HP4.out.trans hSa.base)
 have HGW5 := hid1 GW5
 clear HRa hSa GW5
 go_wp2_with (at_builtin;refine app_copyQ rfl _ _ rfl i0 hi hz0 hz1 hz2 rfl rfl hZ5 hvl (by omega) ?_;intro v6 w6 hq6 hlow6 g6)
 have zz6 := g6.size
 have GW6 : Below W.heap.size W w6 := HGW5.out.trans (g6.mono (by omega))
 have hP6 : PBase w2.heap.size w6 es := (HP5.out.trans (g6.mono (by omega))).up (by omega) (by omega)
 have HRb := hid1 (plRun_calls HCs.out HBs.out (HYb5.out.below HCs.out g6) hP6 Pl.fine0 (fun j hj => Lb.more_new (by omega)) v6 ps hq6 HPs.out (by omega) (fun _ g o n c e => Lb.more_new (by have := hlow6 g o n c e;omega)))
 have HP6 := hid1 hP6
 have HYa6 := hid1 (HSa.out.yard.below HCs.out g6)
 have hra6 := HSa.out.row
 have HRa6 := hid1 (And.intro (hra6.1.below g6) hra6.2)
 have HG6 := hid1 (And.intro g6 GW6)
 clear hZ5 hvl hq6 hlow6 HYb5 hP6 hra6 g6 GW6 HVl HZ HPs
 have hua : ∃ p c,ua = .slice p (Pl.answers Pl.y0 ps).length c := by obtain ⟨p,c,e,-⟩ := HRa6.out.1;exact ⟨p,c,e⟩
 obtain ⟨pa,ca,rfl⟩ := hua
 go_wp2_with fail
 refine HRb.out.mono ?_
 rintro e w7 ⟨ub,Lb7,rfl,hSb⟩
 have zz7 := hSb.step.size
 have hya7 := YdAt.ahead HCs.out (V3 := w3) (La0 := La) (Lb := Lb) (n := w2.heap.size) HYa6.out (fun j hj => HSa.out.step.kk j (by omega)) hSb.base hSb.step
 have hqa7 : QRow w7 (.slice pa (Pl.answers Pl.y0 ps).length ca) (Pl.answers Pl.y0 ps) := HRa6.out.1.kept zz7 fun _ g o n c e hg => hSb.step.rest g hg (Lb.more_new (by have := HRa6.out.2 g o n c e;omega))
 have hrb := hSb.row
 have HSi := hid1 (SameInts_q _ ub (Pl.answers Pl.y0 ps) hqa7 hrb.1 (by rw [Pl.answers_len];omega))
 have GW7 : Below W.heap.size W w7 := HG6.out.2.trans (hSb.base.mono (by omega))
 have HYa7 := hid1 hya7
 have HYb7 := hid1 hSb.yard
 have HP7b := hid1 (HP6.out.trans hSb.base)
 have HP7a := hid1 ((HP5.out.trans (HG6.out.1.mono (by omega))).trans (hSb.base.mono (by omega)))
 have hub : ∃ p c,ub = .slice p (Pl.answers Pl.y0 ps).length c := by obtain ⟨p,c,e,-⟩ := hrb.1;exact ⟨p,c,e⟩
 obtain ⟨pb,cb,rfl⟩ := hub
 have HF := hid1 (Pl.fine_run ps Pl.fine0)
 have HGW7 := hid1 GW7
 clear HRb hya7 hqa7 hrb hSb GW7 HSa HYa6 HRa6 HP5 HP6 HP4 HG4 HG6 HYb3 HOwn
 generalize Pl.run Pl.y0 ps = yy at *
 go_wp2_with fail
 refine HSi.out.mono ?_
 rintro e w8 ⟨rfl,q,rfl⟩
 have g8 : Below w7.heap.size w7 (w7.drewN q) := below_draws (Below.refl _ w7) q
 have zz8 := g8.size
 have GW8 : Below W.heap.size W (w7.drewN q) := HGW7.out.trans (g8.mono (by omega))
 have hya8 := HYa7.out.below HCs.out g8
 have hyb8 := HYb7.out.below HCs.out g8
 have hP8a := HP7a.out.trans (g8.mono (by omega))
 have hP8b := HP7b.out.trans (g8.mono (by omega))
 generalize w7.drewN q = w8 at *
 have HSu := hid1 (plSum_calls HCs.out hya8 hP8a HF.out)
 have HYa8 := hid1 hya8
 have HYb8 := hid1 hyb8
 have HP8a := hid1 hP8a
 have HP8b := hid1 hP8b
 clear HSi hya8 hyb8 hP8a hP8b HYa7 HYb7 HP7a HP7b
 go_wp2_with fail
 refine HSu.out.mono ?_
 rintro e w9 ⟨rfl,g9⟩
 have zz9 := g9.size
 have HSv := hid1 (plSum_calls HCs.out (HYb8.out.below HCs.out g9) (HP8b.out.trans (g9.mono (by omega))) HF.out)
 clear HSu
 go_wp2_with fail
 refine HSv.out.mono ?_
 rintro e w10 ⟨rfl,g10⟩
 have zz10 := g10.size
 have g810 := below_then g9 g10
 have HMk := hid1 (make_fine HCs.out HBs.out (HYa8.out.below HCs.out g810) (HP8a.out.trans (g810.mono (by omega))).y HF.out Pl.sheet)
 have GW10 : Below W.heap.size W w10 := GW8.trans (g810.mono (by omega))
 have HP10 := hid1 (HP8a.out.trans (g810.mono (by omega)))
 clear HSv HYb8 HYa8
 generalize Pl.sum yy = su at *
 go_wp2_with fail
 refine HMk.out.mono ?_
 rintro e w11 ⟨rfl,g11,-,L11,hy11⟩
 have zz11 := g11.size
 have gC : Below w11.heap.size w11 (w11.alloc (.cells #[.int .i64 ((yy.made []).1.ran : Nat),.int .i64 ((yy.made []).1.hits : Nat),.int .i64 ((yy.made []).1.fails : Nat),.int .i64 ((yy.made []).1.lefts : Nat)] 103)) := (Below.refl _ w11).alloc (Nat.le_refl _) _
 have HSt := hid1 (stale_fine HCs.out (hy11.below HCs.out gC) ((HP10.out.trans g11).trans (gC.mono (by omega))).y HF.out Pl.sheet Pl.flat)
 have G11 : Below W.heap.size W (w11.alloc (.cells #[.int .i64 ((yy.made []).1.ran : Nat),.int .i64 ((yy.made []).1.hits : Nat),.int .i64 ((yy.made []).1.fails : Nat),.int .i64 ((yy.made []).1.lefts : Nat)] 103)) := GW10.trans ((g11.mono (by omega)).trans (gC.mono (by omega)))
 have HG11 := hid1 G11
 clear HMk hy11 gC G11
 go_wp2_with fail
 refine HSt.out.mono ?_
 rintro e w12 ⟨p12,c12,rfl,g12⟩
 have G12 := below_then HG11.out g12
 clear HSt
 go_wp2
 go_ret
 exact ⟨rfl,G12⟩
end Go.Proofs.YthchjnopgagilaaGreatDoor
