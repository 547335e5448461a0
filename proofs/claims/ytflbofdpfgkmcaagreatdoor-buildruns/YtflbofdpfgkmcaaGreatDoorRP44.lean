import Derived.Test.YtflbofdpfgkmcaaGreatDoorRP43
set_option maxRecDepth 100000
set_option maxHeartbeats 16000000
namespace Go.Proofs.YtflbofdpfgkmcaaGreatDoor
open Go.RowKit Go.Shelf Go.Lib
theorem Builds.below {es : Nat → Addr} {act : Bf.Act} {At : (Nat → Prop) → World → Value → Nat → Cf.Ens → Prop} {BAt : (Nat → Prop) → World → Value → Value → Bf.Bd → Prop} (HB : Builds es act At BAt) {S : Nat → Prop} {W W' : World} {v cv : Value} {d : Bf.Bd} (h : BAt S W v cv d) (hb : Below W.heap.size W W') : BAt S W' v cv d :=
 HB.same S W W' v cv d h hb.size fun k hk => hb.block k (HB.lt S W v cv d h k hk)
def asValsT (es : Nat → Addr) (p : Addr) (mb gs go gw k : Nat) (d : Bf.Bd) : List Value :=
 [.pointer (some p),
  .int .i64 (k : Int),
  .string (ba (d.st k).name),
  .pointer (some ⟨mb,0,none⟩),
  .pointer (some ⟨mb,0,none⟩),
  .pointer (some ⟨mb,2,none⟩),
  .slice (some ⟨gs,0,none⟩) d.l.length d.l.length,
  .int .i64 (k : Int),
  .pointer (some ⟨gs,k,none⟩),
  .string (ba (d.st k).name),
  .bool false,
  .bool false,
  .bool true,
  .bool true,
  .bool false,
  .bool false,
  .bool false,
  .bool true,
  .bool true,
  .string (ba (d.st k).out),
  .pointer (some ⟨mb,0,none⟩),
  .pointer (some ⟨mb,0,none⟩),
  .pointer (some ⟨mb,3,none⟩),
  .slice (some ⟨go,0,none⟩) d.l.length d.l.length,
  .int .i64 (k : Int),
  .pointer (some ⟨go,k,none⟩),
  .string (ba (d.st k).out),
  .bool false,
  .bool false,
  .bool false,
  .bool false,
  .bool true,
  .bool false,
  .bool false,
  undef,
  undef,
  .bool false,
  .bool false,
  .bool false,
  .pointer (some p),
  .int .i64 (k : Int),
  erOf es (d.st k).why,
  .pointer (some ⟨mb,0,none⟩),
  .pointer (some ⟨mb,0,none⟩),
  .pointer (some ⟨mb,5,none⟩),
  .slice (some ⟨gw,0,none⟩) d.l.length d.l.length,
  .int .i64 (k : Int),
  .pointer (some ⟨gw,k,none⟩),
  .int .i64 ((d.st k).why : Nat),
  .bool true,
  .bool false,
  .bool false]
def asValsF (es : Nat → Addr) (p : Addr) (mb gs gw k : Nat) (d : Bf.Bd) : List Value :=
 [.pointer (some p),
  .int .i64 (k : Int),
  .string (ba (d.st k).name),
  .pointer (some ⟨mb,0,none⟩),
  .pointer (some ⟨mb,0,none⟩),
  .pointer (some ⟨mb,2,none⟩),
  .slice (some ⟨gs,0,none⟩) d.l.length d.l.length,
  .int .i64 (k : Int),
  .pointer (some ⟨gs,k,none⟩),
  .string (ba (d.st k).name),
  .bool false,
  .bool false,
  .bool false,
  .bool false,
  .bool false,
  .bool false,
  .bool false,
  .bool false,
  .bool false,
  undef,
  undef,
  undef,
  undef,
  undef,
  undef,
  undef,
  undef,
  undef,
  .bool false,
  .bool false,
  .bool false,
  .bool false,
  .bool true,
  .bool true,
  .string (ba []),
  .bool false,
  .bool false,
  .bool false,
  .bool false,
  .pointer (some p),
  .int .i64 (k : Int),
  erOf es (d.st k).why,
  .pointer (some ⟨mb,0,none⟩),
  .pointer (some ⟨mb,0,none⟩),
  .pointer (some ⟨mb,5,none⟩),
  .slice (some ⟨gw,0,none⟩) d.l.length d.l.length,
  .int .i64 (k : Int),
  .pointer (some ⟨gw,k,none⟩),
  .int .i64 ((d.st k).why : Nat),
  .bool true,
  .bool false,
  .bool false]
def asVals17 (mb q : Nat) (d : Bf.Bd) : List Value :=
 [.pointer (some ⟨q,0,none⟩),
  .int .i64 (d.ran : Nat),
  .pointer (some ⟨mb,0,none⟩),
  .int .i64 (d.ran : Nat),
  .bool false,
  .bool false,
  .pointer (some ⟨q,1,none⟩),
  .int .i64 (d.hits : Nat),
  .pointer (some ⟨mb,0,none⟩),
  .int .i64 (d.hits : Nat),
  .bool false,
  .bool false,
  .bool false,
  .pointer (some ⟨q,2,none⟩),
  .int .i64 (d.fails : Nat),
  .pointer (some ⟨mb,0,none⟩),
  .int .i64 (d.fails : Nat),
  .bool false,
  .bool false,
  .bool false,
  .pointer (some ⟨q,3,none⟩),
  .int .i64 (d.lefts : Nat),
  .pointer (some ⟨mb,0,none⟩),
  .int .i64 (d.lefts : Nat),
  .bool false,
  .bool false]
theorem ev_cn {a : Act} {v : Value} : a.eval (.const v) = v := rfl
theorem ex_mv {P : Program} {o : Oper} {j : Nat} {v : Value} {a : Act} (ho : o.op = .move (.tmp j)) (he : a.eval (.tmp j) = v) (w : World) : (execOp a.eval o).run P w = .ok (.value v) w := by
 simp [execOp,ho,he]
theorem ex_pk {P : Program} {o : Oper} {c : Nat} {x y : Operand} {b : Bool} {v : Value} {a : Act} (ho : o.op = .pick (.tmp c) x y) (hc : a.eval (.tmp c) = .bool b) (he : a.eval (cond b x y) = v) (w : World) : (execOp a.eval o).run P w = .ok (.value v) w := by
 cases b <;> simp_all [execOp,asBool]
theorem ev_fn {a : Act} {f : Nat} : a.eval (.func f) = .func (.func f) #[] #[] := rfl
theorem asBuild_calls {es : Nat → Addr} {act : Bf.Act} {At : (Nat → Prop) → World → Value → Nat → Cf.Ens → Prop} {BAt : (Nat → Prop) → World → Value → Value → Bf.Bd → Prop} (HB : Builds es act At BAt) {w0 W : World} {mb tb : Nat} {tv lv cv mcv : Value} {gs go gh gw : Nat} {d : Bf.Bd} {S : Nat → Prop} {p : Addr} (hE : BuildW W es) (h12 : E12 W es) (h : BAt S W (.pointer (some p)) cv d) (hM : MB w0 W mb tb tv lv mcv gs go gh gw d) (hF : MFit d) :
  Calls Tryz.prog 67 #[.pointer (some p),.pointer (some ⟨mb,0,none⟩)] W fun e w' => e = .returned (.bool true) ∧ Below W.heap.size W w' := by
 have hfew := hF.few
 have HRy := hid1 (HB.ready S W p cv d h hfew)
 have HMr := hid1 fun (V : World) (g : Below W.heap.size W V) => mbReady_calls (hM.below g) (by omega) fun x hx => by have := (hF.small x hx).many;omega
 have HMn := hid1 fun (V : World) (g : Below W.heap.size W V) nm hit => mbMany_calls (hM.below g) (by omega) nm hit
 have HSt := hid1 fun (V : World) (g : Below W.heap.size W V) (i : Int) h1 h2 => HB.state S V p cv d i (HB.below h g) hfew h1 h2
 have HRs := hid1 fun (V : World) (g : Below W.heap.size W V) (i : Int) h1 h2 => HB.result S V p cv d i (HB.below h g) hfew h1 h2
 have HWy := hid1 fun (V : World) (g : Below W.heap.size W V) (i : Int) h1 h2 => HB.why S V p cv d i (HB.below h g) (hE.below g) hfew h1 h2
 have HOv := hid1 fun (V : World) (g : Below W.heap.size W V) => HB.over S V p cv d (HB.below h g) hfew
 have HCn := hid1 fun (V : World) (g : Below W.heap.size W V) => HB.count S V p cv d (HB.below h g) hfew
 have HM := hid1 hM
 have HE := hid1 h12
 clear HB h hE h12
 go_enter Tryz.func67,Tryz.ntmps67
 go_wp2_with fail
 refine HRy.out.mono ?_
 rintro e w1 ⟨u1,rfl,hr1,g1⟩
 clear HRy
 go_wp2_with fail
 refine (HMr.out w1 g1).mono ?_
 rintro e w2 ⟨u2,rfl,hr2,g2⟩
 have G2 := below_then g1 g2
 clear HMr
 have HSm := hid1 (SameInts_ni (w := w2) u1 u2 d.ready (hr1.below g2) (NRow.of_owns hr2).ni (by have := Bf.readyTo_len d d.l.length;have : d.ready.length ≤ d.l.length := this;omega))
 clear hr1 hr2
 go_wp2_with fail
 refine HSm.out.mono ?_
 rintro e w3 ⟨rfl,q3,rfl⟩
 have G3 := below_draws G2 q3
 clear HSm g1 g2
 obtain ⟨lp,lcap,rfl,-⟩ := HM.out.row
 have HNo : Hid (∀ i : Int,(i < 0 ∨ (d.l.length : Int) ≤ i) → d.at i = Bf.St.no) := hid1 fun i hi => by unfold Bf.Bd.at;rw [if_pos hi]
 have HAt : Hid (∀ k : Nat,k < d.l.length → d.at (k : Int) = d.st k) := hid1 fun k hk => by unfold Bf.Bd.at;rw [if_neg (by omega)];simp
 have zn : (d.l.length : Int) ≤ 40 := by omega
 generalize w2.drewN q3 = w3 at *
 go_wp2
 go_loopw [5,6] (fun nv' iv wr => ∃ j : Nat,j ≤ d.l.length + 2 ∧ iv = .int .i64 ((j : Int) - 1) ∧ nv' = .int .i64 (Bf.many d.st Bf.St.isWaits (min (j - 1) d.l.length) : Nat) ∧ Below W.heap.size W wr) (fun _ iv _ => d.l.length + 2 - (intOf iv + 1).toNat)
 case atStart => exact ⟨0,Nat.zero_le _,rfl,by simp [Bf.many],G3⟩
 case round =>
  clear G2 G3
  obtain ⟨j,hj,rfl,rfl,hB⟩ := hrel
  have hMw := HM.out.below hB
  have c1 := hMw.c1
  by_cases hend : d.l.length + 2 ≤ j
  ·obtain rfl : j = d.l.length + 2 := by omega
   clear hMw
   go_wp2_with fail
   refine (HCn.out wr hB).mono ?_
   rintro e w5 ⟨rfl,g5⟩
   have G5 := below_then hB g5
   go_wp2
   have E0 : Bf.many d.st (fun s => (s.name == [100,111,110,101]) && (s.hit == false)) d.l.length = d.ran := by
    unfold Bf.Bd.ran
    congr 1
    funext s
    rw [Bf.St.name_done]
    cases s.hit <;> simp
   have E1 : Bf.many d.st (fun s => (s.name == [100,111,110,101]) && (s.hit == true)) d.l.length = d.hits := by
    unfold Bf.Bd.hits
    congr 1
    funext s
    rw [Bf.St.name_done]
    cases s.hit <;> simp
   have E2 : Bf.many d.st (fun s => (s.name == [102,97,105,108,101,100]) && (s.hit == false)) d.l.length = d.fails := by
    unfold Bf.Bd.fails
    congr 1
    funext s
    cases s <;> rfl
   have E3 : Bf.many d.st (fun s => (s.name == [108,101,102,116]) && (s.hit == false)) d.l.length = d.lefts := by
    unfold Bf.Bd.lefts
    congr 1
    funext s
    cases s <;> rfl
   have G6 : Below W.heap.size W (w5.alloc (.cells #[.int .i64 (d.ran : Nat),.int .i64 (d.hits : Nat),.int .i64 (d.fails : Nat),.int .i64 (d.lefts : Nat)] 118)) := G5.alloc G5.size _
   have c0q : (w5.alloc (.cells #[.int .i64 (d.ran : Nat),.int .i64 (d.hits : Nat),.int .i64 (d.fails : Nat),.int .i64 (d.lefts : Nat)] 118)).cell? ⟨w5.heap.size,0,none⟩ = some (.int .i64 (d.ran : Nat)) := World.cell?_alloc_at _ _ _ _ rfl
   have c1q : (w5.alloc (.cells #[.int .i64 (d.ran : Nat),.int .i64 (d.hits : Nat),.int .i64 (d.fails : Nat),.int .i64 (d.lefts : Nat)] 118)).cell? ⟨w5.heap.size,1,none⟩ = some (.int .i64 (d.hits : Nat)) := World.cell?_alloc_at _ _ _ _ rfl
   have c2q : (w5.alloc (.cells #[.int .i64 (d.ran : Nat),.int .i64 (d.hits : Nat),.int .i64 (d.fails : Nat),.int .i64 (d.lefts : Nat)] 118)).cell? ⟨w5.heap.size,2,none⟩ = some (.int .i64 (d.fails : Nat)) := World.cell?_alloc_at _ _ _ _ rfl
   have c3q : (w5.alloc (.cells #[.int .i64 (d.ran : Nat),.int .i64 (d.hits : Nat),.int .i64 (d.fails : Nat),.int .i64 (d.lefts : Nat)] 118)).cell? ⟨w5.heap.size,3,none⟩ = some (.int .i64 (d.lefts : Nat)) := World.cell?_alloc_at _ _ _ _ rfl
   generalize w5.alloc (.cells #[.int .i64 (d.ran : Nat),.int .i64 (d.hits : Nat),.int .i64 (d.fails : Nat),.int .i64 (d.lefts : Nat)] 118) = w6 at *
   refine wp_region_any (by kernel_rfl) ?_
   refine wpAny_det 132 (asVals17 mb w5.heap.size d) (fun V => Below W.heap.size W V ∧ Below w6.heap.size w6 V) rfl rfl (Nat.le_of_ble_eq_true rfl) (by kernel_rfl) ?step ⟨below_draws G6 1,below_draws (Below.refl _ w6) 1⟩ ?fin
   case step =>
    intro i o a w ho hk hb hE
    have f1 : a.eval (.tmp 1) = .pointer (some ⟨mb,0,none⟩) := hb 1 (by decide)
    have f10 : a.eval (.tmp 10) = .pointer (some ⟨w5.heap.size,0,none⟩) := hb 10 (by decide)
    clear hb
    exact match i,ho,hE with
    | 0,ho,hE => by
     obtain rfl := Option.some.inj ho
     refine .val rfl ?_
     show (execOp a.eval { dst := some 132,op := Op.fieldAddr _ (Operand.tmp 10) 0,type := _,pos := _,after := _,guard := _ }).run _ w = Result.ok (Next.value (.pointer (some ⟨w5.heap.size,0,none⟩))) w
     simp only [execOp]
     rw [f10]
     go_simp
    | 1,ho,hE => by
     obtain rfl := Option.some.inj ho
     have f132 : a.eval (.tmp 132) = .pointer (some ⟨w5.heap.size,0,none⟩) := hE 0 rfl
     have c := cell_below' c0q hk.2
     refine .val rfl ?_
     show (execOp a.eval { dst := some 133,op := Op.load _ (Operand.tmp 132),type := _,pos := _,after := _,guard := _ }).run _ w = Result.ok (Next.value (.int .i64 (d.ran : Nat))) w
     simp only [execOp]
     rw [f132]
     go_simp
    | 2,ho,hE => by
     obtain rfl := Option.some.inj ho
     exact .val rfl (ex_mv rfl f1 w)
    | 3,ho,hE => by
     obtain rfl := Option.some.inj ho
     have f134 : a.eval (.tmp 134) = .pointer (some ⟨mb,0,none⟩) := hE 2 rfl
     refine .call 123 #[.pointer (some ⟨mb,0,none⟩),.string ⟨#[100,111,110,101]⟩,.bool false] rfl (by
      show (execOp a.eval { dst := some 135,op := Op.call { callee := Callee.value (Operand.func 123),args := #[Operand.tmp 134,Operand.const (Value.string { data := #[100,111,110,101] }),Operand.const (Value.bool false)],argTypes := _ },type := _,pos := _,after := _,guard := _ }).run _ w = _
      simp only [execOp,resolve,List.map_toArray,List.map_cons,List.map_nil,ev_fn,ev_cn]
      rw [f134]
      go_simp) ?_
     refine (HMn.out w hk.1 [100,111,110,101] false).mono ?_
     rintro e w' ⟨rfl,g⟩
     exact ⟨by rw [E0];rfl,below_then hk.1 g,below_then hk.2 g⟩
    | 4,ho,hE => by
     obtain rfl := Option.some.inj ho
     have f133 : a.eval (.tmp 133) = .int .i64 (d.ran : Nat) := hE 1 rfl
     have f135 : a.eval (.tmp 135) = .int .i64 (d.ran : Nat) := hE 3 rfl
     refine .val rfl ?_
     show (execOp a.eval { dst := some 136,op := Op.binOp BinOp.neq _ (Operand.tmp 133) (Operand.tmp 135) _,type := _,pos := _,after := _,guard := _ }).run _ w = Result.ok (Next.value (.bool false)) w
     simp only [execOp]
     rw [f133,f135]
     go_simp
    | 5,ho,hE => by
     obtain rfl := Option.some.inj ho
     exact .val rfl (ex_mv rfl (hE 4 rfl) w)
    | 6,ho,hE => by
     obtain rfl := Option.some.inj ho
     refine .val rfl ?_
     show (execOp a.eval { dst := some 138,op := Op.fieldAddr _ (Operand.tmp 10) 1,type := _,pos := _,after := _,guard := _ }).run _ w = Result.ok (Next.value (.pointer (some ⟨w5.heap.size,1,none⟩))) w
     simp only [execOp]
     rw [f10]
     go_simp
    | 7,ho,hE => by
     obtain rfl := Option.some.inj ho
     have f138 : a.eval (.tmp 138) = .pointer (some ⟨w5.heap.size,1,none⟩) := hE 6 rfl
     have c := cell_below' c1q hk.2
     refine .val rfl ?_
     show (execOp a.eval { dst := some 139,op := Op.load _ (Operand.tmp 138),type := _,pos := _,after := _,guard := _ }).run _ w = Result.ok (Next.value (.int .i64 (d.hits : Nat))) w
     simp only [execOp]
     rw [f138]
     go_simp
    | 8,ho,hE => by
     obtain rfl := Option.some.inj ho
     exact .val rfl (ex_mv rfl f1 w)
    | 9,ho,hE => by
     obtain rfl := Option.some.inj ho
     have f140 : a.eval (.tmp 140) = .pointer (some ⟨mb,0,none⟩) := hE 8 rfl
     refine .call 123 #[.pointer (some ⟨mb,0,none⟩),.string ⟨#[100,111,110,101]⟩,.bool true] rfl (by
      show (execOp a.eval { dst := some 141,op := Op.call { callee := Callee.value (Operand.func 123),args := #[Operand.tmp 140,Operand.const (Value.string { data := #[100,111,110,101] }),Operand.const (Value.bool true)],argTypes := _ },type := _,pos := _,after := _,guard := _ }).run _ w = _
      simp only [execOp,resolve,List.map_toArray,List.map_cons,List.map_nil,ev_fn,ev_cn]
      rw [f140]
      go_simp) ?_
     refine (HMn.out w hk.1 [100,111,110,101] true).mono ?_
     rintro e w' ⟨rfl,g⟩
     exact ⟨by rw [E1];rfl,below_then hk.1 g,below_then hk.2 g⟩
    | 10,ho,hE => by
     obtain rfl := Option.some.inj ho
     have f139 : a.eval (.tmp 139) = .int .i64 (d.hits : Nat) := hE 7 rfl
     have f141 : a.eval (.tmp 141) = .int .i64 (d.hits : Nat) := hE 9 rfl
     refine .val rfl ?_
     show (execOp a.eval { dst := some 142,op := Op.binOp BinOp.neq _ (Operand.tmp 139) (Operand.tmp 141) _,type := _,pos := _,after := _,guard := _ }).run _ w = Result.ok (Next.value (.bool false)) w
     simp only [execOp]
     rw [f139,f141]
     go_simp
    | 11,ho,hE => by
     obtain rfl := Option.some.inj ho
     exact .val rfl (ex_pk (x := Operand.const (Value.bool true)) (y := Operand.tmp 142) (b := false) rfl (hE 5 rfl) (hE 10 rfl) w)
    | 12,ho,hE => by
     obtain rfl := Option.some.inj ho
     exact .val rfl (ex_mv rfl (hE 11 rfl) w)
    | 13,ho,hE => by
     obtain rfl := Option.some.inj ho
     refine .val rfl ?_
     show (execOp a.eval { dst := some 145,op := Op.fieldAddr _ (Operand.tmp 10) 2,type := _,pos := _,after := _,guard := _ }).run _ w = Result.ok (Next.value (.pointer (some ⟨w5.heap.size,2,none⟩))) w
     simp only [execOp]
     rw [f10]
     go_simp
    | 14,ho,hE => by
     obtain rfl := Option.some.inj ho
     have f145 : a.eval (.tmp 145) = .pointer (some ⟨w5.heap.size,2,none⟩) := hE 13 rfl
     have c := cell_below' c2q hk.2
     refine .val rfl ?_
     show (execOp a.eval { dst := some 146,op := Op.load _ (Operand.tmp 145),type := _,pos := _,after := _,guard := _ }).run _ w = Result.ok (Next.value (.int .i64 (d.fails : Nat))) w
     simp only [execOp]
     rw [f145]
     go_simp
    | 15,ho,hE => by
     obtain rfl := Option.some.inj ho
     exact .val rfl (ex_mv rfl f1 w)
    | 16,ho,hE => by
     obtain rfl := Option.some.inj ho
     have f147 : a.eval (.tmp 147) = .pointer (some ⟨mb,0,none⟩) := hE 15 rfl
     refine .call 123 #[.pointer (some ⟨mb,0,none⟩),.string ⟨#[102,97,105,108,101,100]⟩,.bool false] rfl (by
      show (execOp a.eval { dst := some 148,op := Op.call { callee := Callee.value (Operand.func 123),args := #[Operand.tmp 147,Operand.const (Value.string { data := #[102,97,105,108,101,100] }),Operand.const (Value.bool false)],argTypes := _ },type := _,pos := _,after := _,guard := _ }).run _ w = _
      simp only [execOp,resolve,List.map_toArray,List.map_cons,List.map_nil,ev_fn,ev_cn]
      rw [f147]
      go_simp) ?_
     refine (HMn.out w hk.1 [102,97,105,108,101,100] false).mono ?_
     rintro e w' ⟨rfl,g⟩
     exact ⟨by rw [E2];rfl,below_then hk.1 g,below_then hk.2 g⟩
    | 17,ho,hE => by
     obtain rfl := Option.some.inj ho
     have f146 : a.eval (.tmp 146) = .int .i64 (d.fails : Nat) := hE 14 rfl
     have f148 : a.eval (.tmp 148) = .int .i64 (d.fails : Nat) := hE 16 rfl
     refine .val rfl ?_
     show (execOp a.eval { dst := some 149,op := Op.binOp BinOp.neq _ (Operand.tmp 146) (Operand.tmp 148) _,type := _,pos := _,after := _,guard := _ }).run _ w = Result.ok (Next.value (.bool false)) w
     simp only [execOp]
     rw [f146,f148]
     go_simp
    | 18,ho,hE => by
     obtain rfl := Option.some.inj ho
     exact .val rfl (ex_pk (x := Operand.const (Value.bool true)) (y := Operand.tmp 149) (b := false) rfl (hE 12 rfl) (hE 17 rfl) w)
    | 19,ho,hE => by
     obtain rfl := Option.some.inj ho
     exact .val rfl (ex_mv rfl (hE 18 rfl) w)
    | 20,ho,hE => by
     obtain rfl := Option.some.inj ho
     refine .val rfl ?_
     show (execOp a.eval { dst := some 152,op := Op.fieldAddr _ (Operand.tmp 10) 3,type := _,pos := _,after := _,guard := _ }).run _ w = Result.ok (Next.value (.pointer (some ⟨w5.heap.size,3,none⟩))) w
     simp only [execOp]
     rw [f10]
     go_simp
    | 21,ho,hE => by
     obtain rfl := Option.some.inj ho
     have f152 : a.eval (.tmp 152) = .pointer (some ⟨w5.heap.size,3,none⟩) := hE 20 rfl
     have c := cell_below' c3q hk.2
     refine .val rfl ?_
     show (execOp a.eval { dst := some 153,op := Op.load _ (Operand.tmp 152),type := _,pos := _,after := _,guard := _ }).run _ w = Result.ok (Next.value (.int .i64 (d.lefts : Nat))) w
     simp only [execOp]
     rw [f152]
     go_simp
    | 22,ho,hE => by
     obtain rfl := Option.some.inj ho
     exact .val rfl (ex_mv rfl f1 w)
    | 23,ho,hE => by
     obtain rfl := Option.some.inj ho
     have f154 : a.eval (.tmp 154) = .pointer (some ⟨mb,0,none⟩) := hE 22 rfl
     refine .call 123 #[.pointer (some ⟨mb,0,none⟩),.string ⟨#[108,101,102,116]⟩,.bool false] rfl (by
      show (execOp a.eval { dst := some 155,op := Op.call { callee := Callee.value (Operand.func 123),args := #[Operand.tmp 154,Operand.const (Value.string { data := #[108,101,102,116] }),Operand.const (Value.bool false)],argTypes := _ },type := _,pos := _,after := _,guard := _ }).run _ w = _
      simp only [execOp,resolve,List.map_toArray,List.map_cons,List.map_nil,ev_fn,ev_cn]
      rw [f154]
      go_simp) ?_
     refine (HMn.out w hk.1 [108,101,102,116] false).mono ?_
     rintro e w' ⟨rfl,g⟩
     exact ⟨by rw [E3];rfl,below_then hk.1 g,below_then hk.2 g⟩
    | 24,ho,hE => by
     obtain rfl := Option.some.inj ho
     have f153 : a.eval (.tmp 153) = .int .i64 (d.lefts : Nat) := hE 21 rfl
     have f155 : a.eval (.tmp 155) = .int .i64 (d.lefts : Nat) := hE 23 rfl
     refine .val rfl ?_
     show (execOp a.eval { dst := some 156,op := Op.binOp BinOp.neq _ (Operand.tmp 153) (Operand.tmp 155) _,type := _,pos := _,after := _,guard := _ }).run _ w = Result.ok (Next.value (.bool false)) w
     simp only [execOp]
     rw [f153,f155]
     go_simp
    | 25,ho,hE => by
     obtain rfl := Option.some.inj ho
     exact .val rfl (ex_pk (x := Operand.const (Value.bool true)) (y := Operand.tmp 156) (b := false) rfl (hE 19 rfl) (hE 24 rfl) w)
    | n + 26,ho,hE => by simp at ho
   case fin =>
    intro w7 hk7
    show Exit.then _ _ Exit.normal { tmps := #[_,_,_,_,_,_,_,_,_,_,_,_,_,_,_,_,_,_,_,_,_,_,_,_,_,_,_,_,_,_,_,_,_,_,_,_,_,_,_,_,_,_,_,_,_,_,_,_,_,_,_,_,_,_,_,_,_,_,_,_,_,_,_,_,_,_,_,_,_,_,_,_,_,_,_,_,_,_,_,_,_,_,_,_,_,_,_,_,_,_,_,_,_,_,_,_,_,_,_,_,_,_,_,_,_,_,_,_,_,_,_,_,_,_,_,_,_,_,_,_,_,_,_,_,_,_,_,_,_,_,_,_,_,_,_,_,_,_,_,_,_,_,_,_,_,_,_,_,_,_,_,_,_,_,_,_,_,_,_,_,_,_,_],defers := _ } w7
    go_wp2_with fail
    refine (HOv.out w7 hk7.1).mono ?_
    rintro e w8 ⟨rfl,g8⟩
    have G8 := below_then hk7.1 g8
    have hov : ((d.waits == 0) == (((Bf.many d.st Bf.St.isWaits d.l.length : Nat) : Int) == 0)) = true := by
     rw [show d.waits = Bf.many d.st Bf.St.isWaits d.l.length from rfl]
     cases Bf.many d.st Bf.St.isWaits d.l.length with
     | zero => rfl
     | succ m =>
      have : (((m + 1 : Nat) : Int) == 0) = false := by simp;omega
      rw [this]
      rfl
    go_wp2
    go_ret
    exact ⟨rfl,G8⟩
  ·by_cases hout : j = 0 ∨ j = d.l.length + 1
   ·have hno := HNo.out ((j : Int) - 1) (by omega)
    have HR1 := hid1 (HRs.out wr hB ((j : Int) - 1) (by omega) (by omega))
    rw [hno] at HR1
    have HS1 := hid1 fun (V : World) (g : Below W.heap.size W V) => HSt.out V g ((j : Int) - 1) (by omega) (by omega)
    rw [hno] at HS1
    have HW1 := hid1 fun (V : World) (g : Below W.heap.size W V) => HWy.out V g ((j : Int) - 1) (by omega) (by omega)
    rw [hno] at HW1
    have q1 : Bf.St.no.out = [] := rfl
    have q2 : Bf.St.no.isDone = false := rfl
    have q3 : Bf.St.no.name = [] := rfl
    have q4 : erOf es Bf.St.no.why = Value.nilIface := rfl
    rw [q1,q2] at HR1
    rw [q3] at HS1
    rw [q4] at HW1
    clear hno q1 q2 q3 q4
    rcases hout with rfl | rfl
    ·have e0 : ((0 : Nat) : Int) - 1 = -1 := rfl
     rw [e0] at HR1 HS1 HW1 ⊢
     go_wp2_with fail
     refine HR1.out.mono ?_
     rintro e w4 ⟨rfl,g4⟩
     have G4 := below_then hB g4
     have c1' := (HM.out.below G4).c1
     clear HR1 c1
     go_wp2_with fail
     refine (HS1.out _ G4).mono ?_
     rintro e w5 ⟨rfl,g5⟩
     have G5 := below_then G4 g5
     go_wp2_with fail
     refine (HW1.out _ G5).mono ?_
     rintro e w6 ⟨rfl,g6⟩
     go_wp2
     exact ⟨⟨1,by omega,rfl,rfl,below_then G5 g6⟩,by simp only [intOf];omega⟩
    ·have e0 : ((d.l.length + 1 : Nat) : Int) - 1 = (d.l.length : Int) := by omega
     rw [e0] at HR1 HS1 HW1 ⊢
     have dz : decide ((d.l.length : Int) < 0) = false := by simp
     go_wp2_with fail
     refine HR1.out.mono ?_
     rintro e w4 ⟨rfl,g4⟩
     have G4 := below_then hB g4
     have c1' := (HM.out.below G4).c1
     clear HR1 c1
     go_wp2_with fail
     refine (HS1.out _ G4).mono ?_
     rintro e w5 ⟨rfl,g5⟩
     have G5 := below_then G4 g5
     go_wp2_with fail
     refine (HW1.out _ G5).mono ?_
     rintro e w6 ⟨rfl,g6⟩
     go_wp2
     exact ⟨⟨d.l.length + 1 + 1,by omega,by congr 1;omega,by rw [show min (d.l.length + 1 + 1 - 1) d.l.length = d.l.length by omega],below_then G5 g6⟩,by simp only [intOf];omega⟩
   ·obtain ⟨k,rfl⟩ : ∃ k,j = k + 1 := ⟨j - 1,by omega⟩
    have hk : k < d.l.length := by omega
    have e0 : ((k + 1 : Nat) : Int) - 1 = (k : Int) := by omega
    rw [e0]
    have hat := HAt.out k hk
    have HR1 := hid1 (HRs.out wr hB (k : Int) (by omega) (by omega))
    rw [hat] at HR1
    have HS1 := hid1 fun (V : World) (g : Below W.heap.size W V) => HSt.out V g (k : Int) (by omega) (by omega)
    rw [hat] at HS1
    have HW1 := hid1 fun (V : World) (g : Below W.heap.size W V) => HWy.out V g (k : Int) (by omega) (by omega)
    rw [hat] at HW1
    have k0 : (0 : Int) ≤ (k : Int) := by omega
    have k1 : (k : Int) < (d.l.length : Int) := by omega
    have k2 : ((k : Int) == (d.l.length : Int)) = false := by simp;omega
    have k3 : (k : Int) ≤ (d.l.length : Int) := by omega
    have dz : decide ((k : Int) < 0) = false := by simp
    have hwc : (d.st k).why = 0 ∨ ∃ m,m < 12 ∧ (d.st k).why = m + 1 := by
     have := hF.fit.whys k
     by_cases h0 : (d.st k).why = 0
     ·exact .inl h0
     ·exact .inr ⟨(d.st k).why - 1,by omega,by omega⟩
    have HCd := hid1 fun (V : World) (g : Below W.heap.size W V) => coded2_er (d.st k).why hwc es V (HE.out.below g)
    have HMw : Hid (Bf.many d.st Bf.St.isWaits (min (k + 1 + 1 - 1) d.l.length) = Bf.many d.st Bf.St.isWaits (min (k + 1 - 1) d.l.length) + (if (d.st k).isWaits = true then 1 else 0)) := hid1 (by
     rw [show min (k + 1 + 1 - 1) d.l.length = k + 1 by omega,show min (k + 1 - 1) d.l.length = k by omega]
     rfl)
    have hmle := Bf.many_le d.st Bf.St.isWaits (min (k + 1 - 1) d.l.length)
    have hq2 := Bf.St.name_waits (d.st k)
    have hq1 := Bf.St.name_done (d.st k)
    have hout : (d.st k).isDone = false → (d.st k).out = [] := fun hx => by cases hs : d.st k <;> first | rfl | (rw [hs] at hx;cases hx)
    generalize Bf.many d.st Bf.St.isWaits (min (k + 1 - 1) d.l.length) = mw at *
    have zmw : (mw : Int) ≤ 40 := by omega
    clear hMw hwc
    cases hdn : (d.st k).isDone with
    | true =>
     rw [hdn] at HR1 hq1
     clear hout
     go_wp2_with fail
     refine HR1.out.mono ?_
     rintro e w4 ⟨rfl,g4⟩
     have G4 := below_then hB g4
     have hM4 := HM.out.below G4
     have c1' := hM4.c1
     have c2 := hM4.c2
     have c3 := hM4.c3
     have c5 := hM4.c5
     have r2 := (hM4.rs.2 k hk).1
     have r3 := (hM4.ro.2 k hk).1
     have r5 := (hM4.rw.2 k hk).1
     clear HR1 c1 hM4
     go_wp2
     have HK4 := hid1 G4
     have hkl := hk
     refine wp_region_any (by kernel_rfl) ?_
     refine wpAny_det 68 (asValsT es p mb gs go gw k d) (fun V => Below W.heap.size W V) rfl rfl (Nat.le_of_ble_eq_true rfl) (by kernel_rfl) ?step (below_draws HK4.out 1) ?fin
     case step =>
      intro i o a w ho hk hb hE
      have f0 : a.eval (.tmp 0) = .pointer (some p) := hb 0 (by decide)
      have f1 : a.eval (.tmp 1) = .pointer (some ⟨mb,0,none⟩) := hb 1 (by decide)
      have f6 : a.eval (.tmp 6) = .int .i64 (k : Int) := hb 6 (by decide)
      have f7 : a.eval (.tmp 7) = .string (ba (d.st k).out) := hb 7 (by decide)
      have f8 : a.eval (.tmp 8) = .bool true := hb 8 (by decide)
      have f9 : a.eval (.tmp 9) = .bool true := hb 9 (by decide)
      clear hb
      exact match i,ho,hE with
      | 0,ho,hE => by
       obtain rfl := Option.some.inj ho
       exact .val rfl (ex_mv rfl f0 w)
      | 1,ho,hE => by
       obtain rfl := Option.some.inj ho
       exact .val rfl (ex_mv rfl f6 w)
      | 2,ho,hE => by
       obtain rfl := Option.some.inj ho
       have f68 : a.eval (.tmp 68) = .pointer (some p) := hE 0 rfl
       have f69 : a.eval (.tmp 69) = .int .i64 (k : Int) := hE 1 rfl
       refine .call 58 #[.pointer (some p),.int .i64 (k : Int)] rfl (by
        show (execOp a.eval { dst := some 70,op := Op.call { callee := Callee.value (Operand.func 58),args := #[Operand.tmp 68,Operand.tmp 69],argTypes := _ },type := _,pos := _,after := _,guard := _ }).run _ w = _
        simp only [execOp,resolve,List.map_toArray,List.map_cons,List.map_nil,ev_fn]
        rw [f68,f69]
        go_simp) ?_
       refine (HS1.out w hk).mono ?_
       rintro e w' ⟨rfl,g⟩
       exact ⟨rfl,below_then hk g⟩
      | 3,ho,hE => by
       obtain rfl := Option.some.inj ho
       exact .val rfl (ex_mv rfl f1 w)
      | 4,ho,hE => by
       obtain rfl := Option.some.inj ho
       have f71 : a.eval (.tmp 71) = .pointer (some ⟨mb,0,none⟩) := hE 3 rfl
       refine .val rfl ?_
       show (execOp a.eval { dst := some 72,op := Op.nilCheck (Operand.tmp 71),type := _,pos := _,after := _,guard := _ }).run _ w = Result.ok (Next.value (.pointer (some ⟨mb,0,none⟩))) w
       simp only [execOp]
       rw [f71]
       go_simp
      | 5,ho,hE => by
       obtain rfl := Option.some.inj ho
       have f72 : a.eval (.tmp 72) = .pointer (some ⟨mb,0,none⟩) := hE 4 rfl
       refine .val rfl ?_
       show (execOp a.eval { dst := some 73,op := Op.fieldAddr _ (Operand.tmp 72) 2,type := _,pos := _,after := _,guard := _ }).run _ w = Result.ok (Next.value (.pointer (some ⟨mb,2,none⟩))) w
       simp only [execOp]
       rw [f72]
       go_simp
      | 6,ho,hE => by
       obtain rfl := Option.some.inj ho
       have f73 : a.eval (.tmp 73) = .pointer (some ⟨mb,2,none⟩) := hE 5 rfl
       have c := (HM.out.below hk).c2
       refine .val rfl ?_
       show (execOp a.eval { dst := some 74,op := Op.load _ (Operand.tmp 73),type := _,pos := _,after := _,guard := _ }).run _ w = Result.ok (Next.value (.slice (some ⟨gs,0,none⟩) d.l.length d.l.length)) w
       simp only [execOp]
       rw [f73]
       go_simp
      | 7,ho,hE => by
       obtain rfl := Option.some.inj ho
       exact .val rfl (ex_mv rfl f6 w)
      | 8,ho,hE => by
       obtain rfl := Option.some.inj ho
       have f74 : a.eval (.tmp 74) = .slice (some ⟨gs,0,none⟩) d.l.length d.l.length := hE 6 rfl
       have f75 : a.eval (.tmp 75) = .int .i64 (k : Int) := hE 7 rfl
       refine .val rfl ?_
       show (execOp a.eval { dst := some 76,op := Op.indexAddr _ (Operand.tmp 74) (Operand.tmp 75),type := _,pos := _,after := _,guard := _ }).run _ w = Result.ok (Next.value (.pointer (some ⟨gs,k,none⟩))) w
       simp only [execOp]
       rw [f74,f75]
       go_simp
      | 9,ho,hE => by
       obtain rfl := Option.some.inj ho
       have f76 : a.eval (.tmp 76) = .pointer (some ⟨gs,k,none⟩) := hE 8 rfl
       have c := ((HM.out.below hk).rs.2 k hkl).1
       refine .val rfl ?_
       show (execOp a.eval { dst := some 77,op := Op.load _ (Operand.tmp 76),type := _,pos := _,after := _,guard := _ }).run _ w = Result.ok (Next.value (.string (ba (d.st k).name))) w
       simp only [execOp]
       rw [f76]
       go_simp
      | 10,ho,hE => by
       obtain rfl := Option.some.inj ho
       have f70 : a.eval (.tmp 70) = .string (ba (d.st k).name) := hE 2 rfl
       have f77 : a.eval (.tmp 77) = .string (ba (d.st k).name) := hE 9 rfl
       refine .val rfl ?_
       show (execOp a.eval { dst := some 78,op := Op.binOp BinOp.neq _ (Operand.tmp 70) (Operand.tmp 77) _,type := _,pos := _,after := _,guard := _ }).run _ w = Result.ok (Next.value (.bool false)) w
       simp only [execOp]
       rw [f70,f77]
       go_simp
      | 11,ho,hE => by
       obtain rfl := Option.some.inj ho
       exact .val rfl (ex_mv rfl (hE 10 rfl) w)
      | 12,ho,hE => by
       obtain rfl := Option.some.inj ho
       exact .val rfl (ex_mv rfl f8 w)
      | 13,ho,hE => by
       obtain rfl := Option.some.inj ho
       exact .val rfl (ex_mv rfl f9 w)
      | 14,ho,hE => by
       obtain rfl := Option.some.inj ho
       have f80 : a.eval (.tmp 80) = .bool true := hE 12 rfl
       have f81 : a.eval (.tmp 81) = .bool true := hE 13 rfl
       refine .val rfl ?_
       show (execOp a.eval { dst := some 82,op := Op.binOp BinOp.neq _ (Operand.tmp 80) (Operand.tmp 81) _,type := _,pos := _,after := _,guard := _ }).run _ w = Result.ok (Next.value (.bool false)) w
       simp only [execOp]
       rw [f80,f81]
       go_simp
      | 15,ho,hE => by
       obtain rfl := Option.some.inj ho
       exact .val rfl (ex_pk (x := Operand.const (Value.bool true)) (y := Operand.tmp 82) (b := false) rfl (hE 11 rfl) (hE 14 rfl) w)
      | 16,ho,hE => by
       obtain rfl := Option.some.inj ho
       exact .val rfl (ex_mv rfl (hE 15 rfl) w)
      | 17,ho,hE => by
       obtain rfl := Option.some.inj ho
       exact .val rfl (ex_mv rfl f8 w)
      | 18,ho,hE => by
       obtain rfl := Option.some.inj ho
       exact .val rfl (ex_mv rfl (hE 17 rfl) w)
      | 19,ho,hE => by
       obtain rfl := Option.some.inj ho
       exact .val rfl (ex_mv rfl f7 w)
      | 20,ho,hE => by
       obtain rfl := Option.some.inj ho
       exact .val rfl (ex_mv rfl f1 w)
      | 21,ho,hE => by
       obtain rfl := Option.some.inj ho
       have f88 : a.eval (.tmp 88) = .pointer (some ⟨mb,0,none⟩) := hE 20 rfl
       refine .val rfl ?_
       show (execOp a.eval { dst := some 89,op := Op.nilCheck (Operand.tmp 88),type := _,pos := _,after := _,guard := _ }).run _ w = Result.ok (Next.value (.pointer (some ⟨mb,0,none⟩))) w
       simp only [execOp]
       rw [f88]
       go_simp
      | 22,ho,hE => by
       obtain rfl := Option.some.inj ho
       have f89 : a.eval (.tmp 89) = .pointer (some ⟨mb,0,none⟩) := hE 21 rfl
       refine .val rfl ?_
       show (execOp a.eval { dst := some 90,op := Op.fieldAddr _ (Operand.tmp 89) 3,type := _,pos := _,after := _,guard := _ }).run _ w = Result.ok (Next.value (.pointer (some ⟨mb,3,none⟩))) w
       simp only [execOp]
       rw [f89]
       go_simp
      | 23,ho,hE => by
       obtain rfl := Option.some.inj ho
       have f90 : a.eval (.tmp 90) = .pointer (some ⟨mb,3,none⟩) := hE 22 rfl
       have c := (HM.out.below hk).c3
       refine .val rfl ?_
       show (execOp a.eval { dst := some 91,op := Op.load _ (Operand.tmp 90),type := _,pos := _,after := _,guard := _ }).run _ w = Result.ok (Next.value (.slice (some ⟨go,0,none⟩) d.l.length d.l.length)) w
       simp only [execOp]
       rw [f90]
       go_simp
      | 24,ho,hE => by
       obtain rfl := Option.some.inj ho
       exact .val rfl (ex_mv rfl f6 w)
      | 25,ho,hE => by
       obtain rfl := Option.some.inj ho
       have f91 : a.eval (.tmp 91) = .slice (some ⟨go,0,none⟩) d.l.length d.l.length := hE 23 rfl
       have f92 : a.eval (.tmp 92) = .int .i64 (k : Int) := hE 24 rfl
       refine .val rfl ?_
       show (execOp a.eval { dst := some 93,op := Op.indexAddr _ (Operand.tmp 91) (Operand.tmp 92),type := _,pos := _,after := _,guard := _ }).run _ w = Result.ok (Next.value (.pointer (some ⟨go,k,none⟩))) w
       simp only [execOp]
       rw [f91,f92]
       go_simp
      | 26,ho,hE => by
       obtain rfl := Option.some.inj ho
       have f93 : a.eval (.tmp 93) = .pointer (some ⟨go,k,none⟩) := hE 25 rfl
       have c := ((HM.out.below hk).ro.2 k hkl).1
       refine .val rfl ?_
       show (execOp a.eval { dst := some 94,op := Op.load _ (Operand.tmp 93),type := _,pos := _,after := _,guard := _ }).run _ w = Result.ok (Next.value (.string (ba (d.st k).out))) w
       simp only [execOp]
       rw [f93]
       go_simp
      | 27,ho,hE => by
       obtain rfl := Option.some.inj ho
       have f87 : a.eval (.tmp 87) = .string (ba (d.st k).out) := hE 19 rfl
       have f94 : a.eval (.tmp 94) = .string (ba (d.st k).out) := hE 26 rfl
       refine .val rfl ?_
       show (execOp a.eval { dst := some 95,op := Op.binOp BinOp.neq _ (Operand.tmp 87) (Operand.tmp 94) _,type := _,pos := _,after := _,guard := _ }).run _ w = Result.ok (Next.value (.bool false)) w
       simp only [execOp]
       rw [f87,f94]
       go_simp
      | 28,ho,hE => by
       obtain rfl := Option.some.inj ho
       exact .val rfl (ex_pk (x := Operand.tmp 95) (y := Operand.const (Value.bool false)) (b := true) rfl (hE 18 rfl) (hE 27 rfl) w)
      | 29,ho,hE => by
       obtain rfl := Option.some.inj ho
       exact .val rfl (ex_pk (x := Operand.const (Value.bool true)) (y := Operand.tmp 96) (b := false) rfl (hE 16 rfl) (hE 28 rfl) w)
      | 30,ho,hE => by
       obtain rfl := Option.some.inj ho
       exact .val rfl (ex_mv rfl (hE 29 rfl) w)
      | 31,ho,hE => by
       obtain rfl := Option.some.inj ho
       exact .val rfl (ex_mv rfl f8 w)
      | 32,ho,hE => by
       obtain rfl := Option.some.inj ho
       have f99 : a.eval (.tmp 99) = .bool true := hE 31 rfl
       refine .val rfl ?_
       show (execOp a.eval { dst := some 100,op := Op.unOp UnOp.not _ (Operand.tmp 99),type := _,pos := _,after := _,guard := _ }).run _ w = Result.ok (Next.value (.bool false)) w
       simp only [execOp]
       rw [f99]
       go_simp
      | 33,ho,hE => by
       obtain rfl := Option.some.inj ho
       exact .val rfl (ex_mv rfl (hE 32 rfl) w)
      | 34,ho,hE => by
       obtain rfl := Option.some.inj ho
       exact .no rfl rfl
      | 35,ho,hE => by
       obtain rfl := Option.some.inj ho
       exact .no rfl rfl
      | 36,ho,hE => by
       obtain rfl := Option.some.inj ho
       exact .val rfl (ex_pk (x := Operand.tmp 103) (y := Operand.const (Value.bool false)) (b := false) rfl (hE 33 rfl) rfl w)
      | 37,ho,hE => by
       obtain rfl := Option.some.inj ho
       exact .val rfl (ex_pk (x := Operand.const (Value.bool true)) (y := Operand.tmp 104) (b := false) rfl (hE 30 rfl) (hE 36 rfl) w)
      | 38,ho,hE => by
       obtain rfl := Option.some.inj ho
       exact .val rfl (ex_mv rfl (hE 37 rfl) w)
      | 39,ho,hE => by
       obtain rfl := Option.some.inj ho
       exact .val rfl (ex_mv rfl f0 w)
      | 40,ho,hE => by
       obtain rfl := Option.some.inj ho
       exact .val rfl (ex_mv rfl f6 w)
      | 41,ho,hE => by
       obtain rfl := Option.some.inj ho
       have f107 : a.eval (.tmp 107) = .pointer (some p) := hE 39 rfl
       have f108 : a.eval (.tmp 108) = .int .i64 (k : Int) := hE 40 rfl
       refine .call 121 #[.pointer (some p),.int .i64 (k : Int)] rfl (by
        show (execOp a.eval { dst := some 109,op := Op.call { callee := Callee.value (Operand.func 121),args := #[Operand.tmp 107,Operand.tmp 108],argTypes := _ },type := _,pos := _,after := _,guard := _ }).run _ w = _
        simp only [execOp,resolve,List.map_toArray,List.map_cons,List.map_nil,ev_fn]
        rw [f107,f108]
        go_simp) ?_
       refine (HW1.out w hk).mono ?_
       rintro e w' ⟨rfl,g⟩
       exact ⟨rfl,below_then hk g⟩
      | 42,ho,hE => by
       obtain rfl := Option.some.inj ho
       exact .val rfl (ex_mv rfl f1 w)
      | 43,ho,hE => by
       obtain rfl := Option.some.inj ho
       have f110 : a.eval (.tmp 110) = .pointer (some ⟨mb,0,none⟩) := hE 42 rfl
       refine .val rfl ?_
       show (execOp a.eval { dst := some 111,op := Op.nilCheck (Operand.tmp 110),type := _,pos := _,after := _,guard := _ }).run _ w = Result.ok (Next.value (.pointer (some ⟨mb,0,none⟩))) w
       simp only [execOp]
       rw [f110]
       go_simp
      | 44,ho,hE => by
       obtain rfl := Option.some.inj ho
       have f111 : a.eval (.tmp 111) = .pointer (some ⟨mb,0,none⟩) := hE 43 rfl
       refine .val rfl ?_
       show (execOp a.eval { dst := some 112,op := Op.fieldAddr _ (Operand.tmp 111) 5,type := _,pos := _,after := _,guard := _ }).run _ w = Result.ok (Next.value (.pointer (some ⟨mb,5,none⟩))) w
       simp only [execOp]
       rw [f111]
       go_simp
      | 45,ho,hE => by
       obtain rfl := Option.some.inj ho
       have f112 : a.eval (.tmp 112) = .pointer (some ⟨mb,5,none⟩) := hE 44 rfl
       have c := (HM.out.below hk).c5
       refine .val rfl ?_
       show (execOp a.eval { dst := some 113,op := Op.load _ (Operand.tmp 112),type := _,pos := _,after := _,guard := _ }).run _ w = Result.ok (Next.value (.slice (some ⟨gw,0,none⟩) d.l.length d.l.length)) w
       simp only [execOp]
       rw [f112]
       go_simp
      | 46,ho,hE => by
       obtain rfl := Option.some.inj ho
       exact .val rfl (ex_mv rfl f6 w)
      | 47,ho,hE => by
       obtain rfl := Option.some.inj ho
       have f113 : a.eval (.tmp 113) = .slice (some ⟨gw,0,none⟩) d.l.length d.l.length := hE 45 rfl
       have f114 : a.eval (.tmp 114) = .int .i64 (k : Int) := hE 46 rfl
       refine .val rfl ?_
       show (execOp a.eval { dst := some 115,op := Op.indexAddr _ (Operand.tmp 113) (Operand.tmp 114),type := _,pos := _,after := _,guard := _ }).run _ w = Result.ok (Next.value (.pointer (some ⟨gw,k,none⟩))) w
       simp only [execOp]
       rw [f113,f114]
       go_simp
      | 48,ho,hE => by
       obtain rfl := Option.some.inj ho
       have f115 : a.eval (.tmp 115) = .pointer (some ⟨gw,k,none⟩) := hE 47 rfl
       have c := ((HM.out.below hk).rw.2 k hkl).1
       refine .val rfl ?_
       show (execOp a.eval { dst := some 116,op := Op.load _ (Operand.tmp 115),type := _,pos := _,after := _,guard := _ }).run _ w = Result.ok (Next.value (.int .i64 ((d.st k).why : Nat))) w
       simp only [execOp]
       rw [f115]
       go_simp
      | 49,ho,hE => by
       obtain rfl := Option.some.inj ho
       have f109 : a.eval (.tmp 109) = erOf es (d.st k).why := hE 41 rfl
       have f116 : a.eval (.tmp 116) = .int .i64 ((d.st k).why : Nat) := hE 48 rfl
       refine .call 61 #[erOf es (d.st k).why,.int .i64 ((d.st k).why : Nat)] rfl (by
        show (execOp a.eval { dst := some 117,op := Op.call { callee := Callee.value (Operand.func 61),args := #[Operand.tmp 109,Operand.tmp 116],argTypes := _ },type := _,pos := _,after := _,guard := _ }).run _ w = _
        simp only [execOp,resolve,List.map_toArray,List.map_cons,List.map_nil,ev_fn]
        rw [f109,f116]
        go_simp) ?_
       refine (HCd.out w hk).mono ?_
       rintro e w' ⟨rfl,g⟩
       exact ⟨rfl,below_then hk g⟩
      | 50,ho,hE => by
       obtain rfl := Option.some.inj ho
       have f117 : a.eval (.tmp 117) = .bool true := hE 49 rfl
       refine .val rfl ?_
       show (execOp a.eval { dst := some 118,op := Op.unOp UnOp.not _ (Operand.tmp 117),type := _,pos := _,after := _,guard := _ }).run _ w = Result.ok (Next.value (.bool false)) w
       simp only [execOp]
       rw [f117]
       go_simp
      | 51,ho,hE => by
       obtain rfl := Option.some.inj ho
       exact .val rfl (ex_pk (x := Operand.const (Value.bool true)) (y := Operand.tmp 118) (b := false) rfl (hE 38 rfl) (hE 50 rfl) w)
      | n + 52,ho,hE => by simp at ho
     case fin =>
      intro w5 hk5
      have hM5 := HM.out.below hk5
      have c1' := hM5.c1
      have c2 := hM5.c2
      have r2 := (hM5.rs.2 k hkl).1
      clear hM5
      show Exit.then _ _ Exit.normal { tmps := #[_,_,_,_,_,_,_,_,_,_,_,_,_,_,_,_,_,_,_,_,_,_,_,_,_,_,_,_,_,_,_,_,_,_,_,_,_,_,_,_,_,_,_,_,_,_,_,_,_,_,_,_,_,_,_,_,_,_,_,_,_,_,_,_,_,_,_,_,_,_,_,_,_,_,_,_,_,_,_,_,_,_,_,_,_,_,_,_,_,_,_,_,_,_,_,_,_,_,_,_,_,_,_,_,_,_,_,_,_,_,_,_,_,_,_,_,_,_,_,_,_,_,_,_,_,_,_,_,_,_,_,_,_,_,_,_,_,_,_,_,_,_,_,_,_,_,_,_,_,_,_,_,_,_,_,_,_,_,_,_,_,_,_],defers := _ } w5
      have hwf : (d.st k).isWaits = false := by cases hs : d.st k <;> first | rfl | (rw [hs] at hdn;cases hdn)
      rw [hwf] at hq2 HMw
      go_wp2
      exact ⟨⟨k + 1 + 1,by omega,by congr 1;omega,by rw [HMw.out];rfl,hk5⟩,by simp only [intOf];omega⟩
    | false =>
     rw [hdn] at HR1 hq1
     rw [hout hdn] at HR1
     go_wp2_with fail
     refine HR1.out.mono ?_
     rintro e w4 ⟨rfl,g4⟩
     have G4 := below_then hB g4
     have hM4 := HM.out.below G4
     have c1' := hM4.c1
     have c2 := hM4.c2
     have c3 := hM4.c3
     have c5 := hM4.c5
     have r2 := (hM4.rs.2 k hk).1
     have r3 := (hM4.ro.2 k hk).1
     have r5 := (hM4.rw.2 k hk).1
     clear HR1 c1 hM4
     go_wp2
     have HK4 := hid1 G4
     have hkl := hk
     refine wp_region_any (by kernel_rfl) ?_
     refine wpAny_det 68 (asValsF es p mb gs gw k d) (fun V => Below W.heap.size W V) rfl rfl (Nat.le_of_ble_eq_true rfl) (by kernel_rfl) ?step (below_draws HK4.out 1) ?fin
     case step =>
      intro i o a w ho hk hb hE
      have f0 : a.eval (.tmp 0) = .pointer (some p) := hb 0 (by decide)
      have f1 : a.eval (.tmp 1) = .pointer (some ⟨mb,0,none⟩) := hb 1 (by decide)
      have f6 : a.eval (.tmp 6) = .int .i64 (k : Int) := hb 6 (by decide)
      have f7 : a.eval (.tmp 7) = .string (ba []) := hb 7 (by decide)
      have f8 : a.eval (.tmp 8) = .bool false := hb 8 (by decide)
      have f9 : a.eval (.tmp 9) = .bool false := hb 9 (by decide)
      clear hb
      exact match i,ho,hE with
      | 0,ho,hE => by
       obtain rfl := Option.some.inj ho
       exact .val rfl (ex_mv rfl f0 w)
      | 1,ho,hE => by
       obtain rfl := Option.some.inj ho
       exact .val rfl (ex_mv rfl f6 w)
      | 2,ho,hE => by
       obtain rfl := Option.some.inj ho
       have f68 : a.eval (.tmp 68) = .pointer (some p) := hE 0 rfl
       have f69 : a.eval (.tmp 69) = .int .i64 (k : Int) := hE 1 rfl
       refine .call 58 #[.pointer (some p),.int .i64 (k : Int)] rfl (by
        show (execOp a.eval { dst := some 70,op := Op.call { callee := Callee.value (Operand.func 58),args := #[Operand.tmp 68,Operand.tmp 69],argTypes := _ },type := _,pos := _,after := _,guard := _ }).run _ w = _
        simp only [execOp,resolve,List.map_toArray,List.map_cons,List.map_nil,ev_fn]
        rw [f68,f69]
        go_simp) ?_
       refine (HS1.out w hk).mono ?_
       rintro e w' ⟨rfl,g⟩
       exact ⟨rfl,below_then hk g⟩
      | 3,ho,hE => by
       obtain rfl := Option.some.inj ho
       exact .val rfl (ex_mv rfl f1 w)
      | 4,ho,hE => by
       obtain rfl := Option.some.inj ho
       have f71 : a.eval (.tmp 71) = .pointer (some ⟨mb,0,none⟩) := hE 3 rfl
       refine .val rfl ?_
       show (execOp a.eval { dst := some 72,op := Op.nilCheck (Operand.tmp 71),type := _,pos := _,after := _,guard := _ }).run _ w = Result.ok (Next.value (.pointer (some ⟨mb,0,none⟩))) w
       simp only [execOp]
       rw [f71]
       go_simp
      | 5,ho,hE => by
       obtain rfl := Option.some.inj ho
       have f72 : a.eval (.tmp 72) = .pointer (some ⟨mb,0,none⟩) := hE 4 rfl
       refine .val rfl ?_
       show (execOp a.eval { dst := some 73,op := Op.fieldAddr _ (Operand.tmp 72) 2,type := _,pos := _,after := _,guard := _ }).run _ w = Result.ok (Next.value (.pointer (some ⟨mb,2,none⟩))) w
       simp only [execOp]
       rw [f72]
       go_simp
      | 6,ho,hE => by
       obtain rfl := Option.some.inj ho
       have f73 : a.eval (.tmp 73) = .pointer (some ⟨mb,2,none⟩) := hE 5 rfl
       have c := (HM.out.below hk).c2
       refine .val rfl ?_
       show (execOp a.eval { dst := some 74,op := Op.load _ (Operand.tmp 73),type := _,pos := _,after := _,guard := _ }).run _ w = Result.ok (Next.value (.slice (some ⟨gs,0,none⟩) d.l.length d.l.length)) w
       simp only [execOp]
       rw [f73]
       go_simp
      | 7,ho,hE => by
       obtain rfl := Option.some.inj ho
       exact .val rfl (ex_mv rfl f6 w)
      | 8,ho,hE => by
       obtain rfl := Option.some.inj ho
       have f74 : a.eval (.tmp 74) = .slice (some ⟨gs,0,none⟩) d.l.length d.l.length := hE 6 rfl
       have f75 : a.eval (.tmp 75) = .int .i64 (k : Int) := hE 7 rfl
       refine .val rfl ?_
       show (execOp a.eval { dst := some 76,op := Op.indexAddr _ (Operand.tmp 74) (Operand.tmp 75),type := _,pos := _,after := _,guard := _ }).run _ w = Result.ok (Next.value (.pointer (some ⟨gs,k,none⟩))) w
       simp only [execOp]
       rw [f74,f75]
       go_simp
      | 9,ho,hE => by
       obtain rfl := Option.some.inj ho
       have f76 : a.eval (.tmp 76) = .pointer (some ⟨gs,k,none⟩) := hE 8 rfl
       have c := ((HM.out.below hk).rs.2 k hkl).1
       refine .val rfl ?_
       show (execOp a.eval { dst := some 77,op := Op.load _ (Operand.tmp 76),type := _,pos := _,after := _,guard := _ }).run _ w = Result.ok (Next.value (.string (ba (d.st k).name))) w
       simp only [execOp]
       rw [f76]
       go_simp
      | 10,ho,hE => by
       obtain rfl := Option.some.inj ho
       have f70 : a.eval (.tmp 70) = .string (ba (d.st k).name) := hE 2 rfl
       have f77 : a.eval (.tmp 77) = .string (ba (d.st k).name) := hE 9 rfl
       refine .val rfl ?_
       show (execOp a.eval { dst := some 78,op := Op.binOp BinOp.neq _ (Operand.tmp 70) (Operand.tmp 77) _,type := _,pos := _,after := _,guard := _ }).run _ w = Result.ok (Next.value (.bool false)) w
       simp only [execOp]
       rw [f70,f77]
       go_simp
      | 11,ho,hE => by
       obtain rfl := Option.some.inj ho
       exact .val rfl (ex_mv rfl (hE 10 rfl) w)
      | 12,ho,hE => by
       obtain rfl := Option.some.inj ho
       exact .val rfl (ex_mv rfl f8 w)
      | 13,ho,hE => by
       obtain rfl := Option.some.inj ho
       exact .val rfl (ex_mv rfl f9 w)
      | 14,ho,hE => by
       obtain rfl := Option.some.inj ho
       have f80 : a.eval (.tmp 80) = .bool false := hE 12 rfl
       have f81 : a.eval (.tmp 81) = .bool false := hE 13 rfl
       refine .val rfl ?_
       show (execOp a.eval { dst := some 82,op := Op.binOp BinOp.neq _ (Operand.tmp 80) (Operand.tmp 81) _,type := _,pos := _,after := _,guard := _ }).run _ w = Result.ok (Next.value (.bool false)) w
       simp only [execOp]
       rw [f80,f81]
       go_simp
      | 15,ho,hE => by
       obtain rfl := Option.some.inj ho
       exact .val rfl (ex_pk (x := Operand.const (Value.bool true)) (y := Operand.tmp 82) (b := false) rfl (hE 11 rfl) (hE 14 rfl) w)
      | 16,ho,hE => by
       obtain rfl := Option.some.inj ho
       exact .val rfl (ex_mv rfl (hE 15 rfl) w)
      | 17,ho,hE => by
       obtain rfl := Option.some.inj ho
       exact .val rfl (ex_mv rfl f8 w)
      | 18,ho,hE => by
       obtain rfl := Option.some.inj ho
       exact .val rfl (ex_mv rfl (hE 17 rfl) w)
      | 19,ho,hE => by
       obtain rfl := Option.some.inj ho
       exact .no rfl rfl
      | 20,ho,hE => by
       obtain rfl := Option.some.inj ho
       exact .no rfl rfl
      | 21,ho,hE => by
       obtain rfl := Option.some.inj ho
       exact .no rfl rfl
      | 22,ho,hE => by
       obtain rfl := Option.some.inj ho
       exact .no rfl rfl
      | 23,ho,hE => by
       obtain rfl := Option.some.inj ho
       exact .no rfl rfl
      | 24,ho,hE => by
       obtain rfl := Option.some.inj ho
       exact .no rfl rfl
      | 25,ho,hE => by
       obtain rfl := Option.some.inj ho
       exact .no rfl rfl
      | 26,ho,hE => by
       obtain rfl := Option.some.inj ho
       exact .no rfl rfl
      | 27,ho,hE => by
       obtain rfl := Option.some.inj ho
       exact .no rfl rfl
      | 28,ho,hE => by
       obtain rfl := Option.some.inj ho
       exact .val rfl (ex_pk (x := Operand.tmp 95) (y := Operand.const (Value.bool false)) (b := false) rfl (hE 18 rfl) rfl w)
      | 29,ho,hE => by
       obtain rfl := Option.some.inj ho
       exact .val rfl (ex_pk (x := Operand.const (Value.bool true)) (y := Operand.tmp 96) (b := false) rfl (hE 16 rfl) (hE 28 rfl) w)
      | 30,ho,hE => by
       obtain rfl := Option.some.inj ho
       exact .val rfl (ex_mv rfl (hE 29 rfl) w)
      | 31,ho,hE => by
       obtain rfl := Option.some.inj ho
       exact .val rfl (ex_mv rfl f8 w)
      | 32,ho,hE => by
       obtain rfl := Option.some.inj ho
       have f99 : a.eval (.tmp 99) = .bool false := hE 31 rfl
       refine .val rfl ?_
       show (execOp a.eval { dst := some 100,op := Op.unOp UnOp.not _ (Operand.tmp 99),type := _,pos := _,after := _,guard := _ }).run _ w = Result.ok (Next.value (.bool true)) w
       simp only [execOp]
       rw [f99]
       go_simp
      | 33,ho,hE => by
       obtain rfl := Option.some.inj ho
       exact .val rfl (ex_mv rfl (hE 32 rfl) w)
      | 34,ho,hE => by
       obtain rfl := Option.some.inj ho
       exact .val rfl (ex_mv rfl f7 w)
      | 35,ho,hE => by
       obtain rfl := Option.some.inj ho
       have f102 : a.eval (.tmp 102) = .string (ba []) := hE 34 rfl
       refine .val rfl ?_
       show (execOp a.eval { dst := some 103,op := Op.binOp BinOp.neq _ (Operand.tmp 102) (Operand.const (Value.string { data := #[] })) _,type := _,pos := _,after := _,guard := _ }).run _ w = Result.ok (Next.value (.bool false)) w
       simp only [execOp]
       rw [f102]
       go_simp
      | 36,ho,hE => by
       obtain rfl := Option.some.inj ho
       exact .val rfl (ex_pk (x := Operand.tmp 103) (y := Operand.const (Value.bool false)) (b := true) rfl (hE 33 rfl) (hE 35 rfl) w)
      | 37,ho,hE => by
       obtain rfl := Option.some.inj ho
       exact .val rfl (ex_pk (x := Operand.const (Value.bool true)) (y := Operand.tmp 104) (b := false) rfl (hE 30 rfl) (hE 36 rfl) w)
      | 38,ho,hE => by
       obtain rfl := Option.some.inj ho
       exact .val rfl (ex_mv rfl (hE 37 rfl) w)
      | 39,ho,hE => by
       obtain rfl := Option.some.inj ho
       exact .val rfl (ex_mv rfl f0 w)
      | 40,ho,hE => by
       obtain rfl := Option.some.inj ho
       exact .val rfl (ex_mv rfl f6 w)
      | 41,ho,hE => by
       obtain rfl := Option.some.inj ho
       have f107 : a.eval (.tmp 107) = .pointer (some p) := hE 39 rfl
       have f108 : a.eval (.tmp 108) = .int .i64 (k : Int) := hE 40 rfl
       refine .call 121 #[.pointer (some p),.int .i64 (k : Int)] rfl (by
        show (execOp a.eval { dst := some 109,op := Op.call { callee := Callee.value (Operand.func 121),args := #[Operand.tmp 107,Operand.tmp 108],argTypes := _ },type := _,pos := _,after := _,guard := _ }).run _ w = _
        simp only [execOp,resolve,List.map_toArray,List.map_cons,List.map_nil,ev_fn]
        rw [f107,f108]
        go_simp) ?_
       refine (HW1.out w hk).mono ?_
       rintro e w' ⟨rfl,g⟩
       exact ⟨rfl,below_then hk g⟩
      | 42,ho,hE => by
       obtain rfl := Option.some.inj ho
       exact .val rfl (ex_mv rfl f1 w)
      | 43,ho,hE => by
       obtain rfl := Option.some.inj ho
       have f110 : a.eval (.tmp 110) = .pointer (some ⟨mb,0,none⟩) := hE 42 rfl
       refine .val rfl ?_
       show (execOp a.eval { dst := some 111,op := Op.nilCheck (Operand.tmp 110),type := _,pos := _,after := _,guard := _ }).run _ w = Result.ok (Next.value (.pointer (some ⟨mb,0,none⟩))) w
       simp only [execOp]
       rw [f110]
       go_simp
      | 44,ho,hE => by
       obtain rfl := Option.some.inj ho
       have f111 : a.eval (.tmp 111) = .pointer (some ⟨mb,0,none⟩) := hE 43 rfl
       refine .val rfl ?_
       show (execOp a.eval { dst := some 112,op := Op.fieldAddr _ (Operand.tmp 111) 5,type := _,pos := _,after := _,guard := _ }).run _ w = Result.ok (Next.value (.pointer (some ⟨mb,5,none⟩))) w
       simp only [execOp]
       rw [f111]
       go_simp
      | 45,ho,hE => by
       obtain rfl := Option.some.inj ho
       have f112 : a.eval (.tmp 112) = .pointer (some ⟨mb,5,none⟩) := hE 44 rfl
       have c := (HM.out.below hk).c5
       refine .val rfl ?_
       show (execOp a.eval { dst := some 113,op := Op.load _ (Operand.tmp 112),type := _,pos := _,after := _,guard := _ }).run _ w = Result.ok (Next.value (.slice (some ⟨gw,0,none⟩) d.l.length d.l.length)) w
       simp only [execOp]
       rw [f112]
       go_simp
      | 46,ho,hE => by
       obtain rfl := Option.some.inj ho
       exact .val rfl (ex_mv rfl f6 w)
      | 47,ho,hE => by
       obtain rfl := Option.some.inj ho
       have f113 : a.eval (.tmp 113) = .slice (some ⟨gw,0,none⟩) d.l.length d.l.length := hE 45 rfl
       have f114 : a.eval (.tmp 114) = .int .i64 (k : Int) := hE 46 rfl
       refine .val rfl ?_
       show (execOp a.eval { dst := some 115,op := Op.indexAddr _ (Operand.tmp 113) (Operand.tmp 114),type := _,pos := _,after := _,guard := _ }).run _ w = Result.ok (Next.value (.pointer (some ⟨gw,k,none⟩))) w
       simp only [execOp]
       rw [f113,f114]
       go_simp
      | 48,ho,hE => by
       obtain rfl := Option.some.inj ho
       have f115 : a.eval (.tmp 115) = .pointer (some ⟨gw,k,none⟩) := hE 47 rfl
       have c := ((HM.out.below hk).rw.2 k hkl).1
       refine .val rfl ?_
       show (execOp a.eval { dst := some 116,op := Op.load _ (Operand.tmp 115),type := _,pos := _,after := _,guard := _ }).run _ w = Result.ok (Next.value (.int .i64 ((d.st k).why : Nat))) w
       simp only [execOp]
       rw [f115]
       go_simp
      | 49,ho,hE => by
       obtain rfl := Option.some.inj ho
       have f109 : a.eval (.tmp 109) = erOf es (d.st k).why := hE 41 rfl
       have f116 : a.eval (.tmp 116) = .int .i64 ((d.st k).why : Nat) := hE 48 rfl
       refine .call 61 #[erOf es (d.st k).why,.int .i64 ((d.st k).why : Nat)] rfl (by
        show (execOp a.eval { dst := some 117,op := Op.call { callee := Callee.value (Operand.func 61),args := #[Operand.tmp 109,Operand.tmp 116],argTypes := _ },type := _,pos := _,after := _,guard := _ }).run _ w = _
        simp only [execOp,resolve,List.map_toArray,List.map_cons,List.map_nil,ev_fn]
        rw [f109,f116]
        go_simp) ?_
       refine (HCd.out w hk).mono ?_
       rintro e w' ⟨rfl,g⟩
       exact ⟨rfl,below_then hk g⟩
      | 50,ho,hE => by
       obtain rfl := Option.some.inj ho
       have f117 : a.eval (.tmp 117) = .bool true := hE 49 rfl
       refine .val rfl ?_
       show (execOp a.eval { dst := some 118,op := Op.unOp UnOp.not _ (Operand.tmp 117),type := _,pos := _,after := _,guard := _ }).run _ w = Result.ok (Next.value (.bool false)) w
       simp only [execOp]
       rw [f117]
       go_simp
      | 51,ho,hE => by
       obtain rfl := Option.some.inj ho
       exact .val rfl (ex_pk (x := Operand.const (Value.bool true)) (y := Operand.tmp 118) (b := false) rfl (hE 38 rfl) (hE 50 rfl) w)
      | n + 52,ho,hE => by simp at ho
     case fin =>
      intro w5 hk5
      have hM5 := HM.out.below hk5
      have c1' := hM5.c1
      have c2 := hM5.c2
      have r2 := (hM5.rs.2 k hkl).1
      clear hM5
      show Exit.then _ _ Exit.normal { tmps := #[_,_,_,_,_,_,_,_,_,_,_,_,_,_,_,_,_,_,_,_,_,_,_,_,_,_,_,_,_,_,_,_,_,_,_,_,_,_,_,_,_,_,_,_,_,_,_,_,_,_,_,_,_,_,_,_,_,_,_,_,_,_,_,_,_,_,_,_,_,_,_,_,_,_,_,_,_,_,_,_,_,_,_,_,_,_,_,_,_,_,_,_,_,_,_,_,_,_,_,_,_,_,_,_,_,_,_,_,_,_,_,_,_,_,_,_,_,_,_,_,_,_,_,_,_,_,_,_,_,_,_,_,_,_,_,_,_,_,_,_,_,_,_,_,_,_,_,_,_,_,_,_,_,_,_,_,_,_,_,_,_,_,_],defers := _ } w5
      cases hwt : (d.st k).isWaits with
      | true =>
       rw [hwt] at hq2 HMw
       go_wp2
       exact ⟨⟨k + 1 + 1,by omega,by congr 1;omega,by rw [HMw.out];rfl,hk5⟩,by simp only [intOf];omega⟩
      | false =>
       rw [hwt] at hq2 HMw
       go_wp2
       exact ⟨⟨k + 1 + 1,by omega,by congr 1;omega,by rw [HMw.out];rfl,hk5⟩,by simp only [intOf];omega⟩
end Go.Proofs.YtflbofdpfgkmcaaGreatDoor
