import Derived.Test.YtdljhggillgpfaaGreatDoorSA30
set_option maxRecDepth 100000
set_option maxHeartbeats 16000000
namespace Go.Proofs.YtdljhggillgpfaaGreatDoor
open Go.RowKit Go.Shelf Go.Lib
open Go.Sort (Holds putRow grow)
theorem grOrder1_calls (x : Nat) (W : World) : Calls Tryz.prog 123 #[nv x] W fun e w' => e = .returned (.bool true) ∧ w' = W := by
 go_enter Tryz.func123,Tryz.ntmps123
 go_wp2
 go_ret
 exact ⟨rfl,rfl⟩
theorem grOrderOf1_calls {W : World} {l : List Ru} {p bm G : Nat} {vals : Nat → Value} (hS : ShAt W l p bm G vals) (sb lb : Nat) (hs : W.cell? ⟨sb,0,none⟩ = some (.pointer (some ⟨p,0,none⟩))) (vl : Value) (ll : List Nat) (hl : W.cell? ⟨lb,0,none⟩ = some vl) (hrow : NIRow W vl ll) (hll : ll.length ≤ 1000) (x : Nat) (hx : x < l.length) (h12 : l[x].ins.length ≤ 12) :
  Calls Tryz.prog 159 #[nv x,.pointer (some ⟨sb,0,none⟩),.pointer (some ⟨lb,0,none⟩)] W fun e w' => e = .returned (.bool (!((Ru.needL l l[x].ins).any fun y => decide (y ∈ ll)))) ∧ Below W.heap.size W w' := by
 obtain ⟨d0,r0⟩ := hS.row x hx
 have h1 := hS.c1
 have hlen := Ru.needL_len l l[x].ins
 have HM := hid1 fun W' (g : Below W.heap.size W W') => grmeet_calls (vals x) vl (Ru.needL l l[x].ins) ll (r0.below g) (hrow.below g) (by omega) (by omega)
 have c0 : (0 : Int) ≤ (x : Int) := by omega
 have c1 : (x : Int) < (l.length : Int) := by omega
 obtain ⟨p1,k1,e1,-⟩ := r0
 rw [e1] at d0 HM
 obtain ⟨p2,k2,rfl,-⟩ := hrow
 generalize ((Ru.needL l l[x].ins).any fun y => decide (y ∈ ll)) = d at *
 generalize (Ru.needL l l[x].ins).length = m at *
 go_enter Tryz.func159,Tryz.ntmps159
 go_wp2
 go_region_held3 (fun w' => w'.cell? ⟨sb,0,none⟩ = some (.pointer (some ⟨p,0,none⟩)) ∧ w'.cell? ⟨p,1,none⟩ = some (.slice (some ⟨G,0,none⟩) l.length l.length) ∧ w'.cell? ⟨G,x,none⟩ = some (.slice p1 m k1) ∧ w'.cell? ⟨lb,0,none⟩ = some (.slice p2 ll.length k2)) (first | go_keep | fail)
  (first | (go_at_call 160;refine (HM.out _ (by exact (Below.refl _ W).drew)).mono ?_;rintro e w5 ⟨rfl,g5⟩;have e0 := cell_below' (w := W.drew) hs g5;have e1 := cell_below' (w := W.drew) h1 g5;have e2 := cell_below' (w := W.drew) d0 g5;have e3 := cell_below' (w := W.drew) hl g5) | fail)
 all_goals
  go_wp2
  go_ret
  exact ⟨rfl,below_then ((Below.refl _ W).drew) g5⟩
def SomeTells (es : Nat → Addr) (l : List Ru) (ch : Nat → Bool) (w : World) (u ev : Value) : Prop :=
 ((Ru.fault l).1 ≠ 0 ∧ ErrV w es ev (Ru.fault l) ∧ NoRow u) ∨
 ((Ru.fault l).1 = 0 ∧ Ru.order l ch = none ∧ ev = erOf es 9 ∧ NoRow u) ∨
 ((Ru.fault l).1 = 0 ∧ ∃ o,Ru.order l ch = some o ∧ ev = .nilIface ∧ NIRow w u o)
def NewI (B : Nat) (u : Value) : Prop := ∀ p n c,u = .slice (some p) n c → B ≤ p.block
theorem NewI.of_owns {w : World} {B C e size n : Nat} {u : Value} {xs : List Value} (h : w.ownsRow B e size u n xs) (hC : C ≤ B) : NewI C u := fun p k c eu => by
 rcases h.2 with ⟨h',_⟩ | ⟨g,cap,cur,h',hb,_⟩
 ·rw [h'] at eu;cases eu
 ·rw [h'] at eu;cases eu;exact Nat.le_trans hC hb
theorem grOrderOf_new {w : World} {es : Nat → Addr} (hW : GraphW w es) (v : Value) (l : List Ru) (hrow : RRow w v l) (hn : l.length ≤ 1000) (hS : ∀ x ∈ l,x.Small) (f : Nat) (caps : Array Value) (eg : ∀ args w,(callFunc f args).run Tryz.prog w = .ok (.enter f args) w)
  (ch : Nat → Bool) (Hcl : Hid (∀ i k,ch i = true → Ru.needs l i k = true → ch k = true))
  (HF : Hid (∀ (x : Nat) (W : World),x < l.length → Below w.heap.size w W → Calls Tryz.prog f (#[nv x] ++ caps) W fun e w' => e = .returned (.bool (ch x)) ∧ Below W.heap.size W w')) :
  Calls Tryz.prog 114 #[v,.func (.func f) #[] caps] w fun e w' => ∃ u ev,e = .returned (.tuple #[u,ev]) ∧ Below w.heap.size w w' ∧ SomeTells es l ch w' u ev ∧ NewI w.heap.size u := by
 have HL := hid1 (grlook_calls hW.s v l hrow hn hS)
 have H12 : Hid (∀ i (hi : i < l.length),l[i].ins.length ≤ 12) := hid1 fun i hi => (hS _ (List.getElem_mem hi)).many
 have hcyc := hW.cyc
 obtain ⟨i1,hI,hI0,hI1,hI2⟩ := info_parts Tryz.infoInt
 obtain ⟨pr,cap,rfl,-⟩ := hrow
 go_enter Tryz.func114,Tryz.ntmps114
 go_wp2_with fail
 refine HL.out.mono ?_
 rintro e w1 ⟨u,ev,rfl,g1,hT⟩
 rcases hT with ⟨hf,hE,rfl,t,x,rfl⟩ | ⟨hf,rfl,p,bm,G,vals,rfl,hSh⟩
 ·have HE := hid1 hE
  have HZ := hid1 hf
  go_wp2
  go_ret2
  have gA : Below w1.heap.size w1 (w1.alloc (.cells #[.pointer none] 193)) := (Below.refl _ w1).alloc (Nat.le_refl _) _
  exact ⟨_,_,rfl,below_then g1 gA,.inl ⟨HZ.out,HE.out.below gA,_,_,rfl⟩,fun p n c e => by cases e⟩
 ·obtain ⟨h40,hA⟩ := Ru.fault_ok hf
  have HZ := hid1 hf
  have HA := hid1 hA
  have HSh := hid1 hSh
  have hcy1 := cell_below' hcyc g1
  have htop := hSh.c1
  have hlp := lt_of_cell htop
  simp only at hlp
  go_wp2
  go_loopw [25] (fun iv wr => ∃ (k : Nat) (vl : Value),k ≤ l.length ∧ iv = .int .i64 k ∧ OrdL w1 wr (w1.heap.size + 2) w1.heap.size (w1.heap.size + 1) p vl ((List.range k).filter ch)) (fun iv _ => l.length - (intOf iv).toNat)
  case atStart =>
   exact ⟨0,.slice none 0 0,Nat.zero_le _,rfl,OrdL.make w1 p⟩
  case round =>
   obtain ⟨k,vl,hk,rfl,hO⟩ := hrel
   have HO := hid1 hO
   have c0 : (0 : Int) ≤ (k : Int) := by omega
   by_cases hlt : k < l.length
   ·have c1 : (k : Int) < (l.length : Int) := by omega
    have HC := HF.out k wr hlt (below_then g1 HO.out.below)
    have hcl := HO.out.cl
    have hrw := HO.out.row
    have hbz := HO.out.size
    have hrl : ((List.range k).filter ch).length ≤ k := by simpa using List.length_filter_le ch (List.range k)
    have hml3 : ((List.range k).filter ch).length + 1 ≤ maxLen := by unfold maxLen;omega
    go_wp2_with fail
    refine Calls.mono HC ?_
    rintro e w2 ⟨rfl,g2⟩
    have HO2 := hid1 (HO.out.grown g2)
    have hcl := HO2.out.cl
    have hrw := HO2.out.row
    have hbz := HO2.out.size
    cases hck : ch k with
    | false =>
     have HQ : Hid (OrdL w1 w2 (w1.heap.size + 2) w1.heap.size (w1.heap.size + 1) p vl ((List.range (k + 1)).filter ch)) := hid1 (by
      rw [List.range_succ,List.filter_append,List.filter_cons_of_neg (by rw [hck];simp)]
      simpa using HO2.out)
     go_wp2
     exact ⟨⟨k + 1,_,by omega,by go_num,HQ.out⟩,by simp [intOf];omega⟩
    | true =>
     have HAp := hid1 fun (W1 W' : World) (vl' : Value) (hb : Below w2.heap.size w2 W1) (hg : W1.grownBy W' vl.ownBlock) (hr : W'.ownsRow (w1.heap.size + 2) 3 1 vl' (((List.range k).filter ch).length + 1) (((List.range k).filter ch).map nv ++ [nv k])) => HO2.out.append (ll' := (List.range (k + 1)).filter ch) (vl' := vl') hb hg (by rw [List.range_succ,List.filter_append,List.filter_cons_of_pos (by rw [hck])];simpa using hr)
     obtain ⟨pv,cv,rfl,-⟩ := NRow.of_owns hrw
     generalize ((List.range k).filter ch).length = m at *
     go_wp2_with (first
      | (at_builtin;refine wpList_append_own _ rfl _ _ 147 rfl (w1.heap.size + 2) 3 i1 (.int .i64 0) 1 8 Tryz.underlying147 hI hI0 hI1 hI2 rfl (by decide) _ _ _ rfl (hrw.alloc _) ⟨w2.heap.size,0,none⟩ 1 1 [nv k] rfl rfl (one_new _ _ _ _ (by simp)) (by simp [Value.oneCell']) hml3 (by omega) (by simp;omega) ?_;intro v' w4 hown' hgrow _;(obtain ⟨p',c',rfl⟩ := own_slice hown');(obtain ⟨q1,q2,q3⟩ := HAp.out _ _ _ (by exact (Below.refl _ w2).alloc (Nat.le_refl _) _) hgrow hown');(have HQ := hid1 q3))
      | go_in)
     exact ⟨⟨k + 1,_,by omega,by go_num,HQ.out⟩,by simp [intOf];omega⟩
   ·have c1 : (l.length : Int) ≤ (k : Int) := by omega
    obtain rfl : k = l.length := by omega
    have HS0 : Hid (OrdS w1 wr wr.heap.size w1.heap.size (w1.heap.size + 1) p vl (Ru.left ch l.length []) (.slice none 0 0) []) := hid1 (by
     have := HO.out.turn
     rwa [← Ru.left_nil] at this)
    have HF0 := hid1 (Ru.Ord.first ch l)
    generalize wr = w3 at *
    generalize hB2 : w3.heap.size = B2 at *
    go_wp2
    go_loopw [9] (fun ov wx => ∃ (o : List Nat) (vl : Value),Ru.Ord ch l o ∧ OrdS w1 wx B2 w1.heap.size (w1.heap.size + 1) p vl (Ru.left ch l.length o) ov o) (fun ov _ => l.length + 1 - slen ov)
    case atStart => exact ⟨[],vl,HF0.out,HS0.out⟩
    case round =>
     obtain ⟨o,vl,hOrd,hS⟩ := hrel
     have HOr := hid1 hOrd
     have HS := hid1 hS
     have holen := hOrd.len
     have hcl := HS.out.cl
     by_cases hem : Ru.left ch l.length o = []
     ·have HD := hid1 (Ru.ord_done HOr.out.ord holen hem)
      have HN : Hid (NIRow wr u9 o) := hid1 (NRow.of_owns HS.out.row).ni
      obtain ⟨a,c,rfl⟩ : ∃ a c,vl = .slice a 0 c := by
       rcases HS.out.left with ⟨_,h⟩ | ⟨g,cap,h,_⟩
       ·exact h
       ·exact ⟨_,cap,by rw [h,hem];rfl⟩
      have gB := below_then g1 HS.out.below
      have HNw : Hid (NewI w.heap.size u9) := hid1 (NewI.of_owns HS.out.row (Nat.le_trans g1.size HS.out.low2))
      go_wp2
      go_ret2
      exact ⟨_,_,rfl,gB,.inr (.inr ⟨HZ.out,o,HD.out,rfl,HN.out⟩),HNw.out⟩
     ·obtain ⟨g,cpl,rfl,hroom,hcm,hH,hlg,hgB,hgs,hgl⟩ := HS.out.left.resolve_left (fun h => hem h.1)
      have hll := Ru.left_len ch l.length o
      have hpos : 0 < (Ru.left ch l.length o).length := List.length_pos_iff.2 hem
      have hgw : g < wr.heap.size := by have := HS.out.size;omega
      have hni := Holds.ni (cap := cpl) hH hgw
      have HX := hid1 (indexFuncI_calls (w := wr) (.slice (some ⟨g,0,none⟩) (Ru.left ch l.length o).length cpl) (Ru.left ch l.length o) hni (by omega) 159 #[.pointer (some ⟨w1.heap.size,0,none⟩),.pointer (some ⟨w1.heap.size + 1,0,none⟩)] (enters_of Tryz.func159 (by kernel_rfl) rfl) (fun x => Ru.freeTo l (Ru.isIn o) x l.length)
       (hid1 fun x hx W gW => by
        have hxl := (Ru.left_mem.1 hx).1
        have hxc := (Ru.left_mem.1 hx).2.1
        have := grOrderOf1_calls ((HSh.out.below HS.out.below).below gW) w1.heap.size (w1.heap.size + 1) (cell_below' HS.out.cs gW) _ _ (cell_below' HS.out.cl gW) (hni.below gW) (by omega) x hxl (H12.out x hxl)
        rw [Ru.free_eq HA.out hxl fun k hk => Hcl.out x k hxc hk] at this
        exact this))
      have HNone := hid1 fun (h : ∀ x ∈ Ru.left ch l.length o,Ru.freeTo l (Ru.isIn o) x l.length = false) => Ru.ord_none HOr.out.ord holen hem (Ru.left_none (b := fun x => Ru.freeTo l (Ru.isIn o) x l.length) (fun _ _ => rfl) h)
      have HMore := hid1 fun (k : Nat) (hk : k < (Ru.left ch l.length o).length) h1 h2 => HOr.out.more (b := fun x => Ru.freeTo l (Ru.isIn o) x l.length) (fun _ _ => rfl) hk h1 h2
      have HDel := hid1 fun (k : Nat) (hk : k < (Ru.left ch l.length o).length) => Ru.left_del (ch := ch) (n := l.length) (o := o) hk
      go_wp2_with fail
      refine HX.out.mono ?_
      rintro e w5 ⟨r,rfl,g5,hr⟩
      rcases hr with ⟨rfl,hno⟩ | ⟨k,rfl,hk,hk1,hk2⟩
      ·have HD := hid1 (HNone.out hno)
       have hcy5 := cell_below' hcy1 (HS.out.grown g5).below
       have gB := below_then g1 (HS.out.grown g5).below
       go_wp2
       go_region
       go_wp2
       go_ret2
       exact ⟨_,_,rfl,gB.drew,.inr (.inl ⟨HZ.out,HD.out,rfl,_,_,rfl⟩),fun p n c e => by cases e⟩
      ·have HO2 := hid1 (HMore.out k hk hk1 hk2)
       have HD2 := hid1 (HDel.out k hk)
       have hS5 := HS.out.grown g5
       have hsl := owns_slen hS5.row
       have hlb5 := hS5.cl
       have hr5 := hS5.row
       have hbz := hS5.size
       have hd5 : w5.cell? ⟨g,k,none⟩ = some (nv (Ru.left ch l.length o)[k]) := by
        obtain ⟨g',c',e',-,-,hH',-⟩ := hS5.left.resolve_left (fun h => hem h.1)
        obtain ⟨rfl,rfl⟩ : g = g' ∧ cpl = c' := by
         simp only [Value.slice.injEq,Option.some.injEq,Addr.mk.injEq] at e'
         exact ⟨e'.1.1,e'.2.2⟩
        have := (hH' k (by simpa using hk)).1
        rwa [Nat.zero_add,ints_get hk] at this
       have HS5 := hid1 hS5
       have k0 : (0 : Int) ≤ (k : Int) := by omega
       have k1 : (k : Int) < ((Ru.left ch l.length o).length : Int) := by omega
       have k2 : (k : Int) ≤ 1000 := by omega
       have hml3 : o.length + 1 ≤ maxLen := by unfold maxLen;omega
       generalize hy : (Ru.left ch l.length o)[k] = y at *
       have HAp := hid1 fun (w6 : World) (v6 : Value) (hg : (w5.alloc (.cells #[nv y] 3)).grownBy w6 u9.ownBlock) (hr : w6.ownsRow B2 3 1 v6 (o.length + 1) (o.map nv ++ [nv y])) => HS5.out.append (o' := o ++ [y]) ((Below.refl _ w5).alloc (Nat.le_refl _) _) hg (by simpa using hr)
       go_wp2_with (first
        | (at_builtin;refine wpList_append_own _ rfl _ _ 147 rfl B2 3 i1 (.int .i64 0) 1 8 Tryz.underlying147 hI hI0 hI1 hI2 rfl (by decide) _ _ _ rfl (hr5.alloc _) ⟨w5.heap.size,0,none⟩ 1 1 [nv y] rfl rfl (one_new _ _ _ _ (by simp)) (by simp [Value.oneCell']) hml3 (by omega) (by simp;omega) ?_;intro v6 w6 hown6 hgrow6 _;(have hs6 := owns_slen hown6);(have hS6 := HAp.out _ _ hgrow6 hown6);(have hlb6 := hS6.cl))
        | fail)
       have hH6 : Holds encI w6 g 0 (ints (Ru.left ch l.length o)).toArray := by
        obtain ⟨g',c',e',-,-,hH',-⟩ := hS6.left.resolve_left (fun h => hem h.1)
        obtain ⟨rfl,rfl⟩ : g = g' ∧ cpl = c' := by
         simp only [Value.slice.injEq,Option.some.injEq,Addr.mk.injEq] at e'
         exact ⟨e'.1.1,e'.2.2⟩
        exact hH'
       have HDl := hid1 (deleteI_calls g cpl (Ru.left ch l.length o) k hk hH6 hroom hcm)
       have HGo := hid1 fun (W' : World) (hg : w6.grownBy W' (some g)) (hH : Holds encI W' g 0 (ints ((Ru.left ch l.length o).take k ++ (Ru.left ch l.length o).drop (k + 1))).toArray) => hS6.gone hem hg hH (by simp;omega)
       rw [HD2.out] at HDl HGo
       refine HDl.out.mono ?_
       rintro e w7 ⟨rfl,hH7,hg7⟩
       obtain ⟨q1,q2,q3⟩ := HGo.out w7 hg7 hH7
       have HQ := hid1 q3
       go_wp2
       exact ⟨⟨o ++ [y],_,HO2.out,HQ.out⟩,by rw [hs6,hsl];omega⟩
theorem grOrderOf_calls {w : World} {es : Nat → Addr} (hW : GraphW w es) (v : Value) (l : List Ru) (hrow : RRow w v l) (hn : l.length ≤ 1000) (hS : ∀ x ∈ l,x.Small) (f : Nat) (caps : Array Value) (eg : ∀ args w,(callFunc f args).run Tryz.prog w = .ok (.enter f args) w)
  (ch : Nat → Bool) (Hcl : Hid (∀ i k,ch i = true → Ru.needs l i k = true → ch k = true))
  (HF : Hid (∀ (x : Nat) (W : World),x < l.length → Below w.heap.size w W → Calls Tryz.prog f (#[nv x] ++ caps) W fun e w' => e = .returned (.bool (ch x)) ∧ Below W.heap.size W w')) :
  Calls Tryz.prog 114 #[v,.func (.func f) #[] caps] w fun e w' => ∃ u ev,e = .returned (.tuple #[u,ev]) ∧ Below w.heap.size w w' ∧ SomeTells es l ch w' u ev :=
 (grOrderOf_new hW v l hrow hn hS f caps eg ch Hcl HF).mono fun _ _ ⟨u,ev,h1,h2,h3,_⟩ => ⟨u,ev,h1,h2,h3⟩
theorem gOrder_new {w : World} {es : Nat → Addr} (hW : GraphW w es) (v : Value) (l : List Ru) (hrow : RRow w v l) (hn : l.length ≤ 1000) (hS : ∀ x ∈ l,x.Small) :
  Calls Tryz.prog 84 #[v] w fun e w' => ∃ u ev,e = .returned (.tuple #[u,ev]) ∧ Below w.heap.size w w' ∧ OrderTells es l w' u ev ∧ NewI w.heap.size u := by
 have HC := hid1 (grOrderOf_new hW v l hrow hn hS 123 #[] (enters_of Tryz.func123 (by kernel_rfl) rfl) allB1 (hid1 fun _ _ _ _ => rfl) (hid1 fun x W _ _ => (grOrder1_calls x W).mono fun e w' h => ⟨h.1,by rw [h.2];exact Below.refl _ W⟩))
 obtain ⟨pr,cap,rfl,-⟩ := hrow
 go_enter Tryz.func84,Tryz.ntmps84
 go_wp2_with fail
 refine HC.out.mono ?_
 rintro e w1 ⟨u,ev,rfl,g1,hT⟩
 have HT : Hid (OrderTells es l w1 u ev ∧ NewI w.heap.size u) := hid1 hT
 go_wp2
 go_ret2
 exact ⟨_,_,rfl,g1,HT.out.1,HT.out.2⟩
theorem gOrder_calls {w : World} {es : Nat → Addr} (hW : GraphW w es) (v : Value) (l : List Ru) (hrow : RRow w v l) (hn : l.length ≤ 1000) (hS : ∀ x ∈ l,x.Small) :
  Calls Tryz.prog 84 #[v] w fun e w' => ∃ u ev,e = .returned (.tuple #[u,ev]) ∧ Below w.heap.size w w' ∧ OrderTells es l w' u ev :=
 (gOrder_new hW v l hrow hn hS).mono fun _ _ ⟨u,ev,h1,h2,h3,_⟩ => ⟨u,ev,h1,h2,h3⟩
end Go.Proofs.YtdljhggillgpfaaGreatDoor
namespace Go.Proofs.YtdljhggillgpfaaGreatDoor
open Go.RowKit Go.Shelf Go.Lib Go.Maps
theorem OfS.build {es : Nat → Addr} {W0 w1 : World} {l : List Ru} {fs : Tf.Fs} {bm mb : Nat} {ord : List Nat} {L : Lay} (h : OfS es W0 l fs (ruOf l) bm mb ord L w1) (hA : Ru.Apart l) (hS : ∀ x ∈ l,x.Small) {outs : List (List UInt8)} {f : Nat → Bool} (hN : Ru.Needed l outs f) (hn : ∀ k,k ∈ ord ↔ k < l.length ∧ f k = true) (hlen : ord.length ≤ 40) {cv : Value} {w2 : World} {bb : Nat} (hb : Below w1.heap.size w1 w2) (hz : w1.heap.size ≤ bb) (c0 : w2.cell? ⟨bb,0,none⟩ = some (.map (some bm))) (c1 : w2.cell? ⟨bb,1,none⟩ = some cv) :
  BuM es w2 bb bm ord.length L cv (Bf.init fs l outs) ∧ ∀ j,BBlk bb bm (Bf.init fs l outs) L j → W0.heap.size ≤ j := by
 have hst : ∀ k,(Bf.init fs l outs).st k = if k ∈ ord then .waits else .no := fun k => by
  show (if Bf.need l outs k = true then Bf.St.waits else .no) = _
  by_cases hk : k < l.length
  ·rw [Bf.need_eq hN hk]
   by_cases hf : f k = true
   ·rw [if_pos hf,if_pos ((hn k).2 ⟨hk,hf⟩)]
   ·rw [if_neg hf,if_neg fun e => hf ((hn k).1 e).2]
  ·rw [Bf.need_out (by omega),if_neg (by simp),if_neg fun e => hk ((hn k).1 e).1]
 have hdom : (Bf.init fs l outs).dom = fun k => k ∈ ord := by
  funext k
  unfold Bf.Bd.dom Bf.Bd.dm
  rw [hst k]
  by_cases hk : k ∈ ord
  ·rw [if_pos hk];simp [hk,Bf.St.isNo]
  ·rw [if_neg hk];simp [hk,Bf.St.isNo]
 have hno : ∀ k,((Bf.init fs l outs).st k).isNo = false ↔ k ∈ ord := fun k => by
  rw [hst k]
  by_cases hk : k ∈ ord
  ·rw [if_pos hk];simp [hk,Bf.St.isNo]
  ·rw [if_neg hk];simp [hk,Bf.St.isNo]
 have hins : ∀ k,insOf (Bf.init fs l outs) k = (ruOf l k).ins.map (inpOf l fs) := fun k => rfl
 refine ⟨⟨c0,c1,?_,?_,?_,?_,?_,hA,?_⟩,?_⟩
 ·rw [hdom]
  exact h.smap.same (hb.block bm h.smap.lt)
 ·have hs := h.made.steps.below hb
  rw [hdom]
  exact hs.congr fun i hi => by rw [hst i,if_pos hi]
 ·intro i hi k
  rw [h.us i ((hno i).1 hi) k,← hno k]
  rfl
 ·intro i hi
  rw [hdom] at hi
  have := h.usl i hi
  omega
 ·refine Bf.Inv.init (fun i hi => ?_) (fun i k hk hi => ?_) fun i => ?_
  ·rw [hst i,if_neg fun e => by have := ((hn i).1 e).1;have : l.length ≤ i := hi;omega]
  ·rw [hno] at hi ⊢
   have hk' : Ru.needs l i k = true := hk
   exact (hn k).2 ⟨(Ru.needs_lt hk').2,hN.closed i k ((hn i).1 hi).2 hk'⟩
  ·rw [hst i]
   split
   ·exact .inr rfl
   ·exact .inl rfl
 ·intro i hi
  rw [hdom] at hi
  rw [hins,List.length_map]
  have hil := ((hn i).1 hi).1
  have := (hS _ (List.getElem_mem hil)).many
  simp [ruOf,hil]
  omega
 ·rintro j (rfl | rfl | hj)
  ·have := h.made.base.size
   omega
  ·exact h.lb
  ·rw [hdom] at hj
   exact h.made.low j hj
theorem containsI_new {W : World} {nb : Nat} {v : Value} {ll : List Nat} (hc : W.cell? ⟨nb,0,none⟩ = some v) (hrow : NIRow W v ll) (hl : ll.length ≤ 1000) (x : Nat) : Calls Tryz.prog 148 #[nv x,.pointer (some ⟨nb,0,none⟩)] W fun e w' => e = .returned (.bool (decide (x ∈ ll))) ∧ Below W.heap.size W w' := by
 have HC := hid1 (slContainsI_calls v ll x hrow (by omega))
 obtain ⟨p,c,rfl,-⟩ := hrow
 go_enter Tryz.func148,Tryz.ntmps148
 go_wp2_with fail
 refine HC.out.mono ?_
 rintro e w1 ⟨rfl,rfl⟩
 clear HC
 go_wp2
 go_ret
 exact ⟨rfl,Below.refl _ _⟩
theorem buNew_nil {es : Nat → Addr} {W : World} (hW : BuildW W es) (lv ov cv : Value) : Calls Tryz.prog 108 #[.pointer none,lv,ov,cv] W fun e w' => e = .returned (.tuple #[.pointer none,erOf es 3]) ∧ Below W.heap.size W w' := by
 have c := hW.shape
 clear hW
 go_enter Tryz.func108,Tryz.ntmps108
 go_wp2
 go_region
 go_wp2
 go_ret2
 exact ⟨rfl,(Below.refl _ W).drew⟩
end Go.Proofs.YtdljhggillgpfaaGreatDoor
namespace Go.Proofs.YtdljhggillgpfaaGreatDoor
open Go.RowKit Go.Shelf Go.Lib Go.Maps
structure WantW (w : World) (es : Nat → Addr) : Prop where
 g : GraphW w es
 shape : w.cell? ⟨2,0,Option.none⟩ = some (erOf es 3)
 none : w.cell? ⟨5,0,Option.none⟩ = some (erOf es 6)
theorem WantW.below {w w' : World} {es : Nat → Addr} (h : WantW w es) (hb : Below w.heap.size w w') : WantW w' es := ⟨h.g.below hb,cell_below' h.shape hb,cell_below' h.none hb⟩
theorem WantW.ask {w : World} {es : Nat → Addr} (h : WantW w es) : AskE w es := ⟨h.g.s.a,h.none⟩
def OfTells (es : Nat → Addr) (fs : Tf.Fs) (l : List Ru) (out : List UInt8) (w : World) (s : List UInt8) (ev : Value) : Prop :=
 ((Ru.fault l).1 ≠ 0 ∧ s = [] ∧ ErrV w es ev (Ru.fault l)) ∨
 ((Ru.fault l).1 = 0 ∧ (∀ x ∈ l,x.out ≠ out) ∧ s = [] ∧ ev = erOf es 6) ∨
 ((Ru.fault l).1 = 0 ∧ (∃ x ∈ l,x.out = out) ∧ Ru.order l (Bf.need l [out]) = none ∧ s = [] ∧ ev = erOf es 9) ∨
 ((Ru.fault l).1 = 0 ∧ (∃ x ∈ l,x.out = out) ∧ (Ru.order l (Bf.need l [out])).isSome = true ∧ s = (Bf.want Af.actO fs l out).1 ∧ ev = erOf es (Bf.want Af.actO fs l out).2)
theorem containsI_of {W : World} {nb : Nat} {v : Value} {ll : List Nat} (hc : W.cell? ⟨nb,0,none⟩ = some v) (hrow : NIRow W v ll) (hl : ll.length ≤ 1000) (x : Nat) : Calls Tryz.prog 115 #[nv x,.pointer (some ⟨nb,0,none⟩)] W fun e w' => e = .returned (.bool (decide (x ∈ ll))) ∧ Below W.heap.size W w' := by
 have HC := hid1 (slContainsI_calls v ll x hrow (by omega))
 obtain ⟨p,c,rfl,-⟩ := hrow
 go_enter Tryz.func115,Tryz.ntmps115
 go_wp2_with fail
 refine HC.out.mono ?_
 rintro e w1 ⟨rfl,rfl⟩
 go_wp2
 go_ret
 exact ⟨rfl,Below.refl _ _⟩
theorem ofOrder_calls {es : Nat → Addr} {V : World} (hG : GraphW V es) (lv : Value) (l : List Ru) (hrow : RRow V lv l) (hl : l.length ≤ 1000) (hS : ∀ x ∈ l,x.Small) (nb : Nat) (v : Value) (ll : List Nat) (hc : V.cell? ⟨nb,0,none⟩ = some v) (hr : NIRow V v ll) (hll : ll.length ≤ 1000) (hcl : ∀ i k,i ∈ ll → Ru.needs l i k = true → k ∈ ll) :
  Calls Tryz.prog 114 #[lv,.func (.func 115) #[] #[.pointer (some ⟨nb,0,none⟩)]] V fun e w' => ∃ u ev,e = .returned (.tuple #[u,ev]) ∧ Below V.heap.size V w' ∧ SomeTells es l (fun k => decide (k ∈ ll)) w' u ev :=
 grOrderOf_calls hG lv l hrow hl hS 115 #[.pointer (some ⟨nb,0,none⟩)] (enters_of Tryz.func115 (by kernel_rfl) rfl) (fun k => decide (k ∈ ll)) (hid1 fun i k hi hk => by
  simp only [decide_eq_true_eq] at hi ⊢
  exact hcl i k hi hk) (hid1 fun x W' _ gW => containsI_of (cell_below' hc gW) (hr.below gW) hll x)
theorem wOf_calls {es : Nat → Addr} {W : World} (hW : WantW W es) {Bt tb : Nat} {fs : Tf.Fs} {o : Option Nat} (hT : TreeAt Bt W tb fs o) (hby : ∀ x b,Tf.get fs x = some b → b.length ≤ 2000) (lv : Value) (l : List Ru) (hrow : RRow W lv l) (hl : l.length ≤ 1000) (hS : ∀ x ∈ l,x.Small) (out : List UInt8) (hout : out.length ≤ 1000) :
  Calls Tryz.prog 79 #[Ptr tb,lv,.string (ba out)] W fun e w' => ∃ s ev,e = .returned (.tuple #[.string (ba s),ev]) ∧ Below W.heap.size W w' ∧ OfTells es fs l out w' s ev := by
 have HSh := hid1 (ruSheet_calls hW.g.s l (by omega) lv hrow hS)
 have HNd := hid1 fun (V : World) (g : Below W.heap.size W V) (ov : Value) (hov : XRow V ov [out]) => gNeeds_calls (hW.g.s.below g) (cell_below' hW.none g) lv l (hrow.below g) hl hS ov [out] hov (by simp)
 have HOf := hid1 fun (V : World) (g : Below W.heap.size W V) => ofOrder_calls (hW.g.below g) lv l (hrow.below g) hl hS
 have HAk := hid1 fun (V : World) (g : Below W.heap.size W V) (h40 : l.length ≤ 40) (hA : ∀ i j (hi : i < l.length) (hj : j < l.length),l[i].out = l[j].out → i = j) => wAsker_calls (es := es) (hW.ask.below g) ⟨_,_,hT.below g⟩ hby lv (hrow.below g) h40 hS hA
 have hN := hW.none
 obtain ⟨pl,cl,rfl,-⟩ := hrow
 go_enter Tryz.func79,Tryz.ntmps79
 go_wp2_with fail
 refine HSh.out.mono ?_
 rintro e w1 ⟨u1,rfl,g1,hE⟩
 by_cases hf : (Ru.fault l).1 = 0
 ·obtain ⟨h40,hA⟩ := Ru.fault_ok hf
  have hu1 : u1 = .nilIface := by
   rcases hE with ⟨_,h,_⟩ | ⟨pb,m,_,_,h,_⟩
   ·rw [h,hf];rfl
   ·rw [hf] at h;cases h
  subst hu1
  have HFt := hid1 hf
  have HAp : Hid (∀ i j (hi : i < l.length) (hj : j < l.length),l[i].out = l[j].out → i = j) := hid1 hA
  have gA : Below w1.heap.size w1 (w1.alloc (.cells #[.string (ba out)] 9)) := (Below.refl _ w1).alloc (Nat.le_refl _) _
  have G2 := below_then g1 gA
  have HX : Hid (XRow (w1.alloc (.cells #[.string (ba out)] 9)) (.slice (some ⟨w1.heap.size,0,none⟩) 1 1) [out]) := hid1 ⟨_,1,rfl,by simp,(fun h => by cases h),fun _ => ⟨_,0,rfl,by simp,fun j hj => by
   obtain rfl : j = 0 := by simpa using hj
   exact cell_of_row (j := 0) (row_newW w1 _) rfl⟩⟩
  have HN1 := hid1 (HNd.out _ G2 _ HX.out)
  go_wp2_with fail
  refine HN1.out.mono ?_
  rintro e w2 ⟨u2,ev,rfl,g2,hT1⟩
  have G3 := below_then G2 g2
  rcases hT1 with ⟨hf,_⟩ | ⟨hf,k,hk,h1,h2,hE,pn,cn,rfl⟩ | ⟨hf,h1,rfl,f,hN0,hrw⟩
  ·exact absurd HFt.out hf
  ·obtain rfl : k = 0 := by simpa using hk
   have HP : Hid ((Ru.fault l).1 = 0 ∧ (∀ x ∈ l,x.out ≠ out)) := hid1 ⟨HFt.out,fun x hx => h1 x hx⟩
   obtain ⟨t,x,rfl⟩ := hE.some (by simp)
   have gB : Below w2.heap.size w2 (w2.alloc (.cells #[.slice pn 0 cn] 147)) := (Below.refl _ w2).alloc (Nat.le_refl _) _
   have G4 := below_then G3 gB
   have n4 := cell_below' hN G4
   go_wp2
   go_region
   go_wp2
   go_ret2
   exact ⟨_,_,rfl,below_draws G4 1,.inr (.inl ⟨HP.out.1,HP.out.2,rfl,rfl⟩)⟩
  ·have HR1 := hid1 hrw
   obtain ⟨pn,cn,rfl,-⟩ := hrw
   have gB : Below w2.heap.size w2 (w2.alloc (.cells #[.slice pn ((List.range l.length).filter f).length cn] 147)) := (Below.refl _ w2).alloc (Nat.le_refl _) _
   have G4 := below_then G3 gB
   have hfl : ((List.range l.length).filter f).length ≤ 40 := Nat.le_trans (by simpa using List.length_filter_le f (List.range l.length)) h40
   have hch : ∀ k,k < l.length → (decide (k ∈ (List.range l.length).filter f)) = Bf.need l [out] k := fun k hk => by
    rw [Bf.need_eq hN0 hk]
    simp [hk]
   have HCh := hid1 (Ru.order_congr2 hch)
   have HO := hid1 (HOf.out _ G4 w2.heap.size _ _ (by simp) (HR1.out.below gB) (by omega) fun i k hi hk => by
    simp only [List.mem_filter,List.mem_range] at hi ⊢
    exact ⟨(Ru.needs_lt hk).2,hN0.closed i k hi.2 hk⟩)
   unfold SomeTells at HO
   rw [HCh.out] at HO
   have HEx : Hid (∃ x ∈ l,x.out = out) := hid1 (h1 0 (by simp))
   have HN := hid1 hN0
   go_wp2_with fail
   refine HO.out.mono ?_
   rintro e w3 ⟨u3,ev3,rfl,g3,hT3⟩
   have G5 := below_then G4 g3
   rcases hT3 with ⟨h0,-⟩ | ⟨-,hnone,rfl,pn3,cn3,rfl⟩ | ⟨-,ord,hsome,rfl,hr3⟩
   ·exact absurd HFt.out h0
   ·have HP : Hid (OfTells es fs l out w3 [] (erOf es 9)) := hid1 (.inr (.inr (.inl ⟨HFt.out,HEx.out,hnone,rfl,rfl⟩)))
    obtain ⟨t9,x9,e9⟩ : ∃ t x,erOf es 9 = .iface t x := ⟨_,_,rfl⟩
    rw [e9] at HP ⊢
    go_wp2
    go_ret2
    exact ⟨_,_,rfl,G5,HP.out⟩
   ·obtain ⟨ht,hall⟩ := Ru.order_some hsome
    obtain ⟨hnd,hlt⟩ := Ru.order_nodup hsome
    have HSome : Hid ((Ru.order l (Bf.need l [out])).isSome = true) := hid1 (by rw [hsome];rfl)
    have HIn : Hid (∀ i,Bf.mkr l out = some i → i ∈ ord) := hid1 fun i hi => by
     obtain ⟨hk,ek⟩ := Bf.mkr_of hi
     refine hall i hk ?_
     rw [Bf.need_eq HN.out hk]
     exact HN.out.start i (by unfold Ru.base;rw [List.getElem?_eq_getElem hk];simp [ek])
    have HA3 := hid1 (HAk.out w3 G5 h40 HAp.out)
    have HAsk : Hid (∀ uv L W',AskB es tb fs l uv w3 → Asks es tb fs l uv w3 L W' → Calls Tryz.prog 163 (#[.string (ba out)] ++ L.caps) W' fun e w' => e = .returned (.tuple #[.string (ba (Bf.want Af.actO fs l out).1),erOf es (Bf.want Af.actO fs l out).2]) ∧ Asks es tb fs l uv w3 L w' ∧ Only (fun j => j = L.dm) W' w') := hid1 fun uv L W' hB hAs => ask_tells hB ht hnd hlt out hout HIn.out W' hAs
    obtain ⟨p3,c3,rfl,-⟩ := hr3
    go_wp2_with fail
    refine HA3.out.mono ?_
    rintro e w4 ⟨uv,L,hB4,rfl,hA4⟩
    have HT := hid1 (HAsk.out uv L w4 hB4 hA4)
    have G6 := below_then G5 hA4.base
    have hnew := hA4.new
    have eg := wAsk1_enters
    have HEr : Hid (OfTells es fs l out w4 (Bf.want Af.actO fs l out).1 (erOf es (Bf.want Af.actO fs l out).2)) := hid1 (.inr (.inr (.inr ⟨HFt.out,HEx.out,HSome.out,rfl,rfl⟩)))
    have hz5 := G5.size
    generalize Bf.want Af.actO fs l out = r at *
    go_wp2_with fail
    refine HT.out.mono ?_
    rintro e w5 ⟨rfl,hA5,hO5⟩
    have G7 : Below W.heap.size W w5 := G6.trans (hO5.below (fun j hj => by rw [hj];omega) G6.size)
    go_wp2
    go_ret2
    refine ⟨_,_,rfl,G7,?_⟩
    rcases HEr.out with h | h | h | h
    ·exact absurd HFt.out h.1
    ·exact .inr (.inl h)
    ·exact .inr (.inr (.inl h))
    ·exact .inr (.inr (.inr h))
 ·have HP : Hid (OfTells es fs l out w1 [] u1) := hid1 (.inl ⟨hf,rfl,hE⟩)
  obtain ⟨t,x,rfl⟩ := hE.some hf
  go_wp2
  go_ret2
  exact ⟨_,_,rfl,g1,HP.out⟩
end Go.Proofs.YtdljhggillgpfaaGreatDoor
