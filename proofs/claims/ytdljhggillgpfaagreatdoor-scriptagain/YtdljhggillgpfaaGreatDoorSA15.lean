import Derived.Test.YtdljhggillgpfaaGreatDoorSA14
set_option maxRecDepth 100000
set_option maxHeartbeats 4000000
namespace Go.Proofs.YtdljhggillgpfaaGreatDoor
open Go.RowKit Go.Shelf Go.Lib
theorem searchR_calls {w : World} {es : Nat → Addr} (v : Value) (l : List Ru) (hrow : RRow w v l) (hl : l.length ≤ 1000000) (f : Nat) (caps : Array Value) (eg : ∀ args w,(callFunc f args).run Tryz.prog w = .ok (.enter f args) w) (c : Nat → Nat)
  (HS : Hid (∀ k (hk : k < l.length) W,Below w.heap.size w W → ∀ u,XRow W u l[k].ins → Calls Tryz.prog f (#[.int .i64 k,ruV l[k] u] ++ caps) W fun e w' => e = .returned (erOf es (c k)) ∧ Below W.heap.size W w')) :
  Calls Tryz.prog 138 #[v,.func (.func f) #[] caps] w fun e w' => ∃ u,e = .returned u ∧ Below w.heap.size w w' ∧ Told w' es l.length c u := by
 obtain ⟨p,cap,rfl,hcap,_,hin⟩ := hrow
 have HI := hid1 hin
 go_enter Tryz.func138,Tryz.ntmps138
 go_wp2
 go_loopw [10] (fun i wr => ∃ k : Nat,k ≤ l.length ∧ i = .int .i64 k ∧ (∀ j,j < k → c j = 0) ∧ Below w.heap.size w wr) (fun i _ => l.length - (intOf i).toNat)
 case atStart => exact ⟨0,Nat.zero_le _,rfl,fun j h => by omega,Below.refl _ _⟩
 case round =>
  obtain ⟨k,hk,rfl,hz,hB⟩ := hrel
  have HZ := hid1 hz
  have c0 : (0 : Int) ≤ (k : Int) := by omega
  by_cases hlt : k < l.length
  ·have c1 : (k : Int) < (l.length : Int) := by omega
   obtain ⟨g',o,rfl,hg,hcur⟩ := HI.out (by intro e;rw [e] at hlt;simp at hlt)
   obtain ⟨u0,u1,u2,u,u3,ux⟩ := hcur k hlt
   have d0 := cell_below' u0 hB
   have d1 := cell_below' u1 hB
   have d2 := cell_below' u2 hB
   have d3 := cell_below' u3 hB
   have HC := hid1 fun W (g : Below wr.heap.size wr W) => HS.out k hlt W (below_then hB g) u (ux.below (below_then hB g))
   have HQ := hid1 ux
   generalize l[k] = y at *
   obtain ⟨p3,cap3,rfl,-⟩ := HQ.out
   have hst : ∀ (a : Addr) (m : Mode) (W : World),Sem.run Tryz.prog (store a (.slice p3 y.ins.length cap3) m) W = stored Tryz.prog W a (.slice p3 y.ins.length cap3) m := fun a m W => run_store _ W a _ m rfl
   cases hc : c k with
   | zero =>
    rw [hc] at HC
    simp only [erOf] at HC
    have HN : Hid (∀ j,j < k + 1 → c j = 0) := hid1 fun j hj => by
     rcases Nat.lt_or_ge j k with h | h
     ·exact HZ.out j h
     ·obtain rfl : j = k := by omega
      exact hc
    go_wp2_with fail
    refine (HC.out _ ((Below.refl _ wr).alloc (Nat.le_refl _) _)).mono ?_
    rintro e w1 ⟨rfl,hb1⟩
    have g1 := below_then (hB.alloc hB.size _) hb1
    go_wp2
    exact ⟨⟨k + 1,by omega,by go_num,HN.out,g1⟩,by simp [intOf];omega⟩
   | succ m =>
    rw [hc] at HC
    have HE := hid1 hc
    simp only [erOf] at HC
    go_wp2_with fail
    refine (HC.out _ ((Below.refl _ wr).alloc (Nat.le_refl _) _)).mono ?_
    rintro e w1 ⟨rfl,hb1⟩
    have g1 := below_then (hB.alloc hB.size _) hb1
    go_wp2
    go_ret
    refine ⟨_,rfl,g1.alloc g1.size _,.inr ⟨k,w1.heap.size,hlt,by rw [HE.out];omega,HZ.out,rfl,?_,?_⟩⟩
    ·simp
    ·rw [HE.out]
     simp [erOf]
  ·have c1 : (l.length : Int) ≤ (k : Int) := by omega
   have HN : Hid (∀ j,j < l.length → c j = 0) := hid1 fun j hj => HZ.out j (by omega)
   go_wp2
   go_ret
   exact ⟨_,rfl,hB,.inl ⟨HN.out,rfl⟩⟩
theorem ruSheetW_calls {w : World} {es : Nat → Addr} (hW : SheetW w es) (l : List Ru) (hl : l.length ≤ 1000000) (v : Value) (hrow : RRow w v l) (hS : ∀ x ∈ l,x.Wide) :
  Calls Tryz.prog 100 #[v] w fun e w' => ∃ u,e = .returned u ∧ Below w.heap.size w w' ∧ ErrV w' es u (Ru.fault l) := by
 have hx := hW.e.c1
 have hB0 : Below w.heap.size w (w.alloc (.cells #[v] 49)) := (Below.refl _ w).alloc (Nat.le_refl _) _
 have hv0 : (w.alloc (.cells #[v] 49)).cell? ⟨w.heap.size,0,none⟩ = some v := by simp
 have hx0 := cell_below' hx hB0
 have HS := hid1 (searchR_calls (w := w.alloc (.cells #[v] 49)) (es := es) v l (hrow.below hB0) hl 139 #[.pointer (some ⟨w.heap.size,0,none⟩)] (enters_of Tryz.func139 (by kernel_rfl) rfl) (Ru.errAt l)
  (hid1 fun k hk W g u hu => ruSheet1_calls (hW.below (below_then hB0 g)) l hl v ((hrow.below hB0).below g) hS w.heap.size k hk (cell_below' hv0 g) u hu))
 have hle := Ru.errAt_le l
 have HM : Hid (40 < l.length → Ru.fault l = (2,-1)) := hid1 Ru.fault_many
 have HT : Hid (l.length ≤ 40 → ∀ (W : World) u,Told W es l.length (Ru.errAt l) u → ErrV W es u (Ru.fault l)) := hid1 fun h40 W u ht => by
  rcases ht with ⟨hz,rfl⟩ | ⟨k,pb,hk,hc,h0,rfl,h1,h2⟩
  ·rw [Ru.fault_none h40 hz]
   exact .nil
  ·rw [Ru.fault_some h40 hk hc h0]
   rcases hle k with h | ⟨m,hm,h⟩
   ·exact absurd h hc
   ·exact .inr ⟨pb,m,rfl,hm,h,h1,h2⟩
 obtain ⟨p,cap,rfl,-⟩ := hrow
 by_cases h40 : 40 < l.length
 ·have z1 : (40 : Int) < (l.length : Int) := by omega
  have HQ := hid1 (HM.out h40)
  generalize l.length = n at *
  go_enter Tryz.func100,Tryz.ntmps100
  go_wp2
  go_ret
  exact ⟨_,rfl,hB0,by rw [HQ.out];exact ErrV.bare (by omega)⟩
 ·have z1 : (l.length : Int) ≤ 40 := by omega
  have HQ := hid1 (HT.out (by omega))
  generalize l.length = n at *
  go_enter Tryz.func100,Tryz.ntmps100
  go_wp2_with fail
  refine HS.out.mono ?_
  rintro e w1 ⟨u,rfl,g,ht⟩
  have g1 := below_then hB0 g
  have HE := hid1 (HQ.out _ _ ht)
  go_wp2
  go_ret
  exact ⟨_,rfl,g1,HE.out⟩
theorem ruSheet_calls {w : World} {es : Nat → Addr} (hW : SheetW w es) (l : List Ru) (hl : l.length ≤ 1000000) (v : Value) (hrow : RRow w v l) (hS : ∀ x ∈ l,x.Small) :
  Calls Tryz.prog 100 #[v] w fun e w' => ∃ u,e = .returned u ∧ Below w.heap.size w w' ∧ ErrV w' es u (Ru.fault l) := ruSheetW_calls hW l hl v hrow fun x hx => (hS x hx).wide
namespace Ru
def Leaf (l : List Ru) (x : List UInt8) : Prop := (∃ y ∈ l,x ∈ y.ins) ∧ ∀ z ∈ l,z.out ≠ x
structure Leaves (l : List Ru) (r : List (List UInt8)) : Prop where
 rises : r.Pairwise (fun x y => x ≤ y)
 once : r.Nodup
 mem : ∀ x,x ∈ r ↔ Leaf l x
theorem Leaves.unique {l : List Ru} {r r' : List (List UInt8)} (h : Leaves l r) (h' : Leaves l r') : r = r' := by
 have hp : r.Perm r' := (List.perm_ext_iff_of_nodup h.once h'.once).2 fun x => (h.mem x).trans (h'.mem x).symm
 refine List.Perm.eq_of_pairwise (le := fun x y : List UInt8 => x ≤ y) ?_ h.rises h'.rises hp
 intro a b _ _ h1 h2
 exact List.le_antisymm h1 h2
end Ru
theorem TRow.irow {w : World} {v : Value} {l : List (List UInt8)} (h : TRow w v l) : IRow w v l := by
 obtain ⟨p,cap,e,_,h1⟩ := h
 refine ⟨p,cap,e,fun hl => ?_⟩
 obtain ⟨g,cur,e,hg,hc⟩ := h1 hl
 exact ⟨g,0,e,(Array.getElem?_eq_some_iff.1 hg).1,fun j hj => by rw [Nat.zero_add];exact cell_of_row hg (hc j hj)⟩
end Go.Proofs.YtdljhggillgpfaaGreatDoor
namespace Go.Proofs.YtdljhggillgpfaaGreatDoor
open Go.RowKit Go.Shelf Go.Lib
def NIRow (w : World) (v : Value) (l : List Nat) : Prop :=
 ∃ p cap,v = .slice p l.length cap ∧ (l ≠ [] → ∃ g o,p = some ⟨g,o,none⟩ ∧ g < w.heap.size ∧ ∀ j (hj : j < l.length),w.cell? ⟨g,o + j,none⟩ = some (nv l[j]))
theorem NIRow.below {w w' : World} {v : Value} {l : List Nat} (h : NIRow w v l) (hb : Below w.heap.size w w') : NIRow w' v l := by
 obtain ⟨p,cap,e,h1⟩ := h
 refine ⟨p,cap,e,fun hl => ?_⟩
 obtain ⟨g,o,e,hg,hc⟩ := h1 hl
 exact ⟨g,o,e,Nat.lt_of_lt_of_le hg hb.size,fun j hj => (hb.cell (p := ⟨g,o + j,none⟩) hg).trans (hc j hj)⟩
theorem NRow.ni {w : World} {v : Value} {l : List Nat} (h : NRow w v l) : NIRow w v l := by
 obtain ⟨p,cap,e,_,h1⟩ := h
 refine ⟨p,cap,e,fun hl => ?_⟩
 obtain ⟨g,cur,e,hg,hc⟩ := h1 hl
 exact ⟨g,0,e,(Array.getElem?_eq_some_iff.1 hg).1,fun j hj => by rw [Nat.zero_add];exact cell_of_row hg (hc j hj)⟩
end Go.Proofs.YtdljhggillgpfaaGreatDoor
namespace Go.Proofs.YtdljhggillgpfaaGreatDoor
open Go.RowKit Go.Shelf Go.Lib
def NoRow (v : Value) : Prop := ∃ p cap,v = .slice p 0 cap
abbrev allB1 : Nat → Bool := fun _ => true
def OrderTells (es : Nat → Addr) (l : List Ru) (w : World) (u ev : Value) : Prop :=
 ((Ru.fault l).1 ≠ 0 ∧ ErrV w es ev (Ru.fault l) ∧ NoRow u) ∨
 ((Ru.fault l).1 = 0 ∧ Ru.order l allB1 = none ∧ ev = erOf es 9 ∧ NoRow u) ∨
 ((Ru.fault l).1 = 0 ∧ ∃ o,Ru.order l allB1 = some o ∧ ev = .nilIface ∧ NIRow w u o)
def NeedsTells (es : Nat → Addr) (l : List Ru) (outs : List (List UInt8)) (w : World) (u ev : Value) : Prop :=
 ((Ru.fault l).1 ≠ 0 ∧ ErrV w es ev (Ru.fault l) ∧ NoRow u) ∨
 ((Ru.fault l).1 = 0 ∧ ∃ k,∃ hk : k < outs.length,(∀ x ∈ l,x.out ≠ outs[k]) ∧ (∀ j (hj : j < outs.length),j < k → ∃ x ∈ l,x.out = outs[j]) ∧ ErrV w es ev (6,(k : Int)) ∧ NoRow u) ∨
 ((Ru.fault l).1 = 0 ∧ (∀ j (hj : j < outs.length),∃ x ∈ l,x.out = outs[j]) ∧ ev = .nilIface ∧ ∃ f,Ru.Needed l outs f ∧ NIRow w u ((List.range l.length).filter f))
def LeavesTells (es : Nat → Addr) (l : List Ru) (w : World) (u ev : Value) : Prop :=
 ((Ru.fault l).1 ≠ 0 ∧ ErrV w es ev (Ru.fault l) ∧ NoRow u) ∨
 ((Ru.fault l).1 = 0 ∧ ev = .nilIface ∧ ∃ r,Ru.Leaves l r ∧ IRow w u r)
structure GraphW (w : World) (es : Nat → Addr) : Prop where
 s : SheetW w es
 cyc : w.cell? ⟨8,0,none⟩ = some (erOf es 9)
theorem GraphW.below {w w' : World} {es : Nat → Addr} (h : GraphW w es) (hb : Below w.heap.size w w') : GraphW w' es := ⟨h.s.below hb,cell_below' h.cyc hb⟩
theorem ErrV.some {w : World} {es : Nat → Addr} {v : Value} {f : Nat × Int} (h : ErrV w es v f) (hf : f.1 ≠ 0) : ∃ t u,v = .iface t u := by
 rcases h with ⟨_,rfl,_⟩ | ⟨pb,m,rfl,_⟩
 ·obtain ⟨c,n⟩ := f
  cases c with
  | zero => exact absurd rfl hf
  | succ k => exact ⟨_,_,rfl⟩
 ·exact ⟨_,_,rfl⟩
end Go.Proofs.YtdljhggillgpfaaGreatDoor
