import Derived.Test.YtflbofdpfgkmcaaGreatDoorRP43
set_option maxRecDepth 100000
set_option maxHeartbeats 16000000
namespace Go.Proofs.YtflbofdpfgkmcaaGreatDoor
namespace Lb
abbrev fs : Tf.Fs := [([97],[120])]
abbrev r : Ru := ⟨[98],[117,112,112,101,114],[],[[97]]⟩
abbrev l : List Ru := [r]
abbrev outs : List (List UInt8) := [[98]]
abbrev key : List UInt8 := Kp.key [117,112,112,101,114] [] [[120]]
abbrev d : Bf.Bd := ⟨fs,l,fun k => if k = 0 then .waits else .no⟩
theorem fault0 : (Ru.fault l).1 = 0 := by kernel_rfl
theorem needs0 (i k : Nat) : Ru.needs l i k = false := by
 cases hn : Ru.needs l i k with
 | false => rfl
 | true =>
  obtain ⟨h1,h2⟩ := Ru.needs_lt hn
  obtain rfl : i = 0 := by simp at h1;omega
  obtain rfl : k = 0 := by simp at h2;omega
  have : Ru.needs l 0 0 = false := by decide
  rw [this] at hn
  cases hn
theorem needed : Ru.Needed l outs (fun k => decide (k = 0)) := by
 have hb : Ru.base l outs 0 = true := by decide
 refine ⟨fun k hk => ?_,fun i k _ h => ?_,fun P h1 _ k hk h => ?_⟩
 ·cases k with
  | zero => rfl
  | succ k =>
   simp [Ru.base] at hk
 ·rw [needs0] at h
  cases h
 ·obtain rfl : k = 0 := by simp at hk;omega
  exact h1 0 hb
theorem need0 : Bf.need l outs 0 = true := by
 rw [Bf.need_eq needed (by decide)]
 rfl
theorem init0 : Bf.init fs l outs = d := by
 unfold Bf.init
 congr 1
 funext k
 by_cases h : k = 0
 ·subst h
  rw [need0]
  rfl
 ·rw [Bf.need_out (by simp;omega)]
  simp [h]
theorem order0 : (Ru.order l (Bf.need l outs)).isSome = true := by
 rw [Ru.order_congr2 (g := fun k => decide (k = 0)) fun k hk => Bf.need_eq needed hk]
 decide
theorem ready0 : d.isReady 0 = true := Bf.ready_of rfl fun k _ hn => by
 rw [show Ru.needs d.l 0 k = false from needs0 0 k] at hn
 cases hn
theorem act0 : Af.actO [117,112,112,101,114] [] [[120]] = ([88],0) := by decide
theorem find1 (k b : List UInt8) : Cf.find [(k,b)] k = some b := by simp [Cf.find]
theorem get1 (k b : List UInt8) : Cf.get 3 [(k,b)] k = [(k,b)] := by
 unfold Cf.get
 rw [find1]
 simp [Cf.put,Cf.rm,Cf.cut]
theorem run1 : Bf.run Af.actO (some (3,[])) d 0 = ⟨false,0,d.set 0 (.done [88] false),some (3,[(key,[88])])⟩ := by
 rw [show (0 : Int) = ((0 : Nat) : Int) from rfl,Bf.run_ready _ _ _ _ (by decide) ready0]
 unfold Bf.go
 have e1 : d.ins 0 = some [[120]] := by decide
 have e2 : d.rule 0 = r := rfl
 rw [e1]
 simp only [e2]
 have e3 : Bf.cfind (some (3,[])) (Kp.key r.kind r.word [[120]]) = none := rfl
 rw [e3]
 simp only
 rw [act0,if_pos rfl]
 rfl
theorem run2 : Bf.run Af.actO (some (3,[(key,[88])])) d 0 = ⟨true,0,d.set 0 (.done [88] true),some (3,[(key,[88])])⟩ := by
 rw [show (0 : Int) = ((0 : Nat) : Int) from rfl,Bf.run_ready _ _ _ _ (by decide) ready0]
 unfold Bf.go
 have e1 : d.ins 0 = some [[120]] := by decide
 have e2 : d.rule 0 = r := rfl
 rw [e1]
 simp only [e2]
 have e3 : Bf.cfind (some (3,[(key,[88])])) (Kp.key r.kind r.word [[120]]) = some [88] := find1 _ _
 have e4 : Bf.cget (some (3,[(key,[88])])) (Kp.key r.kind r.word [[120]]) = some (3,[(key,[88])]) := congrArg (fun x => some (3,x)) (get1 _ _)
 rw [e3]
 simp only [e4]
theorem fit0 : Bf.Fit d := by
 refine ⟨fun f hf => ?_,fun k => ?_,fun k => ?_⟩
 ·obtain rfl := List.mem_singleton.1 hf
  decide
 ·show (if k = 0 then Bf.St.waits else .no).out.length ≤ 2000
  split <;> decide
 ·show (if k = 0 then Bf.St.waits else .no).why ≤ 12
  split <;> decide
end Lb
end Go.Proofs.YtflbofdpfgkmcaaGreatDoor
namespace Go.Proofs.YtflbofdpfgkmcaaGreatDoor
open Go.RowKit Go.Shelf Go.Lib
theorem Tryz.infoRule : (Tryz.prog.info? 90).map (fun i => (i.zero,i.size,i.bytes)) = some (some (.agg #[.string ⟨#[]⟩,.string ⟨#[]⟩,.string ⟨#[]⟩,.slice none 0 0]),4,72) := by kernel_rfl
theorem row_low4 {w : World} {base : Nat} {e : TypeId} {size : Nat} {v : Value} {n : Nat} {xs : List Value} (h : w.ownsRow base e size v n xs) : ∀ k,v.ownBlock = some k → base ≤ k := by
 intro k hk
 rcases h.2 with ⟨rfl,_⟩ | ⟨g,cap,cur,rfl,hb,_⟩
 ·cases hk
 ·cases hk;exact hb
def ruCells (l : List (Ru × Value)) : List Value := l.flatMap fun x => [.string (ba x.1.out),.string (ba x.1.kind),.string (ba x.1.word),x.2]
theorem ruCells_snoc (l : List (Ru × Value)) (x : Ru × Value) : ruCells (l ++ [x]) = ruCells l ++ [.string (ba x.1.out),.string (ba x.1.kind),.string (ba x.1.word),x.2] := by simp [ruCells]
theorem ruCells_at : ∀ (l : List (Ru × Value)) (j : Nat) (h : j < l.length),(ruCells l)[j * 4]? = some (.string (ba l[j].1.out)) ∧ (ruCells l)[j * 4 + 1]? = some (.string (ba l[j].1.kind)) ∧ (ruCells l)[j * 4 + 2]? = some (.string (ba l[j].1.word)) ∧ (ruCells l)[j * 4 + 3]? = some l[j].2
 | x :: r,0,_ => by simp [ruCells]
 | x :: r,j + 1,h => by
  have ih := ruCells_at r j (by simpa using h)
  have e : ruCells (x :: r) = .string (ba x.1.out) :: .string (ba x.1.kind) :: .string (ba x.1.word) :: x.2 :: ruCells r := by simp [ruCells]
  rw [e,show (j + 1) * 4 = j * 4 + 1 + 1 + 1 + 1 by omega]
  simpa [Nat.add_assoc] using ih
def XT (w : World) (v : Value) (l : List (List UInt8)) : Prop := XRow w v l ∧ TRow w v l
theorem XT.below {w w' : World} {v : Value} {l : List (List UInt8)} (h : XT w v l) (hb : Below w.heap.size w w') : XT w' v l := ⟨h.1.below hb,h.2.below hb⟩
theorem XT.grown {w w1 : World} {v : Value} {l : List (List UInt8)} {base e : Nat} {size n : Nat} {u : Value} {xs : List Value} (h : XT w v l) (hrow : w.ownsRow base e size u n xs) (he : e ≠ 9) (hg : w.grownBy w1 u.ownBlock) : XT w1 v l := by
 obtain ⟨⟨p,cap,rfl,h0,hn,h1⟩,⟨p2,cap2,e2,h02,h2⟩⟩ := h
 obtain ⟨rfl,rfl⟩ : p = p2 ∧ cap = cap2 := by simpa using e2
 have key : ∀ (g : Nat) (cur : Array Value),w.heap[g]? = some (Obj.cells cur 9 (0,0)) → w1.heap[g]? = some (Obj.cells cur 9 (0,0)) := fun g cur hgc => by
  refine (hg.block g (Array.getElem?_eq_some_iff.1 hgc).1 ?_).trans hgc
  rcases hrow.2 with ⟨rfl,_⟩ | ⟨b,c,cu,rfl,_,hb,_⟩
  ·simp [Value.ownBlock]
  ·simp only [Value.ownBlock,ne_eq,Option.some.injEq]
   rintro rfl
   rw [hgc] at hb
   simp at hb
   exact he hb.2.symm
 refine ⟨⟨p,cap,rfl,h0,hn,fun hl => ?_⟩,⟨p,cap,rfl,h02,fun hl => ?_⟩⟩
 ·obtain ⟨g,cur,rfl,hgc,hc⟩ := h2 hl
  have := key g cur hgc
  exact ⟨g,0,rfl,(Array.getElem?_eq_some_iff.1 this).1,fun j hj => by rw [Nat.zero_add];exact cell_of_row this (hc j hj)⟩
 ·obtain ⟨g,cur,rfl,hgc,hc⟩ := h2 hl
  exact ⟨g,cur,rfl,key g cur hgc,hc⟩
theorem RRow.of_owns {w : World} {base : Nat} {v : Value} {l : List (Ru × Value)} {n : Nat} (h : w.ownsRow base 90 4 v n (ruCells l)) (hn : n = l.length) (hx : ∀ x ∈ l,XRow w x.2 x.1.ins) : RRow w v (l.map Prod.fst) := by
 subst hn
 rcases h.2 with ⟨rfl,hn⟩ | ⟨g,cap,cur,rfl,_,hb,h1,_,_,h4⟩
 ·obtain rfl : l = [] := by simpa using hn
  exact RRow.nil w
 ·refine ⟨some ⟨g,0,none⟩,cap,by simp,by simpa using h1,fun h => (by cases h),fun _ => ⟨g,0,rfl,(Array.getElem?_eq_some_iff.1 hb).1,fun j hj => ?_⟩⟩
  have hj' : j < l.length := by simpa using hj
  have key : ∀ i x,i < l.length * 4 → (ruCells l)[i]? = some x → w.cell? ⟨g,i,none⟩ = some x := fun i x hi hx => by
   have := congrArg (fun y => y[i]?) h4
   simp only [List.getElem?_take,hi,if_true,hx,Array.getElem?_toList] at this
   exact cell_of_row hb this
  obtain ⟨a0,a1,a2,a3⟩ := ruCells_at l j hj'
  rw [Nat.zero_add,List.getElem_map]
  exact ⟨key _ _ (by omega) a0,key _ _ (by omega) a1,key _ _ (by omega) a2,_,key _ _ (by omega) a3,hx _ (List.getElem_mem hj')⟩
theorem four_new (W : World) (x0 x1 x2 x3 : Value) (t : TypeId) (n : Nat) (hn : W.heap.size = n) (j : Nat) (u : Value) (h : [x0,x1,x2,x3][j]? = some u) : (W.alloc (.cells #[x0,x1,x2,x3] t)).cell? ((⟨n,0,none⟩ : Addr).add j) = some u := by
 subst hn
 rw [add_at2,Nat.zero_add,World.cell?_alloc_at _ _ _ _ rfl]
 simpa using h
theorem OwnRules_calls {w : World} (v : Value) (l : List Ru) (hl : l.length ≤ 1000) (hrow : RRow w v l) (h12 : ∀ x ∈ l,x.ins.length ≤ 12) :
  Calls Tryz.prog 38 #[v] w fun e w' => ∃ v',e = .returned v' ∧ RRow w' v' l ∧ Below w.heap.size w w' := by
 obtain ⟨i0,hi,hz0,hz1,hz2⟩ := info_parts Tryz.infoRule
 obtain ⟨p,cap,rfl,hcap,hnn,hin⟩ := hrow
 have HI := hid1 hin
 have H12 := hid1 h12
 clear hin hnn h12
 have zl : (l.length : Int) ≤ 1000 := by omega
 have n1 : World.ownsRow w w.heap.size 90 4 (.slice none 0 0) 0 (ruCells []) := World.ownsRow_nil _ _ _ _
 go_enter Tryz.func38,Tryz.ntmps38
 go_wp2
 go_loopw [3,4] (fun out i wr => ∃ dn : List (Ru × Value),dn.length ≤ l.length ∧ dn.map Prod.fst = l.take dn.length ∧ i = .int .i64 dn.length ∧ wr.ownsRow w.heap.size 90 4 out dn.length (ruCells dn) ∧ (∀ x ∈ dn,XT wr x.2 x.1.ins) ∧ Below w.heap.size w wr) (fun _ i _ => l.length - (intOf i).toNat)
 case atStart => exact ⟨[],by simp,by simp,rfl,n1,by simp,Below.refl _ _⟩
 case round =>
  obtain ⟨dn,hk,hdn,rfl,hown,hxt,hB⟩ := hrel
  have HD := hid1 hdn
  have HXT := hid1 hxt
  clear hdn hxt
  have c0 : (0 : Int) ≤ (dn.length : Int) := by omega
  by_cases hlt : dn.length < l.length
  ·have c1 : (dn.length : Int) < (l.length : Int) := by omega
   obtain ⟨g',o,rfl,hg,hcur⟩ := HI.out (by intro e;rw [e] at hlt;simp at hlt)
   obtain ⟨a0,a1,a2,u,a3,ax⟩ := hcur dn.length hlt
   have d3 := cell_below' a3 hB
   have HO := hid1 (OwnTexts_x u l[dn.length].ins (ax.below hB) (H12.out _ (List.getElem_mem hlt)))
   have HU := hid1 ax
   have HDN : Hid (∀ y : Value,(dn ++ [(l[dn.length],y)]).map Prod.fst = l.take (dn.length + 1)) := hid1 fun y => by
    rw [List.map_append,HD.out,List.take_succ_eq_append_getElem hlt]
    rfl
   clear hcur HI HD ax
   generalize l[dn.length] = y at *
   obtain ⟨p3,cap3,rfl,-⟩ := HU.out
   go_wp2_with fail
   refine HO.out.mono ?_
   rintro e w1 ⟨v1,rfl,hx1,ht1,hb1⟩
   have HXT1 : Hid (∀ x ∈ dn,XT w1 x.2 x.1.ins) := hid1 fun x hx => (HXT.out x hx).below hb1
   have HX1 : Hid (XT w1 v1 y.ins) := hid1 ⟨hx1,ht1⟩
   have hB1 := below_then hB hb1
   have hown1 : w1.ownsRow w.heap.size 90 4 u3 dn.length (ruCells dn) := hown.kept (row := none) ⟨hb1.os,hb1.tape,hb1.output,hb1.size,fun k hk _ => hb1.block k hk⟩ (by cases u3.ownBlock <;> simp)
   have d0 := cell_below' a0 hB1
   have d1 := cell_below' a1 hB1
   have d2 := cell_below' a2 hB1
   obtain ⟨p4,cap4,rfl,-⟩ := hx1
   clear hown HXT HO ht1 d3 a0 a1 a2 a3 hb1 hB
   have hownd : w1.drew.ownsRow w.heap.size 90 4 u3 dn.length (ruCells dn) := hown1
   have hsz := hB1.size
   go_wp2
   go_region_law (refine step_append_lies _ rfl (.tmp 18) (.tmp 36) 66 rfl w.heap.size 90 i0 (.agg #[.string ⟨#[]⟩,.string ⟨#[]⟩,.string ⟨#[]⟩,.slice none 0 0]) 4 72 Tryz.underlying66 hi hz0 hz1 hz2 rfl (by decide) _ _ _ rfl (hownd.alloc _) ⟨w1.heap.size,0,none⟩ 1 1 [.string (ba y.out),.string (ba y.kind),.string (ba y.word),.slice p4 y.ins.length cap4] rfl rfl (four_new _ _ _ _ _ _ _ (by simp)) (by simp [Value.oneCell']) (by decide) (by unfold maxLen;omega) (by omega) (by simp;omega) _ rfl ?_;intro g cap5 w2 hown2 hgrow0 hat hlt1;(have hgrow : (w1.alloc (Obj.cells #[Value.string (ba y.out),Value.string (ba y.kind),Value.string (ba y.word),Value.slice p4 y.ins.length cap4] 90)).drew.grownBy w2 u3.ownBlock := hgrow0);clear hgrow0 hat hlt1)
   all_goals
    go_wp2
    refine ⟨⟨dn ++ [(y,.slice p4 y.ins.length cap4)],?_,?_,by simp,?_,?_,?_⟩,?_⟩
    rotate_right
    ·simp [intOf];try omega
    ·simp;try omega
    ·have := HDN.out (.slice p4 y.ins.length cap4)
     simpa using this
    ·rw [ruCells_snoc]
     simpa using hown2
    ·intro x hx
     have hXd : ∀ (v : Value) (ls : List (List UInt8)),XT w1 v ls → XT w2 v ls := fun v ls h => by
      have hb2 : Below w1.heap.size w1 (w1.alloc (Obj.cells #[Value.string (ba y.out),Value.string (ba y.kind),Value.string (ba y.word),Value.slice p4 y.ins.length cap4] 90)).drew := ((Below.refl _ w1).alloc (Nat.le_refl _) _).drew
      exact (h.below hb2).grown (hownd.alloc _) (by decide) hgrow
     rcases List.mem_append.1 hx with h | h
     ·exact hXd _ _ (HXT1.out x h)
     ·obtain rfl := List.mem_singleton.1 h
      exact hXd _ _ HX1.out
    ·exact ((hB1.alloc hsz _).drew).grown hgrow (by simp;omega) (row_low4 hownd)
  ·have c1 : (l.length : Int) ≤ (dn.length : Int) := by omega
   have HN : Hid (RRow wr u3 l) := hid1 (by
    have := RRow.of_owns hown rfl (fun x hx => (HXT.out x hx).1)
    rwa [HD.out,List.take_of_length_le (by omega)] at this)
   clear HI HD
   go_wp2
   go_ret
   exact ⟨_,rfl,HN.out,hB⟩
end Go.Proofs.YtflbofdpfgkmcaaGreatDoor
namespace Go.Proofs.YtflbofdpfgkmcaaGreatDoor
open Go.RowKit Go.Shelf Go.Lib Go.Maps
theorem NewTells.get {es : Nat → Addr} {BAt : (Nat → Prop) → World → Value → Value → Bf.Bd → Prop} {n : Nat} {cv : Value} {w : World} {bv ev : Value} (h : NewTells es BAt n Lb.fs Lb.l Lb.outs cv w bv ev) : ev = .nilIface ∧ ∃ p S,bv = .pointer (some p) ∧ BAt S w bv cv Lb.d ∧ ∀ k,S k → n ≤ k := by
 rcases h with ⟨_,⟨h1,_⟩ | ⟨_,k,hk,h2,_⟩ | ⟨_,_,h3,_⟩⟩ | ⟨_,_,_,h4,⟨p,h5⟩,S,h6,h7⟩
 ·exact absurd Lb.fault0 h1
 ·obtain rfl : k = 0 := by simp at hk;omega
  exact absurd rfl (h2 Lb.r (by simp))
 ·have := Lb.order0
  rw [h3] at this
  cases this
 ·rw [Lb.init0] at h6
  exact ⟨h4,p,S,h5,h6,h7⟩
theorem lb_rises : Tf.Rises Lb.fs := by
 unfold Tf.Rises
 simp
theorem lb_small : ∀ x ∈ Lb.l,x.Small := fun x hx => by
 obtain rfl := List.mem_singleton.1 hx
 exact ⟨by decide,by decide,by decide,by decide,fun y hy => by obtain rfl := List.mem_singleton.1 hy;decide⟩
theorem lb_x (w : World) : XRow (w.alloc (.cells #[.string ⟨#[98]⟩] 9)) (.slice (some ⟨w.heap.size,0,none⟩) 1 1) Lb.outs :=
 ⟨_,_,rfl,Nat.le_refl _,(fun e => by cases e),fun _ => ⟨_,_,rfl,by simp,fun j hj => by
  obtain rfl : j = 0 := by simp at hj;omega
  exact cell_of_row (j := 0) (row_new w (.cells #[.string ⟨#[98]⟩] 9)) rfl⟩⟩
theorem lb_rows (w : World) :
  RRow (((w.alloc (.cells #[.string ⟨#[97]⟩] 9)).alloc (.cells #[.string ⟨#[98]⟩,.string ⟨#[117,112,112,101,114]⟩,.string ⟨#[]⟩,.slice (some ⟨w.heap.size,0,none⟩) 1 1] 90)).alloc (.cells #[.string ⟨#[98]⟩] 9)) (.slice (some ⟨w.heap.size + 1,0,none⟩) 1 1) Lb.l ∧
  XRow (((w.alloc (.cells #[.string ⟨#[97]⟩] 9)).alloc (.cells #[.string ⟨#[98]⟩,.string ⟨#[117,112,112,101,114]⟩,.string ⟨#[]⟩,.slice (some ⟨w.heap.size,0,none⟩) 1 1] 90)).alloc (.cells #[.string ⟨#[98]⟩] 9)) (.slice (some ⟨w.heap.size + 2,0,none⟩) 1 1) Lb.outs ∧
  Below w.heap.size w (((w.alloc (.cells #[.string ⟨#[97]⟩] 9)).alloc (.cells #[.string ⟨#[98]⟩,.string ⟨#[117,112,112,101,114]⟩,.string ⟨#[]⟩,.slice (some ⟨w.heap.size,0,none⟩) 1 1] 90)).alloc (.cells #[.string ⟨#[98]⟩] 9)) := by
 obtain ⟨w1,h1⟩ : ∃ w1,w1 = w.alloc (.cells #[.string ⟨#[97]⟩] 9) := ⟨_,rfl⟩
 obtain ⟨w2,h2⟩ : ∃ w2,w2 = w1.alloc (.cells #[.string ⟨#[98]⟩,.string ⟨#[117,112,112,101,114]⟩,.string ⟨#[]⟩,.slice (some ⟨w.heap.size,0,none⟩) 1 1] 90) := ⟨_,rfl⟩
 obtain ⟨w3,h3⟩ : ∃ w3,w3 = w2.alloc (.cells #[.string ⟨#[98]⟩] 9) := ⟨_,rfl⟩
 have z1 : w1.heap.size = w.heap.size + 1 := by rw [h1];simp
 have z2 : w2.heap.size = w.heap.size + 2 := by rw [h2];simp;omega
 have z3 : w3.heap.size = w.heap.size + 3 := by rw [h3];simp;omega
 have b1 : Below w.heap.size w w1 := by rw [h1];exact (Below.refl _ w).alloc (Nat.le_refl _) _
 have b2 : Below w1.heap.size w1 w2 := by rw [h2];exact (Below.refl _ w1).alloc (Nat.le_refl _) _
 have b3 : Below w2.heap.size w2 w3 := by rw [h3];exact (Below.refl _ w2).alloc (Nat.le_refl _) _
 have r1 : w1.heap[w.heap.size]? = some (.cells #[.string ⟨#[97]⟩] 9) := by rw [h1];exact row_new _ _
 have r2 : w2.heap[w.heap.size + 1]? = some (.cells #[.string ⟨#[98]⟩,.string ⟨#[117,112,112,101,114]⟩,.string ⟨#[]⟩,.slice (some ⟨w.heap.size,0,none⟩) 1 1] 90) := by rw [h2,← z1];exact row_new _ _
 have r3 : w3.heap[w.heap.size + 2]? = some (.cells #[.string ⟨#[98]⟩] 9) := by rw [h3,← z2];exact row_new _ _
 have s1 := row_below (row_below r1 b2) b3
 have s2 := row_below r2 b3
 rw [← h1,← h2,← h3]
 refine ⟨⟨_,_,rfl,Nat.le_refl _,(fun e => by cases e),fun _ => ⟨_,_,rfl,by omega,fun j hj => ?_⟩⟩,⟨_,_,rfl,Nat.le_refl _,(fun e => by cases e),fun _ => ⟨_,_,rfl,by omega,fun j hj => ?_⟩⟩,below_then (below_then b1 b2) b3⟩
 ·obtain rfl : j = 0 := by simp at hj;omega
  exact ⟨cell_of_row (j := 0) s2 rfl,cell_of_row (j := 1) s2 rfl,cell_of_row (j := 2) s2 rfl,_,cell_of_row (j := 3) s2 rfl,⟨_,_,rfl,Nat.le_refl _,(fun e => by cases e),fun _ => ⟨_,_,rfl,by omega,fun j hj => by
   obtain rfl : j = 0 := by simp at hj;omega
   exact cell_of_row (j := 0) s1 rfl⟩⟩⟩
 ·obtain rfl : j = 0 := by simp at hj;omega
  exact cell_of_row (j := 0) r3 rfl
theorem built_calls {es : Nat → Addr} {At : (Nat → Prop) → World → Value → Nat → Cf.Ens → Prop} {BAt : (Nat → Prop) → World → Value → Value → Bf.Bd → Prop} (HB : Builds es Af.actO At BAt) (HC : Caches0 es At) {W : World} (hW : BuildW W es) (hE : TErr W (erOf es)) :
  Calls Tryz.prog 53 #[] W fun e w' => e = .returned (.bool true) ∧ Below W.heap.size W w' := by
 have HBu := hid1 HB
 have HCa := hid1 HC
 have HW := hid1 (BuildB.of hW)
 have HE := hid1 hE
 have HT := hid1 (New_calls W)
 clear HB HC hW hE
 go_enter Tryz.func53,Tryz.ntmps53
 go_wp2_with fail
 refine HT.out.mono ?_
 rintro e w1 ⟨rfl,hT1,g1⟩
 have HMk := hid1 (HCa.out.make w1 3 (by omega) (by omega))
 have HT1 := hid1 hT1
 have hz1 := hT1.lt
 clear HT hT1
 go_wp2_with fail
 refine HMk.out.mono ?_
 rintro e w2 ⟨p,SC,rfl,g2,hA2,hS2⟩
 have hT2 := HT1.out.below g2
 have hp1 : pathB [97] = true := by rw [pathB_R];decide
 have hcode : Tf.putCode pathB [] [97] [120] = 0 := by simp [Tf.putCode,hp1];decide
 have hput : Tf.putF pathB [] [97] [120] = Lb.fs := by
  unfold Tf.putF
  rw [if_pos hcode]
  rfl
 have HP := PutK_calls hT2 (HE.out.below (below_then g1 g2)) (by simp) (by simp) [97] [120] (by simp)
 rw [hcode,hput,show erOf es 0 = Value.nilIface from rfl] at HP
 have HPt := hid1 HP
 have HA2 := hid1 (And.intro hA2 hS2)
 have hz2 := g2.size
 have G2 := below_then g1 g2
 clear HMk HT1 hT2 HP hA2 hS2 hp1 hcode hput
 go_wp2_with fail
 refine HPt.out.mono ?_
 rintro e w3 ⟨rfl,⟨o3,-,hT3⟩,g3,k3⟩
 have hA3 : At SC w3 (.pointer (some p)) 3 [] := HCa.out.same _ _ _ _ _ _ HA2.out.1 k3.size fun k hk => k3.block k (HCa.out.lt _ _ _ _ _ HA2.out.1 k hk) fun hx => by
  have := HA2.out.2 k hk
  rcases hx with h1 | h1
  ·omega
  ·cases h1
 have HSCw : Hid (∀ k,SC k → W.heap.size < k ∧ k < w2.heap.size) := hid1 fun k hk => ⟨by have := HA2.out.2 k hk;omega,HCa.out.lt _ _ _ _ _ HA2.out.1 k hk⟩
 have hz3 := k3.size
 have G3 : Below W.heap.size W w3 := G2.trans g3
 obtain ⟨hR5,hX5,g5⟩ := lb_rows w3
 have HA3 := hid1 hA3
 have HT3 := hid1 hT3
 have HG3 := hid1 G3
 clear HPt HA2 hA3 hT3 g3 k3 G2 g1 g2 G3
 generalize hw5 : ((w3.alloc (.cells #[.string ⟨#[97]⟩] 9)).alloc (.cells #[.string ⟨#[98]⟩,.string ⟨#[117,112,112,101,114]⟩,.string ⟨#[]⟩,.slice (some ⟨w3.heap.size,0,none⟩) 1 1] 90)).alloc (.cells #[.string ⟨#[98]⟩] 9) = w5 at *
 have HNw := hid1 (HBu.out.new w5 W.heap.size W.heap.size Lb.fs o3 _ Lb.l _ Lb.outs (.pointer (some p)) ((HW.out.trans HG3.out).below g5).w (HT3.out.below g5) lb_rises (by simp) (by simp) hR5 (by simp) lb_small hX5 (by simp) (by simp) ⟨_,rfl⟩)
 have HR5 := hid1 hR5
 have HG5 := hid1 g5
 clear hR5 hX5 g5
 go_wp2_with fail
 refine HNw.out.mono ?_
 rintro e w6 ⟨bv,ev,rfl,g6,hN6⟩
 obtain ⟨rfl,p1,S1,rfl,hB6,hS1⟩ := hN6.get
 have hz5 := HG5.out.size
 have hz6 := g6.size
 have HB6 := hid1 (And.intro hB6 hS1)
 have g7 : Below w6.heap.size w6 (w6.alloc (.cells #[.string ⟨#[98]⟩] 9)) := (Below.refl _ w6).alloc (Nat.le_refl _) _
 have hz7 : (w6.alloc (.cells #[.string ⟨#[98]⟩] 9)).heap.size = w6.heap.size + 1 := by simp
 have G56 := below_then HG5.out g6
 have G57 := below_then G56 g7
 have HNx := hid1 (HBu.out.new (w6.alloc (.cells #[.string ⟨#[98]⟩] 9)) W.heap.size W.heap.size Lb.fs o3 _ Lb.l _ Lb.outs (.pointer (some p)) ((HW.out.trans HG3.out).below G57).w (HT3.out.below G57) lb_rises (by simp) (by simp) (HR5.out.below (below_then g6 g7)) (by simp) lb_small (lb_x w6) (by simp) (by simp) ⟨_,rfl⟩)
 have HG7 := hid1 (And.intro G57 hz7)
 clear HNw hN6 hB6 hS1 g6 g7 G56 G57 hz7 HR5 hw5
 go_wp2_with fail
 refine HNx.out.mono ?_
 rintro e w8 ⟨bv2,ev2,rfl,g8,hN8⟩
 obtain ⟨rfl,p2,S2,rfl,hB8,hS2⟩ := hN8.get
 rw [HG7.out.2] at hS2
 have hz8 := g8.size
 rw [HG7.out.2] at hz8
 have G8 := below_then HG7.out.1 g8
 have hS1w : ∀ k,S1 k → w5.heap.size ≤ k ∧ k < w6.heap.size := fun k hk => ⟨HB6.out.2 k hk,HBu.out.lt _ _ _ _ _ HB6.out.1 k hk⟩
 have b68 : Below w6.heap.size w6 w8 := below_then ((Below.refl _ w6).alloc (Nat.le_refl _) (.cells #[.string ⟨#[98]⟩] 9)) g8
 have hX8 : BAt S1 w8 (.pointer (some p1)) (.pointer (some p)) Lb.d := HBu.out.same _ _ _ _ _ _ HB6.out.1 b68.size fun k hk => b68.block k (hS1w k hk).2
 have hC8 : CaAt At SC w8 (.pointer (some p)) (some (3,[])) := ⟨⟨p,rfl⟩,HCa.out.same _ _ _ _ _ _ HA3.out G8.size fun k hk => G8.block k (by have := (HSCw.out k hk).2;omega)⟩
 have hWB : BuildB W.heap.size w8 es := (HW.out.trans HG3.out).below G8
 have HRx := HBu.out.run W.heap.size S1 SC w8 p1 (.pointer (some p)) Lb.d (some (3,[])) 0 hX8 hC8 (fun j h1 h2 => by have := (hS1w j h1).1;have := (HSCw.out j h2).2;omega) hWB (fun j hj => by have := (hS1w j hj).1;have := HG3.out.size;omega) (fun j hj => Nat.le_of_lt (HSCw.out j hj).1) Lb.fault0 lb_small Lb.fit0 ⟨by omega,by omega,Cf.Ok.nil 3,by simp⟩ (by omega) (by omega)
 rw [Lb.run1] at HRx
 have HRx := hid1 HRx
 have HS1 := hid1 hS1w
 have HB8 := hid1 (And.intro hB8 hS2)
 have HWB := hid1 hWB
 have HGB := hid1 (below_then HG3.out G8)
 clear HNx HB6 HG7 hN8 hB8 hS2 hX8 hC8 b68 hS1w hWB g8 HA3
 go_wp2_with fail
 refine HRx.out.mono ?_
 rintro e w9 ⟨rfl,hO9,S1',SC',hX9,hC9,hd9,hS9,hSC9⟩
 have hz9 := hO9.size
 have hfar : ∀ j,S2 j → ¬ (S1 j ∨ SC j) := fun j hj hx => by
  have h1 := HB8.out.2 j hj
  rcases hx with h2 | h2
  ·have := (HS1.out j h2).2
   omega
  ·have := (HSCw.out j h2).2
   omega
 have hY9 : BAt S2 w9 (.pointer (some p2)) (.pointer (some p)) Lb.d := HBu.out.same _ _ _ _ _ _ HB8.out.1 hz9 fun k hk => hO9.block k (HBu.out.lt _ _ _ _ _ HB8.out.1 k hk) (hfar k hk)
 have hlow : ∀ j,(S1 j ∨ SC j) → W.heap.size ≤ j := fun j hx => by
  rcases hx with h2 | h2
  ·have := (HS1.out j h2).1
   have := HG3.out.size
   omega
  ·exact Nat.le_of_lt (HSCw.out j h2).1
 have hfit := Bf.run_fit actFit (c := some (3,[])) (d := Lb.d) ⟨by omega,by omega,Cf.Ok.nil 3,by simp⟩ Lb.fit0 0
 rw [Lb.run1] at hfit
 have HRy := HBu.out.run W.heap.size S2 SC' w9 p2 (.pointer (some p)) Lb.d (some (3,[(Lb.key,[88])])) 0 hY9 hC9 (fun j h1 h2 => by
  have h3 := HB8.out.2 j h1
  rcases hSC9 j h2 with h4 | h4
  ·have := (HSCw.out j h4).2
   omega
  ·have := HBu.out.lt _ _ _ _ _ HB8.out.1 j h1
   omega) (HWB.out.only hO9 hlow) (fun j hj => by have := HB8.out.2 j hj;have := HG3.out.size;omega) (fun j hj => by
  rcases hSC9 j hj with h4 | h4
  ·exact Nat.le_of_lt (HSCw.out j h4).1
  ·have := HGB.out.size
   omega) Lb.fault0 lb_small Lb.fit0 hfit.2 (by omega) (by omega)
 rw [Lb.run2] at HRy
 have HRy := hid1 HRy
 have HG9 := hid1 (HGB.out.trans (hO9.below hlow HGB.out.size))
 have HL2 : Hid (∀ j,S2 j ∨ SC' j → W.heap.size ≤ j) := hid1 fun j hx => by
  rcases hx with h2 | h2
  ·have := HB8.out.2 j h2
   have := HG3.out.size
   omega
  ·rcases hSC9 j h2 with h4 | h4
   ·exact Nat.le_of_lt (HSCw.out j h4).1
   ·have := HGB.out.size
    omega
 clear HRx hX9 hC9 hd9 hS9 hSC9 hY9 hfit hfar hlow
 go_wp2_with fail
 refine HRy.out.mono ?_
 rintro e w10 ⟨rfl,hO10,S2',SC'',hY10,-,-,-,-⟩
 have G10 := HG9.out.trans (hO10.below HL2.out HG9.out.size)
 have HRs := HBu.out.result S2' w10 p2 _ _ 0 hY10 (by decide) (by omega) (by omega)
 have HOv := hid1 fun V (g : Below w10.heap.size w10 V) => HBu.out.over S2' V p2 _ _ (HBu.out.same _ _ _ _ _ _ hY10 g.size fun k hk => g.block k (HBu.out.lt _ _ _ _ _ hY10 k hk)) (by decide)
 have e1 : ((Lb.d.set 0 (.done [88] true)).at 0) = .done [88] true := rfl
 have e2 : ((Lb.d.set 0 (.done [88] true)).waits == 0) = true := by decide
 rw [e1] at HRs
 rw [e2] at HOv
 have HRs := hid1 HRs
 have HG10 := hid1 G10
 clear HRy hO10 hY10 e1 e2 G10 HBu HCa HW HE
 go_wp2_with fail
 refine HRs.out.mono ?_
 rintro e w11 ⟨rfl,g11⟩
 have HO11 := hid1 (HOv.out w11 g11)
 have G11 := below_then HG10.out g11
 clear HRs HOv
 have hz0 : erOf es 0 = Value.nilIface := rfl
 have hq0 : (Bf.St.done [88] true).isDone = true := rfl
 have hq1 : (Bf.St.done [88] true).out = [88] := rfl
 rw [hz0,hq0,hq1]
 clear hz0 hq0 hq1
 go_wp2_with fail
 refine HO11.out.mono ?_
 rintro e w12 ⟨rfl,g12⟩
 have G12 := below_then G11 g12
 clear HO11
 go_wp2
 go_ret
 exact ⟨rfl,G12⟩
end Go.Proofs.YtflbofdpfgkmcaaGreatDoor
namespace Go.Proofs.YtflbofdpfgkmcaaGreatDoor
namespace Bf
def St.ran (s : St) : Bool := s.isDone || s.isFailed
end Bf
end Go.Proofs.YtflbofdpfgkmcaaGreatDoor
namespace Go.Proofs.YtflbofdpfgkmcaaGreatDoor
open Go.RowKit Go.Shelf Go.Lib
namespace Bf
theorem init_fit {fs : Tf.Fs} {l : List Ru} {outs : List (List UInt8)} (h : ∀ f ∈ fs,f.2.length ≤ 2000) : Fit (init fs l outs) := by
 have key : ∀ k,(init fs l outs).st k = .waits ∨ (init fs l outs).st k = .no := fun k => by
  show (if need l outs k = true then St.waits else .no) = .waits ∨ (if need l outs k = true then St.waits else .no) = .no
  split
  ·exact .inl rfl
  ·exact .inr rfl
 refine ⟨h,fun k => ?_,fun k => ?_⟩
 ·rcases key k with e | e <;> rw [e] <;> simp [St.out]
 ·rcases key k with e | e <;> rw [e] <;> simp [St.why]
end Bf
def ZRow (w : World) (v : Value) (l : List Int) : Prop :=
 ∃ p cap,v = .slice p l.length cap ∧ (l ≠ [] → ∃ g o,p = some ⟨g,o,none⟩ ∧ g < w.heap.size ∧ ∀ j (hj : j < l.length),w.cell? ⟨g,o + j,none⟩ = some (.int .i64 l[j]))
end Go.Proofs.YtflbofdpfgkmcaaGreatDoor
namespace Go.Proofs.YtflbofdpfgkmcaaGreatDoor
open Go.RowKit Go.Shelf Go.Lib
theorem madd (a b : List UInt8) (h : a.length + b.length ≤ 100000000) (W : World) : (Op.stringOp .add (ba a) (ba b)).run Tryz.prog W = .ok (.string (ba (a ++ b))) W := by
 rw [run_string_add_sum (P := Tryz.prog) W (ba a) (ba b) (by rw [ba_size,ba_size];omega),ba_append]
theorem made_join (wd : List UInt8) (g o cap : Nat) (x : List UInt8) (l : List (List UInt8)) (hl : l.length ≤ 20) (hwd : wd.length ≤ 100000) (hx : ∀ y ∈ l,y.length ≤ 100000) (hall : ∀ k,(x ++ Lib.joinTail wd (l.take k)).length ≤ 10000000) (w : World) (hcur : ∀ j (hj : j < (x :: l).length),w.cell? ⟨g,o + j,none⟩ = some (.string (ba (x :: l)[j]))) :
  Calls Tryz.prog 89 #[.string ⟨#[106,111,105,110]⟩,.string (ba wd),.slice (some ⟨g,o,none⟩) (l.length + 1) cap] w fun e w' => e = .returned (.string (ba (Lib.join (x :: l) wd))) ∧ Below w.heap.size w w' := by
 have hc0 : w.cell? ⟨g,o,none⟩ = some (.string (ba x)) := hcur 0 (by simp)
 have zl : (l.length : Int) ≤ 20 := by omega
 rw [Lib.join_cons]
 have HX := hid1 hx
 have HA := hid1 hall
 have HC := hid1 fun j (hj : j < l.length) => hcur (j + 1) (by simp;omega)
 clear hx hall hcur
 go_enter Tryz.func89,Tryz.ntmps89
 go_wp2
 go_loopw [7,8] (fun s i wr => ∃ k : Nat,k ≤ l.length ∧ s = .string (ba (x ++ Lib.joinTail wd (l.take k))) ∧ i = .int .i64 ((k : Int) + 1) ∧ w = wr) (fun _ i _ => l.length + 1 - (intOf i).toNat)
 case atStart => exact ⟨0,Nat.zero_le _,by simp [Lib.joinTail],rfl,rfl⟩
 case round =>
  obtain ⟨k,hk,rfl,rfl,rfl⟩ := hrel
  have h0 := HA.out k
  by_cases hlt : k < l.length
  ·have hc := HC.out k hlt
   have hy := HX.out _ (List.getElem_mem hlt)
   simp only [List.getElem_cons_succ] at hc
   have HT := hid1 (Lib.joinTail_take_succ wd l k l[k] (List.getElem?_eq_getElem hlt))
   generalize l[k] = y at *
   generalize Lib.joinTail wd (l.take k) = t at *
   have s1 : ∀ W,(Op.stringOp .add (ba (x ++ t)) (ba wd)).run Tryz.prog W = .ok (.string (ba (x ++ t ++ wd))) W := madd _ _ (by omega)
   have s2 : ∀ W,(Op.stringOp .add (ba (x ++ t ++ wd)) (ba y)).run Tryz.prog W = .ok (.string (ba (x ++ t ++ wd ++ y))) W := madd _ _ (by rw [List.length_append];omega)
   have c1 : (k : Int) + 1 < (l.length : Int) + 1 := by omega
   have e0 : (0 : Int) ≤ (k : Int) + 1 := by omega
   have e3 : ((k : Int) + 1).toNat = k + 1 := by omega
   have q8 : IntKind.i64.wrap ((k : Int) + 1) = (k : Int) + 1 := by rw [IntKind.wrap_i64];omega
   have q9 : IntKind.i64.wrap ((k : Int) + 1 + 1) = (k : Int) + 1 + 1 := by rw [IntKind.wrap_i64];omega
   have HE := hid1 (show x ++ t ++ wd ++ y = x ++ (t ++ wd ++ y) by simp)
   generalize x ++ t ++ wd ++ y = t2 at *
   generalize x ++ t ++ wd = t1 at *
   generalize x ++ t = t0 at *
   go_wp2
   exact ⟨⟨k + 1,by omega,by rw [HT.out,HE.out],by go_num,trivial⟩,by simp [intOf];omega⟩
  ·obtain rfl : k = l.length := by omega
   have c1 : ¬ (l.length : Int) + 1 < (l.length : Int) + 1 := by omega
   rw [List.take_length] at *
   go_wp2
   go_ret
   exact ⟨rfl,Below.refl _ _⟩
end Go.Proofs.YtflbofdpfgkmcaaGreatDoor
namespace Go.Proofs.YtflbofdpfgkmcaaGreatDoor
open Go.RowKit Go.Shelf Go.Lib
open Go.Sort (grow Holds putRow)
theorem rLinesOf_calls (s : List UInt8) (hs : s.length ≤ 1000000) (w : World) :
  Calls Tryz.prog 141 #[.string (ba s)] w fun e w' => ∃ v,e = .returned v ∧ TRow w' v (Af.lines s) ∧ Below w.heap.size w w' := by
 obtain ⟨o,l,hc,hl⟩ := Af.lines_of_cut s
 have HS := hid1 (rCut_calls s hs 10 10 rfl w)
 have hol : o.length ≤ 1000000 := by
  have := cutB_len 10 s
  rw [hc] at this
  simp at this
  omega
 rw [hc] at HS
 have HL : Hid (Af.lines s = (if l = [] then o else o ++ [l])) := hl
 clear hl hc
 generalize Af.lines s = L at *
 go_enter Tryz.func141,Tryz.ntmps141
 go_wp2_with fail
 refine Calls.mono HS.out ?_
 rintro e w3 ⟨v,rfl,hown,hB3⟩
 obtain ⟨pa,cap,rfl,hcap,hin⟩ := TRow.of_owns hown
 obtain ⟨g,cur,rfl,hg,hcur⟩ := hin (by simp)
 have hcz := cell_of_row hg (hcur o.length (by simp))
 rw [List.getElem_append_right (by omega)] at hcz
 simp only [Nat.sub_self,List.getElem_cons_zero] at hcz
 simp only [List.length_append,List.length_cons,List.length_nil] at hcap ⊢
 have hcurA : ∀ j (hj : j < o.length),cur[j]? = some (.string (ba o[j])) := fun j hj => by
  have := hcur j (by simp;omega)
  rwa [List.getElem_append_left hj] at this
 clear HS hown hin
 have z1 : (o.length : Int) ≤ 1000000 := by omega
 by_cases he : l = []
 ·subst he
  have hL : L = o := by rw [HL.out,if_pos rfl]
  subst hL
  clear HL hcur
  go_wp2
  go_ret
  exact ⟨_,rfl,⟨_,_,rfl,by omega,fun _ => ⟨g,cur,rfl,hg,hcurA⟩⟩,hB3⟩
 ·have d1 : l.isEmpty = false := empty_not he
  have hL : L = o ++ [l] := by rw [HL.out,if_neg he]
  subst hL
  clear HL
  go_wp2
  go_ret
  exact ⟨_,rfl,⟨some ⟨g,0,none⟩,cap,by simp,by simp;omega,fun _ => ⟨g,cur,rfl,hg,hcur⟩⟩,hB3⟩
theorem compact_pre (S : List (List UInt8)) : ∀ (d i : Nat),i + d = S.length → ∃ t,Lib.compact S = compactUpTo S.toArray i ++ t
 | 0,i,h => ⟨[],by rw [Lib.compact,List.append_nil,← h];rfl⟩
 | d + 1,i,h => by
  obtain ⟨t,ht⟩ := compact_pre S d (i + 1) (by omega)
  rw [Af.compact_succ,List.append_assoc] at ht
  exact ⟨_,ht⟩
theorem compact_keep (S : List (List UInt8)) (i : Nat) (h : i < S.length) (hk : keeps S.toArray i = true) : compactUpTo S.toArray (i + 1) = compactUpTo S.toArray i ++ [S[i]] ∧ (compactUpTo S.toArray i).length < (Lib.compact S).length ∧ ∀ hx : (compactUpTo S.toArray i).length < (Lib.compact S).length,(Lib.compact S)[(compactUpTo S.toArray i).length] = S[i] := by
 have e : compactUpTo S.toArray (i + 1) = compactUpTo S.toArray i ++ [S[i]] := by
  rw [Af.compact_succ,if_pos hk]
  simp [h]
 obtain ⟨t,ht⟩ := compact_pre S (S.length - (i + 1)) (i + 1) (by omega)
 rw [e] at ht
 refine ⟨e,by rw [ht];simp,fun hx => ?_⟩
 simp only [ht,List.append_assoc]
 rw [List.getElem_append_right (Nat.le_refl _)]
 simp
theorem compact_skip (S : List (List UInt8)) (i : Nat) (hk : keeps S.toArray i = false) : compactUpTo S.toArray (i + 1) = compactUpTo S.toArray i := by
 rw [Af.compact_succ,hk]
 simp
theorem keeps_zero (S : List (List UInt8)) : keeps S.toArray 0 = true := by simp [keeps]
theorem keeps_succ (S : List (List UInt8)) (i : Nat) (h : i + 1 < S.length) : keeps S.toArray (i + 1) = !(S[i + 1] == S[i]) := by
 have h' : i < S.length := by omega
 unfold keeps
 simp [h,h']
 by_cases e : S[i + 1] = S[i] <;> simp [e]
end Go.Proofs.YtflbofdpfgkmcaaGreatDoor
