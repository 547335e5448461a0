import Derived.Lib.AppendZeros
import Derived.Test.YtdljhggillgpfaaGreatDoorSA44
set_option maxRecDepth 100000
set_option maxHeartbeats 8000000
namespace Go.Proofs.YtdljhggillgpfaaGreatDoor
open Go.RowKit Go.Shelf Go.Lib
theorem owns_sameV {w V : World} {B : Nat} {e : TypeId} {s n : Nat} {v : Value} {xs : List Value} (h : w.ownsRow B e s v n xs) (hb : ∀ b,v.ownBlock = some b → b < w.heap.size → V.heap[b]? = w.heap[b]?) : V.ownsRow B e s v n xs := by
 obtain ⟨h1,h2⟩ := h
 refine ⟨h1,?_⟩
 rcases h2 with h2 | ⟨g,cap,cur,rfl,hg,hr,h3⟩
 ·exact .inl h2
 ·exact .inr ⟨g,cap,cur,rfl,hg,(hb g rfl (Array.getElem?_eq_some_iff.1 hr).1).trans hr,h3⟩
def RIn (R : Nat → Prop) (W : World) (v : Value) (l : List Ru) : Prop := ∀ V : World,W.heap.size ≤ V.heap.size → (∀ j,R j → V.heap[j]? = W.heap[j]?) → RRow V v l
def World.hole (W : World) (g : Nat) : World := { W with heap := W.heap.setIfInBounds g (.cells #[] 0 (0,0)) }
theorem hole_size (W : World) (g : Nat) : (World.hole W g).heap.size = W.heap.size := by simp [World.hole]
theorem hole_other (W : World) {g j : Nat} (h : j ≠ g) : (World.hole W g).heap[j]? = W.heap[j]? := by
 simp only [World.hole]
 rw [Array.getElem?_setIfInBounds_ne (by omega)]
theorem hole_cell (W : World) {g i : Nat} (h : g < W.heap.size) : (World.hole W g).cell? ⟨g,i,none⟩ = none := by
 have : (World.hole W g).heap[g]? = some (.cells #[] 0 (0,0)) := by
  simp only [World.hole]
  rw [Array.getElem?_setIfInBounds_self_of_lt h]
 simp [World.cell?,this]
theorem RIn.cells {R : Nat → Prop} {W : World} {a : Addr} {n cap : Nat} {l : List Ru} (h : RIn R W (.slice (some a) n cap) l) : ∃ dn : List (Ru × Value),dn.map Prod.fst = l ∧ (∀ x ∈ dn,XIn R W x.2 x.1.ins) ∧ ∀ j u,(ruCells dn)[j]? = some u → W.cell? (a.add j) = some u := by
 by_cases he : l = []
 ·exact ⟨[],by rw [he];rfl,fun x hx => by simp at hx,fun j u h => by simp [ruCells] at h⟩
 ·obtain ⟨p,c,e,-,-,h1⟩ := h W (Nat.le_refl _) fun _ _ => rfl
  obtain ⟨g,o,e2,hg,hc⟩ := h1 he
  cases e
  obtain rfl : a = ⟨g,o,none⟩ := Option.some.inj e2
  have hpos : 0 < l.length := List.length_pos_iff.2 he
  have hRg : R g := Classical.byContradiction fun hn => by
   obtain ⟨p',c',e',-,-,h2⟩ := h (World.hole W g) (Nat.le_of_eq (hole_size W g).symm) fun j hj => hole_other W fun e => hn (e ▸ hj)
   obtain ⟨g',o',e3,hg',hc'⟩ := h2 he
   cases e'
   cases e3
   have := (hc' 0 hpos).1
   rw [hole_cell W hg] at this
   cases this
  obtain ⟨dn,e1,h2⟩ := ruAt_cells hc
  refine ⟨dn,e1,fun x hx => ?_,fun j u hu => ?_⟩
  ·obtain ⟨k,hk,rfl⟩ := List.getElem_of_mem hx
   refine ⟨(h2 k hk).2.2.2.2,fun b n cap eb hne => Classical.byContradiction fun hn => ?_⟩
   have hkl : k < l.length := by rw [← e1];simpa using hk
   have ek : dn[k].1 = l[k] := by subst e1;simp
   obtain ⟨p3,c3,e3,-,-,h3⟩ := (h2 k hk).2.2.2.2
   obtain ⟨g3,o3,e4,hg3,-⟩ := h3 hne
   rw [eb] at e3
   cases e3
   have eb' : b = ⟨g3,o3,none⟩ := Option.some.inj e4
   have hng : g ≠ g3 := fun e => hn (by rw [eb'];exact e ▸ hRg)
   obtain ⟨p',c',e',-,-,h5⟩ := h (World.hole W g3) (Nat.le_of_eq (hole_size W g3).symm) fun j hj => hole_other W fun e => hn (by rw [eb'];exact e ▸ hj)
   obtain ⟨g',o',e6,hg',hc'⟩ := h5 he
   cases e'
   cases e6
   obtain ⟨-,-,-,v4,h6,hx4⟩ := hc' k hkl
   have h7 : (World.hole W g3).cell? ⟨g,o + k * 4 + 3,none⟩ = W.cell? ⟨g,o + k * 4 + 3,none⟩ := World.cell?_of_block (a := ⟨g,o + k * 4 + 3,none⟩) (hole_other W hng)
   rw [h7,(h2 k hk).2.2.2.1] at h6
   have h8 := Option.some.inj h6
   rw [← h8,← ek] at hx4
   obtain ⟨p5,c5,e7,-,-,h9⟩ := hx4
   obtain ⟨g5,o5,e8,-,hc5⟩ := h9 hne
   rw [eb] at e7
   cases e7
   rw [eb'] at e8
   cases e8
   have := hc5 0 (List.length_pos_iff.2 hne)
   rw [hole_cell W hg3] at this
   cases this
  ·rw [add_at2]
   exact ruCells_get (fun j hj => ⟨(h2 j hj).1,(h2 j hj).2.1,(h2 j hj).2.2.1,(h2 j hj).2.2.2.1⟩) j u hu
theorem RIn.below {R : Nat → Prop} {W w' : World} {v : Value} {l : List Ru} (h : RIn R W v l) (hR : ∀ j,R j → j < W.heap.size) (hb : Below W.heap.size W w') : RIn R w' v l := fun V hz hV => h V (Nat.le_trans hb.size hz) fun j hj => (hV j hj).trans (hb.block j (hR j hj))
theorem RIn.of_owns {R : Nat → Prop} {w : World} {base : Nat} {v : Value} {dn : List (Ru × Value)} (h : w.ownsRow base 36 4 v dn.length (ruCells dn)) (hx : ∀ x ∈ dn,XIn R w x.2 x.1.ins) (hb : ∀ j,base ≤ j → j < w.heap.size → R j) : RIn R w v (dn.map Prod.fst) := fun _ hz hV =>
 RRow.of_owns (owns_sameV h fun b e hlt => hV b (hb b (row_low4 h b e) hlt)) rfl fun x hx' => ((hx x hx').same hz fun j hj _ => hV j hj).1
theorem growR_calls (n : Nat) (h1 : 1 ≤ n) (h2 : n ≤ 1000) (w : World) :
  Calls Tryz.prog 102 #[.slice none 0 0,.int .i64 n] w fun e w' => ∃ g c,e = .returned (.slice (some ⟨g,0,none⟩) 0 c) ∧ w'.ownsRow w.heap.size 36 4 (.slice (some ⟨g,0,none⟩) 0 c) 0 [] ∧ Below w.heap.size w w' := by
 obtain ⟨i0,hi,hz0,hz1,hz2⟩ := info_parts Tryz.infoRule
 have hrz : ∀ ty,(Builtin.append_ #[49,3] ty #[.slice none 0 0,.int .i64 (n : Int)]).run Tryz.prog w = _ := fun ty => Lib.run_append_nil_zeros w 49 3 ty 36 i0 _ .i64 .i64 Tryz.underlying49 Tryz.underlying3 hi hz0 n (by omega) (by rw [hz1];decide) (by omega) (by rw [hz2];omega)
 have hG := grownCap_ge w n 0 36
 have hM := grownCap_le_maxLen w n 0 36 (by unfold maxLen;omega)
 generalize grownCap w n 0 36 = G at *
 have hM' : G ≤ 9223372036854775807 := by unfold maxLen at hM;omega
 have HO := hid1 (World.ownsRow_made (base := w.heap.size) (e := 36) (size := 4) w.drew (Builtin.zeroCells (Value.cells (.agg #[.string ⟨#[]⟩,.string ⟨#[]⟩,.string ⟨#[]⟩,.slice none 0 0])) n ++ Builtin.zeroCells (Value.cells (.agg #[.string ⟨#[]⟩,.string ⟨#[]⟩,.string ⟨#[]⟩,.slice none 0 0])) (G - n)) G (Nat.le_refl _) hM (by
  rw [Array.size_append,size_zeroCells,size_zeroCells]
  show n * 4 + (G - n) * 4 = G * 4
  omega))
 have HB : Hid (Below w.heap.size w (w.drew.alloc (.cells (Builtin.zeroCells (Value.cells (.agg #[.string ⟨#[]⟩,.string ⟨#[]⟩,.string ⟨#[]⟩,.slice none 0 0])) n ++ Builtin.zeroCells (Value.cells (.agg #[.string ⟨#[]⟩,.string ⟨#[]⟩,.string ⟨#[]⟩,.slice none 0 0])) (G - n)) 36))) := hid1 ((Below.refl _ w).drew.alloc (Nat.le_refl _) _)
 have n0 : (0 : Int) < (n : Int) := by omega
 have n1 : ¬ ((n : Int) < 0) := by omega
 go_enter Tryz.func102,Tryz.ntmps102
 go_wp2_with (at_builtin;refine Lib.wpList_append_run _ rfl _ _ _ _ rfl _ _ rfl rfl _ _ (hrz _) ?_)
 all_goals
  go_ret
  exact ⟨_,_,rfl,HO.out,HB.out⟩
theorem ruCells_app (a b : List (Ru × Value)) : ruCells a ++ ruCells b = ruCells (a ++ b) := by simp [ruCells]
theorem XIn.imp2 {P Q : Nat → Prop} {w V : World} {v : Value} {l : List (List UInt8)} (h : XIn P w v l) (hP : ∀ j,P j → j < w.heap.size) (hb : Below w.heap.size w V) (hPQ : ∀ j,P j → Q j) : XIn Q V v l := (h.same hb.size fun j hj _ => hb.block j (hP j hj)).imp hPQ
theorem concatR_calls {W : World} {R1 R2 : Nat → Prop} (v1 v2 : Value) (l1 l2 : List Ru) (h1 : RIn R1 W v1 l1) (h2 : RIn R2 W v2 l2) (r1 : ∀ j,R1 j → j < W.heap.size) (r2 : ∀ j,R2 j → j < W.heap.size) (n1 : l1.length ≤ 400) (n2 : l2.length ≤ 400) (hne : l2 ≠ []) (b : Nat) (b1 : W.cell? ⟨b,0,none⟩ = some v1) (b2 : W.cell? ⟨b,1,none⟩ = some v2) :
  Calls Tryz.prog 68 #[.slice (some ⟨b,0,none⟩) 2 2] W fun e w' => ∃ v,e = .returned v ∧ Below W.heap.size W w' ∧ RIn (fun j => R1 j ∨ R2 j ∨ (W.heap.size ≤ j ∧ j < w'.heap.size)) w' v (l1 ++ l2) := by
 obtain ⟨i0,hi,hz0,hz1,hz2⟩ := info_parts Tryz.infoRule
 have hpos : 1 ≤ l2.length := List.length_pos_iff.2 hne
 obtain ⟨p1,c1,rfl,hc1,hn1,-⟩ := h1 W (Nat.le_refl _) fun _ _ => rfl
 obtain ⟨p2,c2,rfl,hc2,hn2,hh2⟩ := h2 W (Nat.le_refl _) fun _ _ => rfl
 obtain ⟨g2,o2,rfl,-,-⟩ := hh2 hne
 clear hh2 hc2 hn2
 obtain ⟨d2,e2,x2,u2⟩ := h2.cells
 have D2 : d2.length = l2.length := by rw [← e2];simp
 have q2 := ruCells_one fun x hx => (x2 x hx).1
 have z2 := ruCells_len d2
 rw [D2] at z2
 have U2 : Hid (∀ w',Below W.heap.size W w' → ∀ j u,(ruCells d2)[j]? = some u → w'.cell? ((⟨g2,o2,none⟩ : Addr).add j) = some u) := hid1 fun w' g j u hj => by
  have := u2 j u hj
  exact cell_below' this g
 have HG := hid1 (growR_calls (l1.length + l2.length) (by omega) (by omega) W)
 have key : ∃ d1 : List (Ru × Value),d1.map Prod.fst = l1 ∧ (∀ x ∈ d1,XIn R1 W x.2 x.1.ins) ∧ ((p1 = none ∧ c1 = 0 ∧ l1 = [] ∧ d1 = []) ∨ ∃ a,p1 = some a ∧ ∀ j u,(ruCells d1)[j]? = some u → W.cell? (a.add j) = some u) := by
  cases p1 with
  | none =>
   have h0 := hn1 rfl
   have h3 : l1 = [] := List.length_eq_zero_iff.1 (by omega)
   exact ⟨[],by rw [h3];rfl,fun x hx => by simp at hx,.inl ⟨rfl,h0,h3,rfl⟩⟩
  | some a => obtain ⟨d1,a1,a2,a3⟩ := h1.cells;exact ⟨d1,a1,a2,.inr ⟨a,rfl,a3⟩⟩
 obtain ⟨d1,e1,x1,k1⟩ := key
 have D1 : d1.length = l1.length := by rw [← e1];simp
 have HF : Hid (∀ w' v,Below W.heap.size W w' → w'.ownsRow W.heap.size 36 4 v (l1.length + l2.length) (ruCells d1 ++ ruCells d2) → RIn (fun j => R1 j ∨ R2 j ∨ (W.heap.size ≤ j ∧ j < w'.heap.size)) w' v (l1 ++ l2)) := hid1 fun w' v g ho => by
  rw [ruCells_app,← D1,← D2,← List.length_append] at ho
  have := RIn.of_owns (R := fun j => R1 j ∨ R2 j ∨ (W.heap.size ≤ j ∧ j < w'.heap.size)) ho (fun x hx => by
   rcases List.mem_append.1 hx with hx | hx
   ·exact (x1 x hx).imp2 r1 g fun j hj => .inl hj
   ·exact (x2 x hx).imp2 r2 g fun j hj => .inr (.inl hj)) fun j hj hj2 => .inr (.inr ⟨hj,hj2⟩)
  rw [List.map_append,e1,e2] at this
  exact this
 have q1 := ruCells_one fun x hx => (x1 x hx).1
 have z1 := ruCells_len d1
 rw [D1] at z1
 have U1 : Hid ((p1 = none ∧ c1 = 0 ∧ l1 = [] ∧ d1 = []) ∨ ∃ a,p1 = some a ∧ ∀ w',Below W.heap.size W w' → ∀ j u,(ruCells d1)[j]? = some u → w'.cell? (a.add j) = some u) := hid1 (by
  rcases k1 with h | ⟨a,e,h⟩
  ·exact .inl h
  ·refine .inr ⟨a,e,fun w' g j u hj => ?_⟩
   have := h j u hj
   exact cell_below' this g)
 have C0 : (ruCells d1 = [] ∧ l1.length = 0) ∨ 0 < 1 := .inr (by omega)
 clear h1 h2 e1 e2 x1 x2 k1 u2 D1 D2 hn1 hc1 C0 r1 r2
 generalize ruCells d1 = xs1 at *
 generalize ruCells d2 = xs2 at *
 generalize hN1 : l1.length = N1 at *
 generalize hN2 : l2.length = N2 at *
 have HN1 := hid1 hN1
 have w0 : wrap64 ((0 : Int) + (N1 : Int)) = (N1 : Int) := by unfold wrap64;omega
 have w1 : wrap64 ((N1 : Int) + (N2 : Int)) = ((N1 + N2 : Nat) : Int) := by unfold wrap64;omega
 have y1 : ¬ ((N1 : Int) < 0) := by omega
 have y2 : ¬ (((N1 + N2 : Nat) : Int) < 0) := by omega
 clear hN1 hN2
 go_enter Tryz.func68,Tryz.ntmps68
 go_wp2
 go_loopw [3,11] (fun sz iv wr => W = wr ∧ ((iv = .int .i64 0 ∧ sz = .int .i64 0) ∨ (iv = .int .i64 1 ∧ sz = .int .i64 N1) ∨ (iv = .int .i64 2 ∧ sz = .int .i64 ((N1 + N2 : Nat) : Int)))) (fun _ iv _ => 2 - (intOf iv).toNat)
 case atStart => exact ⟨rfl,.inl ⟨rfl,rfl⟩⟩
 case round =>
  obtain ⟨rfl,⟨rfl,rfl⟩ | ⟨rfl,rfl⟩ | ⟨rfl,rfl⟩⟩ := hrel
  ·go_wp2
   exact ⟨⟨by trivial,.inr (.inl ⟨by go_num,rfl⟩)⟩,by simp [intOf]⟩
  ·go_wp2
   exact ⟨⟨by trivial,.inr (.inr ⟨by go_num,rfl⟩)⟩,by simp [intOf]⟩
  ·go_wp2_with fail
   refine HG.out.mono ?_
   rintro e w3 ⟨g,c,rfl,hown,g3⟩
   have HO := hid1 hown
   have HG3 := hid1 g3
   clear hown HG g3
   go_wp2
   go_loopw [6,27] (fun ov iv wq => Below W.heap.size W wq ∧ ((iv = .int .i64 0 ∧ wq.ownsRow W.heap.size 36 4 ov 0 []) ∨ (iv = .int .i64 1 ∧ wq.ownsRow W.heap.size 36 4 ov N1 xs1) ∨ (iv = .int .i64 2 ∧ wq.ownsRow W.heap.size 36 4 ov (N1 + N2) (xs1 ++ xs2)))) (fun _ iv _ => 2 - (intOf iv).toNat)
   case atStart => exact ⟨HG3.out,.inl ⟨rfl,HO.out⟩⟩
   case round =>
    obtain ⟨B0,hr⟩ := hrel
    have d1c := cell_below' b1 B0
    have d2c := cell_below' b2 B0
    have HB0 := hid1 B0
    have hsz := B0.size
    have hml1 : 0 + N1 ≤ maxLen := by unfold maxLen;omega
    have hml2 : N1 + N2 ≤ maxLen := by unfold maxLen;omega
    rcases hr with ⟨rfl,hown⟩ | ⟨rfl,hown⟩ | ⟨rfl,hown⟩
    ·rcases U1.out with ⟨rfl,rfl,rfl,rfl⟩ | ⟨a,rfl,hU⟩
     ·have HQ : Hid (List.length ([] : List Ru) = N1) := HN1
      have HX : Hid (xs1 = []) := hid1 (List.length_eq_zero_iff.1 (by rw [z1,← HQ.out];rfl))
      have dz := d1c
      rw [← HQ.out] at dz
      have d0 : wr.cell? ⟨b,0,none⟩ = some (.slice none 0 0) := dz
      clear B0 HO d1c dz b1
      go_wp2_with (at_builtin;refine wpList_append_own_none rfl _ _ 49 rfl W.heap.size 36 i0 4 Tryz.underlying49 hi _ _ _ rfl hown rfl ?_)
      exact ⟨⟨HB0.out,.inr (.inl ⟨by go_num,by rw [HX.out,← HQ.out];exact hown⟩)⟩,by simp [intOf]⟩
     ·have hU' := hU _ B0
      have hlow := row_low4 hown
      clear B0 HO hU
      go_wp2_with (at_builtin;refine wpList_append_own _ rfl _ _ 49 rfl W.heap.size 36 i0 (.agg #[.string ⟨#[]⟩,.string ⟨#[]⟩,.string ⟨#[]⟩,.slice none 0 0]) 4 72 Tryz.underlying49 hi hz0 hz1 hz2 rfl (by decide) _ _ _ rfl hown a N1 c1 xs1 rfl z1 hU' q1 hml1 (by omega) hsz ?_;intro v' w5 hown' hgrow _)
      rw [Nat.zero_add,List.nil_append] at hown'
      exact ⟨⟨HB0.out.grown hgrow hsz hlow,.inr (.inl ⟨by go_num,hown'⟩)⟩,by simp [intOf]⟩
    ·have hU' := U2.out _ B0
     have hlow := row_low4 hown
     clear B0 HO U2
     go_wp2_with (at_builtin;refine wpList_append_own _ rfl _ _ 49 rfl W.heap.size 36 i0 (.agg #[.string ⟨#[]⟩,.string ⟨#[]⟩,.string ⟨#[]⟩,.slice none 0 0]) 4 72 Tryz.underlying49 hi hz0 hz1 hz2 rfl (by decide) _ _ _ rfl hown ⟨g2,o2,none⟩ N2 c2 xs2 rfl z2 hU' q2 hml2 (by omega) hsz ?_;intro v' w5 hown' hgrow _)
     exact ⟨⟨HB0.out.grown hgrow hsz hlow,.inr (.inr ⟨by go_num,hown'⟩)⟩,by simp [intOf]⟩
    ·have HR := hid1 (HF.out _ _ B0 hown)
     obtain ⟨p9,c9,rfl⟩ := own_slice hown
     clear hown B0 HO HF
     go_wp2
     go_ret
     exact ⟨_,rfl,HB0.out,HR.out⟩
variable {es : Nat → Addr} {At : (Nat → Prop) → World → Value → Nat → Cf.Ens → Prop} {BAt : (Nat → Prop) → World → Value → Value → Bf.Bd → Prop}
theorem Ru.small_of {r : Ru} (h : r.err = 0) : r.Small := by
 unfold Ru.err at h
 split at h
 ·cases h
 ·rename_i h1
  split at h
  ·rename_i h2;exact absurd h h2
  ·rename_i h2
   split at h
   ·cases h
   ·rename_i h3
    have ha : Af.actE r.kind r.word r.ins.length = 0 := Classical.byContradiction h2
    unfold Af.actE at ha
    split at ha
    ·cases ha
    ·rename_i k hk
     split at ha
     ·cases ha
     ·rename_i h4
      split at ha
      ·cases ha
      ·rename_i h5
       have hkn := Af.kindOf_some hk
       have hm : k.most ≤ 8 := by cases k <;> decide
       have hnl : k.name.length ≤ 5 := by cases k <;> decide
       have hall : ∀ x ∈ r.ins,pathB x = true := by
        have : r.ins.all pathB = true := by simpa using h3
        exact List.all_eq_true.1 this
       refine ⟨?_,by rw [hkn];omega,by omega,?_,fun x hx => ?_⟩
       ·have := pathLen (p := r.out) (by simpa using h1);omega
       ·have : ¬ ((k.most : Int) < (r.ins.length : Int)) := fun e => h4 (.inr (.inl e));omega
       ·have := pathLen (hall x hx);omega
theorem Ru.small_fault {l : List Ru} (h : (Ru.fault l).1 = 0) : ∀ x ∈ l,x.Small := by
 have h40 := (Ru.fault_ok h).1
 have hz : ∀ j,j < l.length → Ru.errAt l j = 0 := by
  unfold Ru.fault at h
  rw [if_neg (by omega)] at h
  split at h
  ·rename_i k hk
   exact absurd h (Ru.first_some_ne hk)
  ·rename_i hk
   exact fun j hj => Ru.first_none_zero hk j hj
 intro x hx
 obtain ⟨j,hj,rfl⟩ := List.getElem_of_mem hx
 have h1 := hz j hj
 rw [Ru.errAt_eq hj] at h1
 refine Ru.small_of (Classical.byContradiction fun h2 => ?_)
 rw [if_pos h2] at h1
 exact h2 h1
theorem Rd.small {s : List UInt8} (h : (Rd.fault s).1 = 0) : ∀ x ∈ Rd.rules (Rd.lines s),x.Small := by
 unfold Rd.fault at h
 split at h
 ·cases h
 ·split at h
  ·cases h
  ·exact Ru.small_fault h
theorem addRule_calls (HC : Caches0 es At) {B : Nat} {W : World} {pb yb : Nat} {L : YL} {y : Bf.Yd} {sv : Value} {RS : Nat → Prop} (h : ScAt At B W pb yb L y sv RS) {m : Int} (hB : ScB B W es m) (s : List UInt8) (hs : s.length ≤ 90000) :
  Calls Tryz.prog 45 #[Ptr pb,.string (ba s)] W (Does es At B W pb yb L RS (Sc.ruleY y s) (Sc.ruleA y s)) := by
 have hBW := h.bw
 have c1 := h.c1
 have HR := hid1 (ruRead_calls hB.y.build.w.g.s hB.text m hB.max (s ++ [10]) (by simp;omega))
 have hcat : ba s ++ { data := #[10] } = ba (s ++ [10]) := by rw [show (ByteArray.mk #[10]) = ba [10] from rfl,ba_append]
 have HDE := hid1 fun (w' : World) (g : Below W.heap.size W w') (ev : Value) (c : Nat) (k : Int) (hE : ErrV w' es ev (c,k)) (hc : c ≠ 0) => Does.errV HC h g hE hc []
 have HDT := hid1 fun (V : World) (g : Below W.heap.size W V) => Does.err (es := es) HC h g (c := 0) (by omega) []
 have hx := hB.text
 have HA := hid1 fun (V w' : World) (g : Below W.heap.size W V) (e : Ending) (y' : Bf.Yd) (a : Sc.An) (R2 : Nat → Prop) (hR : ∀ j,R2 j → j < W.heap.size → RS j) (hd : Does es At B V pb yb L R2 y' a e w') => Does.aheadR h.bw g hd hR
 have HSm := hid1 (Rd.small (s := s ++ [10]))
 have h40 := h.ok.l.len
 have HTk := hid1 fun (V : World) (g : Below W.heap.size W V) (v : Value) (l : List Ru) (R : Nat → Prop) (hR : SheetIn V L pb v l R) (hl : l.length ≤ 1000) (hS : ∀ x ∈ l,x.Small) => sptake_calls HC (h.below HC g) (hB.trans (g.mono h.bw)) v l R hR hl hS
 have HY := hid1 h
 have hlt := h.lt
 obtain ⟨ps,cs,rfl,-⟩ := h.rrow
 unfold Sc.ruleY
 have HQ : Hid (Sc.ruleA y s = if (Rd.fault (s ++ [10])).1 ≠ 0 then ([],(Rd.fault (s ++ [10])).1) else if (Rd.rules (Rd.lines (s ++ [10]))).length = 1 then Sc.takeA (y.l ++ Rd.rules (Rd.lines (s ++ [10]))) else ([],1)) := hid1 rfl
 generalize Sc.ruleA y s = ra at *
 generalize Rd.rules (Rd.lines (s ++ [10])) = rl at *
 obtain ⟨fc,fk,hft⟩ : ∃ fc fk,Rd.fault (s ++ [10]) = (fc,fk) := ⟨_,_,rfl⟩
 rw [hft] at HR HSm HQ
 clear hft
 simp only at HR HSm HQ
 generalize ba (s ++ [10]) = bs at *
 clear h hB HC
 by_cases hf : fc = 0
 ·subst hf
  by_cases hn : rl.length = 1
  ·have e1 : ra = Sc.takeA (y.l ++ rl) := by rw [HQ.out,if_neg (by omega),if_pos hn]
   subst e1
   have HTY : Hid ((if (Sc.takeA (y.l ++ rl)).2 = 0 then { y with l := y.l ++ rl } else y) = Sc.takeY y (y.l ++ rl)) := hid1 rfl
   rw [HTY.out]
   have hne : rl ≠ [] := fun e => by rw [e] at hn;simp at hn
   have hn4 : rl.length ≤ 400 := by omega
   have HSl : Hid (∀ x ∈ y.l ++ rl,x.Small) := hid1 fun x hx => by
    rcases List.mem_append.1 hx with hx | hx
    ·exact HY.out.ok.l.small x hx
    ·exact HSm.out rfl x hx
   clear HQ HTY HSm HDE HDT hx
   generalize hty : Sc.takeY y (y.l ++ rl) = ty at *
   generalize hta : Sc.takeA (y.l ++ rl) = ta at *
   have HTY := hid1 hty
   have HTA := hid1 hta
   clear hty hta
   go_enter Tryz.func45,Tryz.ntmps45
   go_wp2_with fail
   refine HR.out.mono ?_
   rintro e w1 ⟨v,ev,rfl,g1,-,hok⟩
   obtain ⟨rfl,hN⟩ := hok (by trivial)
   obtain ⟨p2,c2,ev2,-⟩ := hN w1 (Nat.le_refl _) fun _ _ _ => rfl
   rw [hn] at ev2
   subst ev2
   have d1 := cell_below' c1 g1
   have gA : Below w1.heap.size w1 (w1.alloc (.cells #[.slice ps y.l.length cs,.slice p2 1 c2] 49)) := (Below.refl _ w1).alloc (Nat.le_refl _) _
   have rA := row_newW w1 (.cells #[.slice ps y.l.length cs,.slice p2 1 c2] 49)
   have GA := below_then g1 gA
   have k1 : RIn RS (w1.alloc (.cells #[.slice ps y.l.length cs,.slice p2 1 c2] 49)) (.slice ps y.l.length cs) y.l := RIn.below (W := W) HY.out.rows HY.out.rlt GA
   have k2 : RIn (fun j => W.heap.size ≤ j ∧ j < w1.heap.size) (w1.alloc (.cells #[.slice ps y.l.length cs,.slice p2 1 c2] 49)) (.slice p2 1 c2) rl := RIn.below (W := w1) (fun V hz hV => hN V hz fun j h1 h2 => hV j ⟨h1,h2⟩) (fun j hj => hj.2) gA
   have sA : (w1.alloc (.cells #[.slice ps y.l.length cs,.slice p2 1 c2] 49)).heap.size = w1.heap.size + 1 := by simp
   have HCc := hid1 (concatR_calls (.slice ps y.l.length cs) (.slice p2 1 c2) y.l rl k1 k2 (fun j hj => by have := HY.out.rlt j hj;have := g1.size;omega) (fun j hj => by have := hj.2;omega) (by omega) (by omega) hne w1.heap.size (cell_of_row (j := 0) rA rfl) (cell_of_row (j := 1) rA rfl))
   have HSh : Hid (∀ w2 v,Below (w1.alloc (.cells #[.slice ps y.l.length cs,.slice p2 1 c2] 49)).heap.size (w1.alloc (.cells #[.slice ps y.l.length cs,.slice p2 1 c2] 49)) w2 → RIn (fun j => RS j ∨ (W.heap.size ≤ j ∧ j < w1.heap.size) ∨ ((w1.alloc (.cells #[.slice ps y.l.length cs,.slice p2 1 c2] 49)).heap.size ≤ j ∧ j < w2.heap.size)) w2 v (y.l ++ rl) → SheetIn w2 L pb v (y.l ++ rl) (fun j => RS j ∨ (W.heap.size ≤ j ∧ j < w1.heap.size) ∨ ((w1.alloc (.cells #[.slice ps y.l.length cs,.slice p2 1 c2] 49)).heap.size ≤ j ∧ j < w2.heap.size))) := hid1 fun w2 v g2 hR => by
    have z1 := g1.size
    have z2 := g2.size
    refine ⟨hR,fun j hj => ?_,fun j hj => ?_,fun j hj => ?_⟩
    ·rcases hj with hj | hj | hj
     ·have := HY.out.rlt j hj;omega
     ·have := hj.2;omega
     ·exact hj.2
    ·rcases hj with hj | hj | hj
     ·exact HY.out.kr j hj
     ·exact HY.out.new j hj.1
     ·exact HY.out.new j (by have := hj.1;omega)
    ·rcases hj with hj | hj | hj
     ·exact HY.out.np j hj
     ·have := hj.1;omega
     ·have := hj.1;omega
   clear k1 k2 hN hok HR rA c1
   generalize hwA : w1.alloc (.cells #[.slice ps y.l.length cs,.slice p2 1 c2] 49) = wA at *
   go_wp2_with fail
   refine HCc.out.mono ?_
   rintro e w2 ⟨v3,rfl,g2,hR3⟩
   have G2 := below_then GA g2
   have HT2 := hid1 (HTk.out w2 G2 v3 (y.l ++ rl) _ (HSh.out w2 v3 g2 hR3) (by rw [List.length_append];omega) HSl.out)
   rw [HTY.out,HTA.out] at HT2
   obtain ⟨p3,n3,c3,rfl⟩ : ∃ p n c,v3 = .slice p n c := by
    obtain ⟨p,c,e,-⟩ := hR3 w2 (Nat.le_refl _) fun _ _ => rfl
    exact ⟨_,_,_,e⟩
   clear HCc HSh HTk hR3 HSl
   go_wp2_with fail
   refine HT2.out.mono ?_
   rintro e w3 ⟨t,ev,rfl,hd⟩
   have HD := hid1 (HA.out w2 w3 G2 _ _ _ _ (fun j hj hl => hj.elim id fun h => h.elim id fun h => h.elim (fun h => by have := h.1;omega) fun h => by have := h.1;have := g1.size;have := gA.size;omega) ⟨t,ev,rfl,hd⟩)
   clear HT2 HA hd
   go_wp2
   go_ret2
   exact HD.out
  ·have e1 : ra = ([],1) := by rw [HQ.out,if_neg (by omega),if_neg hn]
   subst e1
   simp only [Nat.one_ne_zero,if_false]
   simp only [erOf] at hx HDT
   clear HQ HSm HDE HTk HA
   go_enter Tryz.func45,Tryz.ntmps45
   go_wp2_with fail
   refine HR.out.mono ?_
   rintro e w1 ⟨v,ev,rfl,g1,-,hok⟩
   obtain ⟨rfl,hN⟩ := hok (by trivial)
   obtain ⟨p2,c2,rfl,-⟩ := hN w1 (Nat.le_refl _) fun _ _ _ => rfl
   have z : ((rl.length : Int) == 1) = false := by rw [beq_eq_false_iff_ne];omega
   have z' : ¬ ((rl.length : Int) = 1) := by omega
   have hx1 := cell_below' hx g1
   have HD := hid1 (HDT.out _ g1.drew)
   clear HR HDT hN hok
   go_wp2
   go_region
   go_wp2
   go_ret2
   exact HD.out
 ·have e1 : ra = ([],fc) := by rw [HQ.out,if_pos hf]
  subst e1
  simp only [hf,if_false]
  clear HQ HSm HDT HTk HA
  go_enter Tryz.func45,Tryz.ntmps45
  go_wp2_with fail
  refine HR.out.mono ?_
  rintro e w1 ⟨v,ev,rfl,g1,hE,-⟩
  have HD := hid1 (HDE.out w1 g1 ev fc fk hE hf)
  obtain ⟨t,u,rfl⟩ := hE.face hf
  clear HR HDE hE
  go_wp2
  go_ret2
  exact HD.out
end Go.Proofs.YtdljhggillgpfaaGreatDoor
namespace Go.Proofs.YtdljhggillgpfaaGreatDoor
namespace Bf
theorem made_eq (y : Yd) : y.made [] = all Af.actO y.c (init y.fs y.l (y.l.map Ru.out)) := by
 unfold Yd.made whole
 rw [if_pos rfl]
end Bf
end Go.Proofs.YtdljhggillgpfaaGreatDoor
namespace Go.Proofs.YtdljhggillgpfaaGreatDoor
namespace Bf
end Bf
namespace Pl
open Bf
def l : List Ru := [⟨[97,108,108],[106,111,105,110],[43],[[97,46,117,112],[98,46,117,112]]⟩,⟨[97,46,117,112],[117,112,112,101,114],[],[[97]]⟩,⟨[98,46,117,112],[117,112,112,101,114],[],[[98]]⟩,⟨[115,114,116],[115,111,114,116],[],[[97],[98],[99]]⟩,⟨[99,110,116],[99,111,117,110,116],[],[[97,108,108],[115,114,116]]⟩,⟨[104,100],[104,101,97,100],[49],[[115,114,116]]⟩]
theorem order0 : Ru.order l allB1 = some [1,2,0,3,4,5] := by kernel_rfl
theorem small : ∀ x ∈ l,x.Small := fun x hx => by
 simp only [l,List.mem_cons,List.not_mem_nil,or_false] at hx
 rcases hx with rfl | rfl | rfl | rfl | rfl | rfl <;> exact ⟨by decide,by decide,by decide,by decide,by decide⟩
def file (q : Nat) : List UInt8 := if q % 3 = 0 then [97] else if q % 3 = 1 then [98] else [99]
def bit (n k : Nat) : UInt8 := if n / 2 ^ (4 - k) % 2 = 1 then 120 else 10
def lets (n : Nat) : List UInt8 := [bit n 0,bit n 1,bit n 2,bit n 3,bit n 4]
def outN (q : Nat) : List UInt8 := (l.getD (q % 6) ⟨[],[],[],[]⟩).out
noncomputable def stepQ (y : Yd) (wh q : Nat) : Yd :=
 if wh < 4 then { y with fs := Tf.putF pathB y.fs (file q) (lets (q / 3 % 32)) }
 else if wh = 4 then { y with fs := Tf.del y.fs (file q) }
 else if wh = 5 then y.makeP []
 else if wh = 6 then y.makeP [outN q]
 else y.makeP [[104,100],[99,110,116]]
def codeQ (y : Yd) (wh q : Nat) : Nat :=
 if wh < 4 then Tf.putCode pathB y.fs (file q) (lets (q / 3 % 32))
 else if wh = 4 then if Tf.hasP y.fs (file q) then 0 else 6
 else 0
noncomputable def step (y : Yd) (v : Int) : Yd := if v < 0 then y else stepQ y (v.toNat % 8) (v.toNat / 8)
def ans (y : Yd) (v : Int) : Int := if v < 0 then -1 else (codeQ y (v.toNat % 8) (v.toNat / 8) : Nat)
noncomputable def run (y : Yd) : List Int → Yd
 | [] => y
 | v :: r => run (step y v) r
noncomputable def answers (y : Yd) : List Int → List Int
 | [] => []
 | v :: r => ans y v :: answers (step y v) r
theorem run_snoc : ∀ (a : List Int) (y : Yd) (v : Int),run y (a ++ [v]) = step (run y a) v
 | [],_,_ => rfl
 | x :: r,y,v => run_snoc r (step y x) v
theorem answers_snoc : ∀ (a : List Int) (y : Yd) (v : Int),answers y (a ++ [v]) = answers y a ++ [ans (run y a) v]
 | [],_,_ => rfl
 | x :: r,y,v => by
  show ans y x :: answers (step y x) (r ++ [v]) = _
  rw [answers_snoc r]
  rfl
theorem answers_len : ∀ (a : List Int) (y : Yd),(answers y a).length = a.length
 | [],_ => rfl
 | x :: r,y => by
  show (answers (step y x) r).length + 1 = _
  rw [answers_len r]
  rfl
def y0 : Yd := ⟨[],[],l,some (8,[])⟩
theorem wellnil : Tf.Well pathB [] := ⟨List.Pairwise.nil,by simp,fun f hf => by simp at hf,fun f hf => by simp at hf⟩
end Pl
end Go.Proofs.YtdljhggillgpfaaGreatDoor
namespace Go.Proofs.YtdljhggillgpfaaGreatDoor
open Go.RowKit Go.Shelf Go.Lib
namespace Pl
def lines : List (List UInt8) := [[97,108,108,32,61,32,106,111,105,110,32,34,43,34,32,97,46,117,112,32,98,46,117,112],[97,46,117,112,32,61,32,117,112,112,101,114,32,97],[98,46,117,112,32,61,32,117,112,112,101,114,32,98],[115,114,116,32,61,32,115,111,114,116,32,97,32,98,32,99],[99,110,116,32,61,32,99,111,117,110,116,32,97,108,108,32,115,114,116],[104,100,32,61,32,104,101,97,100,32,34,49,34,32,115,114,116]]
def text : List UInt8 := lines.flatMap fun x => x ++ [10]
theorem cut : cutB 10 text = lines ++ [[]] := by decide
theorem line0 : LineOf lines[0] l[0] := ⟨3,10,14,[43],⟨by decide,by decide,by decide,by decide,by decide,by decide,by decide,fun _ => rfl,fun _ => rfl,.inr ⟨by decide,by decide,fun _ => rfl,by decide,by decide,fun _ => rfl⟩,by decide⟩,rfl⟩
theorem line1 : LineOf lines[1] l[1] := ⟨4,12,12,[],⟨by decide,by decide,by decide,by decide,by decide,by decide,by decide,fun _ => rfl,fun _ => rfl,.inl ⟨rfl,rfl,fun _ => (by decide : (97 : UInt8) ≠ 34)⟩,by decide⟩,rfl⟩
theorem line2 : LineOf lines[2] l[2] := ⟨4,12,12,[],⟨by decide,by decide,by decide,by decide,by decide,by decide,by decide,fun _ => rfl,fun _ => rfl,.inl ⟨rfl,rfl,fun _ => (by decide : (98 : UInt8) ≠ 34)⟩,by decide⟩,rfl⟩
theorem line3 : LineOf lines[3] l[3] := ⟨3,10,10,[],⟨by decide,by decide,by decide,by decide,by decide,by decide,by decide,fun _ => rfl,fun _ => rfl,.inl ⟨rfl,rfl,fun _ => (by decide : (97 : UInt8) ≠ 34)⟩,by decide⟩,rfl⟩
theorem line4 : LineOf lines[4] l[4] := ⟨3,11,11,[],⟨by decide,by decide,by decide,by decide,by decide,by decide,by decide,fun _ => rfl,fun _ => rfl,.inl ⟨rfl,rfl,fun _ => (by decide : (97 : UInt8) ≠ 34)⟩,by decide⟩,rfl⟩
theorem line5 : LineOf lines[5] l[5] := ⟨2,9,13,[49],⟨by decide,by decide,by decide,by decide,by decide,by decide,by decide,fun _ => rfl,fun _ => rfl,.inr ⟨by decide,by decide,fun _ => rfl,by decide,by decide,fun _ => rfl⟩,by decide⟩,rfl⟩
theorem line (i : Nat) (h : i < lines.length) (h' : i < l.length) : LineOf lines[i] l[i] := by
 have hi : i < 6 := h
 have : i = 0 ∨ i = 1 ∨ i = 2 ∨ i = 3 ∨ i = 4 ∨ i = 5 := by omega
 rcases this with rfl | rfl | rfl | rfl | rfl | rfl
 ·exact line0
 ·exact line1
 ·exact line2
 ·exact line3
 ·exact line4
 ·exact line5
end Pl
theorem allocs_heap (os : List Obj) : ∀ w : World,(os.foldl World.alloc w).heap = w.heap ++ os.toArray := by
 induction os with
 | nil => intro w;simp
 | cons o r ih =>
  intro w
  show (r.foldl World.alloc (w.alloc o)).heap = _
  rw [ih]
  show (w.heap.push o) ++ r.toArray = _
  apply Array.ext'
  simp
theorem allocs_below (os : List Obj) : ∀ w : World,Below w.heap.size w (os.foldl World.alloc w) := by
 induction os with
 | nil => intro w;exact Below.refl _ _
 | cons o r ih =>
  intro w
  have h1 : Below w.heap.size w (w.alloc o) := (Below.refl _ w).alloc (Nat.le_refl _) _
  exact h1.trans ((ih (w.alloc o)).mono h1.size)
theorem xrow_lit {V : World} {g : Nat} {l : List (List UInt8)} (h : V.heap[g]? = some (.cells (l.map sv).toArray 9)) : XRow V (.slice (some ⟨g,0,none⟩) l.length l.length) l :=
 ⟨_,_,rfl,Nat.le_refl _,fun h => (by cases h),fun _ => ⟨g,0,rfl,(Array.getElem?_eq_some_iff.1 h).1,fun j hj => by
  rw [Nat.zero_add]
  exact cell_of_row h (by simp [hj,sv])⟩⟩
namespace Pl
abbrev st (s : List UInt8) : Value := .string (ba s)
abbrev insO (l : List (List UInt8)) : Obj := .cells (l.map sv).toArray 9
def rulesO (n : Nat) : Obj := .cells #[st [97,108,108],st [106,111,105,110],st [43],.slice (some ⟨n,0,none⟩) 2 2,st [97,46,117,112],st [117,112,112,101,114],st [],.slice (some ⟨n + 1,0,none⟩) 1 1,st [98,46,117,112],st [117,112,112,101,114],st [],.slice (some ⟨n + 2,0,none⟩) 1 1,st [115,114,116],st [115,111,114,116],st [],.slice (some ⟨n + 3,0,none⟩) 3 3,st [99,110,116],st [99,111,117,110,116],st [],.slice (some ⟨n + 4,0,none⟩) 2 2,st [104,100],st [104,101,97,100],st [49],.slice (some ⟨n + 5,0,none⟩) 1 1] 36
def objs (n : Nat) : List Obj := [insO [[97,46,117,112],[98,46,117,112]],insO [[97]],insO [[98]],insO [[97],[98],[99]],insO [[97,108,108],[115,114,116]],insO [[115,114,116]],rulesO n]
theorem row {V w : World} (h : ∀ i,i < 7 → V.heap[w.heap.size + i]? = (objs w.heap.size)[i]?) : RRow V (.slice (some ⟨w.heap.size + 6,0,none⟩) 6 6) l := by
 have h6 : V.heap[w.heap.size + 6]? = some (rulesO w.heap.size) := h 6 (by decide)
 refine ⟨_,_,rfl,by decide,fun h => (by cases h),fun _ => ⟨w.heap.size + 6,0,rfl,(Array.getElem?_eq_some_iff.1 h6).1,fun j hj => ?_⟩⟩
 have hj' : j < 6 := hj
 have : j = 0 ∨ j = 1 ∨ j = 2 ∨ j = 3 ∨ j = 4 ∨ j = 5 := by omega
 rcases this with rfl | rfl | rfl | rfl | rfl | rfl
 ·exact ⟨cell_of_row (j := 0) h6 rfl,cell_of_row (j := 1) h6 rfl,cell_of_row (j := 2) h6 rfl,_,cell_of_row (j := 3) h6 rfl,xrow_lit (l := [[97,46,117,112],[98,46,117,112]]) (h 0 (by decide))⟩
 ·exact ⟨cell_of_row (j := 4) h6 rfl,cell_of_row (j := 5) h6 rfl,cell_of_row (j := 6) h6 rfl,_,cell_of_row (j := 7) h6 rfl,xrow_lit (l := [[97]]) (h 1 (by decide))⟩
 ·exact ⟨cell_of_row (j := 8) h6 rfl,cell_of_row (j := 9) h6 rfl,cell_of_row (j := 10) h6 rfl,_,cell_of_row (j := 11) h6 rfl,xrow_lit (l := [[98]]) (h 2 (by decide))⟩
 ·exact ⟨cell_of_row (j := 12) h6 rfl,cell_of_row (j := 13) h6 rfl,cell_of_row (j := 14) h6 rfl,_,cell_of_row (j := 15) h6 rfl,xrow_lit (l := [[97],[98],[99]]) (h 3 (by decide))⟩
 ·exact ⟨cell_of_row (j := 16) h6 rfl,cell_of_row (j := 17) h6 rfl,cell_of_row (j := 18) h6 rfl,_,cell_of_row (j := 19) h6 rfl,xrow_lit (l := [[97,108,108],[115,114,116]]) (h 4 (by decide))⟩
 ·exact ⟨cell_of_row (j := 20) h6 rfl,cell_of_row (j := 21) h6 rfl,cell_of_row (j := 22) h6 rfl,_,cell_of_row (j := 23) h6 rfl,xrow_lit (l := [[115,114,116]]) (h 5 (by decide))⟩
theorem laid (w : World) : Below w.heap.size w ((objs w.heap.size).foldl World.alloc w) ∧ RNew w.heap.size ((objs w.heap.size).foldl World.alloc w) (.slice (some ⟨w.heap.size + 6,0,none⟩) 6 6) l := by
 refine ⟨allocs_below _ w,fun V hz hV => row (w := w) fun i hi => ?_⟩
 have hh := allocs_heap (objs w.heap.size) w
 have hs : ((objs w.heap.size).foldl World.alloc w).heap.size = w.heap.size + 7 := by rw [hh];simp [objs]
 rw [hV (w.heap.size + i) (by omega) (by omega),hh,Array.getElem?_append_right (by omega)]
 simp
end Pl
end Go.Proofs.YtdljhggillgpfaaGreatDoor
namespace Go.Proofs.YtdljhggillgpfaaGreatDoor
open Go.RowKit Go.Shelf Go.Lib
variable {es : Nat → Addr} {At : (Nat → Prop) → World → Value → Nat → Cf.Ens → Prop} {BAt : (Nat → Prop) → World → Value → Value → Bf.Bd → Prop}
theorem owns_same {w V : World} {B : Nat} {e : TypeId} {s n : Nat} {v : Value} {xs : List Value} (h : w.ownsRow B e s v n xs) (hb : ∀ b,v.ownBlock = some b → b < w.heap.size → V.heap[b]? = w.heap[b]?) : V.ownsRow B e s v n xs := by
 refine ⟨h.1,?_⟩
 rcases h.2 with h2 | ⟨g,c,cu,e1,hbg,hg,h3⟩
 ·exact .inl h2
 ·exact .inr ⟨g,c,cu,e1,hbg,(hb g (by rw [e1];rfl) (Array.getElem?_eq_some_iff.1 hg).1).trans hg,h3⟩
end Go.Proofs.YtdljhggillgpfaaGreatDoor
namespace Go.Proofs.YtdljhggillgpfaaGreatDoor
open Go.RowKit Go.Shelf Go.Lib
variable {es : Nat → Addr} {At : (Nat → Prop) → World → Value → Nat → Cf.Ens → Prop} {BAt : (Nat → Prop) → World → Value → Value → Bf.Bd → Prop}
namespace Pl
noncomputable def sum (y : Bf.Yd) : List UInt8 := Tf.textT y.os ++ [10] ++ Lib.join (Bf.stale y.fs y.os y.l) [32]
theorem join_few : ∀ {ls : List (List UInt8)},(∀ x ∈ ls,x.length ≤ 100) → (Lib.join ls [32]).length ≤ 101 * ls.length
 | [],_ => by simp [Lib.join]
 | [x],h => by
  have := h x (by simp)
  simp [Lib.join,List.intercalate]
  omega
 | x :: y :: r,h => by
  have h1 := h x (by simp)
  have h2 := join_few (ls := y :: r) fun z hz => h z (List.mem_cons_of_mem _ hz)
  have e : Lib.join (x :: y :: r) [32] = x ++ ([32] ++ Lib.join (y :: r) [32]) := by simp [Lib.join,List.intercalate]
  rw [e]
  simp only [List.length_append,List.length_cons,List.length_nil] at h2 ⊢
  omega
theorem stale_few {fs os : Tf.Fs} {l : List Ru} (hl : l.length ≤ 40) (hs : ∀ x ∈ l,x.out.length ≤ 100) : (Bf.stale fs os l).length ≤ 40 ∧ ∀ x ∈ Bf.stale fs os l,x.length ≤ 100 := by
 unfold Bf.stale
 refine ⟨?_,fun x hx => ?_⟩
 ·rw [Af.srt_len]
  have := List.length_filter_le (Bf.off fs os l) (l.map Ru.out)
  rw [List.length_map] at this
  omega
 ·have h1 := (Af.srt_perm _).mem_iff.1 hx
  obtain ⟨z,hz,rfl⟩ := List.mem_map.1 (List.mem_filter.1 h1).1
  exact hs z hz
end Pl
end Go.Proofs.YtdljhggillgpfaaGreatDoor
