import Derived.Test.YtflbofdpfgkmcaaGreatDoorRP35
import Derived.Orders
import Derived.Tactics
set_option maxRecDepth 100000
set_option maxHeartbeats 16000000
namespace Go.Proofs.YtflbofdpfgkmcaaGreatDoor
open Go.RowKit Go.Shelf Go.Lib
structure MFit (d : Bf.Bd) : Prop where
 few : d.l.length ≤ 40
 small : ∀ x ∈ d.l,x.Small
 apart : ∀ i j (hi : i < d.l.length) (hj : j < d.l.length),d.l[i].out = d.l[j].out → i = j
 rises : Tf.Rises d.fs
 files : d.fs.length ≤ 1000
 fit : Bf.Fit d
theorem MFit.same {d d' : Bf.Bd} (h : MFit d) (hl : d'.l = d.l) (hf : d'.fs = d.fs) (hF : Bf.Fit d') : MFit d' := by
 obtain ⟨fs',l',st'⟩ := d'
 obtain rfl : l' = d.l := hl
 obtain rfl : fs' = d.fs := hf
 exact ⟨h.few,h.small,h.apart,h.rises,h.files,hF⟩
theorem mbRun_calls {w0 W : World} {mb tb : Nat} {tv lv cv : Value} {gs go gh gw : Nat} {d : Bf.Bd} (h : MB w0 W mb tb tv lv cv gs go gh gw d) (hF : MFit d)
  {act : Bf.Act} (hAct : ActTells act) {c : Bf.Ca} (hCf : Bf.CFit c) {T : Nat → Prop} (hca : MCa T W cv c) (hT : ∀ j,MBlk mb tb tv gs go gh gw j → ¬ T j) (hT0 : ∀ j,T j → w0.heap.size ≤ j) (i : Int) :
  Calls Tryz.prog 66 #[.pointer (some ⟨mb,0,none⟩),.int .i64 i] W fun e w' => e = .returned (.tuple #[.bool (Bf.run act c d i).hit,.int .i64 ((Bf.run act c d i).code : Nat)]) ∧ MB w0 w' mb tb tv lv cv gs go gh gw (Bf.run act c d i).d ∧ Only (fun j => MBlk mb tb tv gs go gh gw j ∨ T j) W w' ∧ ∃ T',MCa T' w' cv (Bf.run act c d i).c ∧ ∀ j,T' j → T j ∨ W.heap.size ≤ j := by
 by_cases hi : i < 0 ∨ (d.l.length : Int) ≤ i
 ·have e : Bf.run act c d i = ⟨false,6,d,c⟩ := by unfold Bf.run;rw [if_pos hi]
  rw [e]
  exact (mbRun_out h i hi).mono fun e w' ⟨h1,h2⟩ => ⟨h1,h.below h2,Only.of h2,T,hca.below h2,fun j hj => .inl hj⟩
 ·obtain ⟨n,rfl⟩ : ∃ n : Nat,i = n := ⟨i.toNat,by omega⟩
  have hn : n < d.l.length := by omega
  have e : Bf.run act c d n = Bf.runN act c d n := by unfold Bf.run;rw [if_neg hi];simp
  cases hr : d.isReady n with
  | false =>
   rw [e]
   refine (mbRun_not h (by have := hF.few;omega) (fun x hx => by have := (hF.small x hx).many;omega) n hn hr act c).mono ?_
   rintro e w' ⟨h1,h2,h3,h4⟩
   rw [h2,h3]
   exact ⟨h1,h.below h4,Only.of h4,T,hca.below h4,fun j hj => .inl hj⟩
  | true =>
   rw [Bf.run_ready act c d n hn hr]
   have h0 : (Bf.go act c d n).code = 0 := by
    unfold Bf.go
    split
    ·rfl
    ·split
     ·rfl
     ·split <;> rfl
   rw [h0]
   exact mbRun_go h hF.few hF.small hF.apart hF.rises hF.files hF.fit hAct hCf hca hT hT0 n hn hr
theorem ownsRow_keep {S : Nat → Prop} {w w' : World} {B : Nat} {e : TypeId} {s n : Nat} {v : Value} {xs : List Value} (h : w.ownsRow B e s v n xs) (o : Only S w w') (hn : ∀ j,some j = v.ownBlock → ¬ S j) : w'.ownsRow B e s v n xs := by
 refine ⟨h.1,?_⟩
 rcases h.2 with h1 | ⟨g,cap,cur,e1,h0,hg,h2⟩
 ·exact .inl h1
 ·exact .inr ⟨g,cap,cur,e1,h0,(o.block g (Array.getElem?_eq_some_iff.1 hg).1 (hn g (by rw [e1];rfl))).trans hg,h2⟩
theorem mbAll_calls {w0 W : World} {mb tb : Nat} {tv lv cv : Value} {gs go gh gw : Nat} {d : Bf.Bd} (h : MB w0 W mb tb tv lv cv gs go gh gw d) (hF : MFit d)
  {act : Bf.Act} (hAct : ActTells act) (hAf : Bf.ActFit act) {c : Bf.Ca} (hCf : Bf.CFit c) {T : Nat → Prop} (hca : MCa T W cv c) (hT : ∀ j,MBlk mb tb tv gs go gh gw j → ¬ T j) (hT0 : ∀ j,T j → w0.heap.size ≤ j) :
  Calls Tryz.prog 69 #[.pointer (some ⟨mb,0,none⟩)] W fun e w' => (∃ u,e = .returned u) ∧ MB w0 w' mb tb tv lv cv gs go gh gw (Bf.all act c d).1 ∧ Only (fun j => MBlk mb tb tv gs go gh gw j ∨ T j) W w' ∧ ∃ T',MCa T' w' cv (Bf.all act c d).2 ∧ ∀ j,T' j → T j ∨ W.heap.size ≤ j := by
 have HH := hid1 h
 have HF := hid1 hF
 have HCf := hid1 hCf
 have HCa := hid1 hca
 have HT := hid1 hT
 have HT0 := hid1 hT0
 have HAct := hid1 hAct
 have HAf := hid1 hAf
 have HLt := hid1 h.lt
 have HBs := hid1 h.base.size
 obtain ⟨i0,hi,hz0,hz1,hz2⟩ := info_parts Tryz.infoInt
 clear h hF hCf hca hT hT0 hAct hAf
 go_enter Tryz.func69,Tryz.ntmps69
 go_wp2
 go_loopg [3] (d.waits) (fun gn ov wr => ∃ (d' : Bf.Bd) (c' : Bf.Ca) (T' : Nat → Prop) (os : List Nat),d'.waits = gn ∧ d'.l = d.l ∧ d'.fs = d.fs ∧ Bf.all act c d = Bf.all act c' d' ∧ Bf.Fit d' ∧ Bf.CFit c' ∧ MB w0 wr mb tb tv lv cv gs go gh gw d' ∧ MCa T' wr cv c' ∧ (∀ j,T' j → T j ∨ W.heap.size ≤ j) ∧ Only (fun j => MBlk mb tb tv gs go gh gw j ∨ T j) W wr ∧ wr.ownsRow W.heap.size 3 1 ov os.length (os.map nv) ∧ (∀ j,some j = ov.ownBlock → ¬ T' j) ∧ os.length + gn ≤ d.waits)
 case atStart => exact ⟨d,c,T,[],rfl,rfl,rfl,rfl,HF.out.fit,HCf.out,HH.out,HCa.out,fun j hj => .inl hj,Only.of (Below.refl _ _),World.ownsRow_nil _ _ _ _,fun j hj => by simp [Value.ownBlock] at hj,by simp⟩
 case round =>
  obtain ⟨d',c',T',os,hgk,hl,hfs,hall,hfit,hcf,hM,hca,hT',hO,hrow,hnT,hos⟩ := hrel
  have hF' := HF.out.same hl hfs hfit
  have hsz := hO.size
  have HTd : Hid (∀ j,MBlk mb tb tv gs go gh gw j → ¬ T' j) := hid1 fun j hj ht => by
   rcases hT' j ht with h1 | h1
   ·exact HT.out j hj h1
   ·have := HLt.out j hj
    omega
  have HT0' : Hid (∀ j,T' j → w0.heap.size ≤ j) := hid1 fun j hj => by
   rcases hT' j hj with h1 | h1
   ·exact HT0.out j h1
   ·have := HBs.out
    omega
  have hwn := Bf.many_le d.st Bf.St.isWaits d.l.length
  have hwd : d.waits ≤ 40 := Nat.le_trans hwn HF.out.few
  have HRd := hid1 (mbReady_calls hM (by have := hF'.few;omega) fun x hx => by have := (hF'.small x hx).many;omega)
  have HRn := hid1 fun (V : World) (gV : Below wr.heap.size wr V) (i : Int) => mbRun_calls (hM.below gV) hF' HAct.out hcf (hca.below gV) HTd.out HT0'.out i
  have HF' := hid1 hF'
  have HR0 := hid1 (And.intro hall (And.intro hfit (And.intro hcf (And.intro hM (And.intro hca (And.intro hT' (And.intro hO (And.intro hrow hnT))))))))
  clear hall hfit hcf hM hca hT' hO hrow hnT hF'
  cases hrd : d'.ready with
  | nil =>
   rw [hrd] at HRd
   have HE := hid1 (Bf.all_nil act c' d' hrd)
   clear hrd HRn
   go_wp2_with fail
   refine HRd.out.mono ?_
   rintro e w5 ⟨u5,rfl,ho5,g5⟩
   obtain ⟨p5,c5,rfl⟩ : ∃ p c,u5 = .slice p 0 c := by
    rcases ho5.2 with ⟨rfl,_⟩ | ⟨g,cap,cur,rfl,_⟩
    ·exact ⟨_,_,rfl⟩
    ·exact ⟨_,_,rfl⟩
   clear HRd ho5
   go_wp2
   go_ret
   obtain ⟨hall,hfit,hcf,hM,hca,hT',hO,hrow,hnT⟩ := HR0.out
   rw [hall,HE.out]
   exact ⟨⟨_,rfl⟩,hM.below g5,hO.trans (S' := fun _ => False) ⟨g5.os,g5.tape,g5.output,g5.size,fun j hj _ => g5.block j hj⟩ (fun j hj => hj.elim),T',hca.below g5,hT'⟩
  | cons i r =>
   have hmem := Bf.mem_ready.1 (show i ∈ d'.ready by rw [hrd];simp)
   have hgo := Bf.run_ready act c' d' i hmem.1 hmem.2
   have hless := Bf.go_less act c' d' i hmem.1 hmem.2
   have hgf := Bf.go_fit (act := act) HAf.out (c := c') (d := d') HR0.out.2.2.1 HR0.out.2.1 i
   have HE := hid1 (Bf.all_cons act c' d' hrd)
   rw [hrd] at HRd
   have HL := hid1 (And.intro hless (And.intro hgf hgo))
   have hmi := hmem.1
   have hfw := HF'.out.few
   clear hrd hmem hgo hless hgf
   go_wp2_with fail
   refine HRd.out.mono ?_
   rintro e w5 ⟨u5,rfl,ho5,g5⟩
   have hrow5 := ho5
   obtain ⟨g5',c5,rfl,hb5,hl5⟩ := hrow5.form (by simp)
   have x5 := hrow5.cells (g := g5') rfl 0 (nv i) (by simp)
   rw [show (⟨g5',0,none⟩ : Addr).add 0 = ⟨g5',0,none⟩ from rfl] at x5
   have HRi := hid1 (HRn.out w5 g5 (i : Int))
   have H5 := hid1 (And.intro ho5 g5)
   have z5 := g5.size
   clear HRd HRn ho5 hrow5 g5
   rw [List.length_cons]
   go_wp2_with fail
   refine HRi.out.mono ?_
   rintro e w6 ⟨rfl,hM6,hO6,T6,hca6,hT6⟩
   obtain ⟨hall,hfit,hcf,hM,hca,hT',hO,hrow,hnT⟩ := HR0.out
   obtain ⟨hless,hgf,hgo⟩ := HL.out
   rw [hgo] at hM6 hca6
   have hTl := hca.lt
   have z6 := hO6.size
   have x6 := hO6.cell x5 fun hx => by
    rcases hx with h1 | h1
    ·have := HLt.out _ h1
     simp at this
     omega
    ·have := hTl _ h1
     simp at this
     omega
   have hnB : ∀ j,some j = u3.ownBlock → ¬ (MBlk mb tb tv gs go gh gw j ∨ T' j) := fun j hj hx => by
    rcases hx with h1 | h1
    ·have h2 := (hrow.lt j hj.symm).1
     have := HLt.out j h1
     omega
    ·exact hnT j hj h1
   have hrow6 := ownsRow_keep (ownsRow_below hrow H5.out.2) hO6 hnB
   have hul : ∀ j,some j = u3.ownBlock → j < wr.heap.size := fun j hj => (hrow.lt j hj.symm).2
   have HK : Hid (∀ (Y : World) (g cap : Nat),(Y.ownsRow W.heap.size 3 1 (.slice (some ⟨g,0,none⟩) (os.length + 1) cap) (os.length + 1) (os.map nv ++ [nv i])) → (w6.alloc (.cells #[nv i] 3)).grownBy Y u3.ownBlock → (u3.ownBlock = some g ∨ g = (w6.alloc (.cells #[nv i] 3)).heap.size) →
     ∃ (d'' : Bf.Bd) (c'' : Bf.Ca) (T'' : Nat → Prop) (os' : List Nat),d''.waits = (Bf.go act c' d' i).d.waits ∧ d''.l = d.l ∧ d''.fs = d.fs ∧ Bf.all act c d = Bf.all act c'' d'' ∧ Bf.Fit d'' ∧ Bf.CFit c'' ∧ MB w0 Y mb tb tv lv cv gs go gh gw d'' ∧ MCa T'' Y cv c'' ∧ (∀ j,T'' j → T j ∨ W.heap.size ≤ j) ∧ Only (fun j => MBlk mb tb tv gs go gh gw j ∨ T j) W Y ∧ Y.ownsRow W.heap.size 3 1 (.slice (some ⟨g,0,none⟩) (os.length + 1) cap) os'.length (os'.map nv) ∧ (∀ j,some j = (Value.slice (some ⟨g,0,none⟩) (os.length + 1) cap).ownBlock → ¬ T'' j) ∧ os'.length + (Bf.go act c' d' i).d.waits ≤ d.waits) := hid1 fun Y g cap hY hgr hli => by
    have za : (w6.alloc (.cells #[nv i] 3)).heap.size = w6.heap.size + 1 := by simp
    have hgy : ∀ j,j < w6.heap.size → some j ≠ u3.ownBlock → Y.heap[j]? = w6.heap[j]? := fun j hj hn => (hgr.block j (by omega) hn).trans (((Below.refl _ w6).alloc (Nat.le_refl _) _).block j hj)
    have zY := hgr.size
    have hT6' : ∀ j,T6 j → some j ≠ u3.ownBlock := fun j hj e => by
     rcases hT6 j hj with h1 | h1
     ·exact hnT j e h1
     ·have := hul j e
      omega
    have hBY : Below w0.heap.size w0 Y := by
     refine ⟨?_,?_,?_,?_,fun j hj => ?_⟩
     ·exact hgr.os.trans hM6.base.os
     ·exact hgr.tape.trans hM6.base.tape
     ·exact hgr.output.trans hM6.base.output
     ·have := hM6.base.size
      omega
     ·have h1 := HBs.out
      exact (hgy j (by omega) fun e => by have := (hrow.lt j e.symm).1;omega).trans (hM6.base.block j hj)
    refine ⟨_,_,T6,os ++ [i],rfl,hless.2.1.trans hl,hless.2.2.trans hfs,hall.trans HE.out,hgf.1,hgf.2,hM6.same hBY (by omega) (fun j hj => hgy j (by have := HLt.out j hj;omega) fun e => hnB j e (.inl hj)),hca6.same (by omega) (fun j hj => hgy j (hca6.lt j hj) (hT6' j hj)),fun j hj => ?_,?_,?_,fun j hj ht => ?_,?_⟩
    ·rcases hT6 j hj with h1 | h1
     ·exact hT' j h1
     ·exact .inr (by omega)
    ·have g5 := H5.out.2
     refine ⟨?_,?_,?_,by omega,fun j hj hs => ?_⟩
     ·exact hgr.os.trans (hO6.os.trans (g5.os.trans hO.os))
     ·exact hgr.tape.trans (hO6.tape.trans (g5.tape.trans hO.tape))
     ·exact hgr.output.trans (hO6.output.trans (g5.output.trans hO.output))
     ·refine (hgy j (by omega) fun e => by have := (hrow.lt j e.symm).1;omega).trans ((hO6.block j (by omega) fun hx => ?_).trans ((g5.block j (by omega)).trans (hO.block j hj hs)))
      rcases hx with h1 | h1
      ·exact hs (.inl h1)
      ·rcases hT' j h1 with h2 | h2
       ·exact hs (.inr h2)
       ·omega
    ·rw [List.length_append,List.length_singleton,List.map_append]
     exact hY
    ·obtain rfl : j = g := by simpa [Value.ownBlock] using hj
     rcases hli with h1 | h1
     ·exact hT6' j ht h1.symm
     ·have := hca6.lt j ht
      omega
    ·rw [List.length_append,List.length_singleton]
     have := hless.1
     omega
   have hlw := hless.1
   have hml : os.length + 1 ≤ maxLen := by unfold maxLen;omega
   have hbz : W.heap.size ≤ w6.heap.size := by omega
   clear HRi x5 hM6 hO6 hca6 hT6 hall hfit hcf hM hca hT' hO hrow hnT hnB hul hgf hgo hless hTl
   go_wp2_with (first
    | (at_builtin;refine wpList_append_lies _ rfl _ _ 68 rfl W.heap.size 3 i0 (.int .i64 0) 1 8 Tryz.underlying68 hi hz0 hz1 hz2 rfl (by decide) u3 os.length (os.map nv) rfl (hrow6.alloc _) ⟨w6.heap.size,0,none⟩ 1 1 [nv i] rfl rfl (cell_one_new _ _ _) (by simp [Value.oneCell']) (by decide) hml (by omega) (by simp;omega) _ rfl ?_;intro g8 cap8 w8 hown8 hgrow8 hlies8 hlt8)
    | fail)
   go_roundg ((Bf.go act c' d' i).d.waits)
   case measure => omega
   case rel => exact HK.out w8 g8 cap8 hown8 hgrow8 hlies8
theorem Tryz.infoRFileC : (Tryz.prog.info? 51).map (fun i => (i.zero,i.size,i.bytes)) = some (some (.agg #[.string ⟨#[]⟩,.string ⟨#[]⟩]),2,32) := by kernel_rfl
theorem ents_one {fs : Tf.Fs} : ∀ u ∈ entCells fs,u.oneCell' = true := fun u hu => by
 unfold entCells at hu
 obtain ⟨f,_,h⟩ := List.mem_flatMap.1 hu
 simp at h
 rcases h with rfl | rfl <;> rfl
theorem CopyTree_calls {B : Nat} {w : World} {tb : Nat} {fs : Tf.Fs} {tv : Value} (h : RTreeAt B w tb fs tv) (hn : fs.length ≤ 1000) :
  Calls Tryz.prog 114 #[Ptr tb] w fun e w' => ∃ tv',e = .returned (Ptr w.heap.size) ∧ RTreeAt w.heap.size w' w.heap.size fs tv' ∧ Below w.heap.size w w' := by
 have g0 : Below w.heap.size w (w.alloc (.cells #[.slice none 0 0] 38)) := (Below.refl _ w).alloc (Nat.le_refl _) _
 have h0 := h.below g0
 have c0 := h0.cell
 have b0 : (w.alloc (.cells #[.slice none 0 0] 38)).cell? ⟨w.heap.size,0,none⟩ = some (.slice none 0 0) := by simp
 have b1 : (w.alloc (.cells #[.slice none 0 0] 38)).frozen? ⟨w.heap.size,0,none⟩ = false := by simp
 have hz : (w.alloc (.cells #[.slice none 0 0] 38)).heap.size = w.heap.size + 1 := by simp
 obtain ⟨i0,hi,hz0,hz1,hz2⟩ := info_parts Tryz.infoRFileC
 have HH := hid1 h0
 have HG := hid1 g0
 have hN : (w.alloc (.cells #[.slice none 0 0] 38)).ownsRow (w.heap.size + 1) 51 2 (.slice none 0 0) 0 [] := World.ownsRow_nil _ _ _ _
 by_cases hfs : fs = []
 ·subst hfs
  obtain rfl := h.nil rfl
  clear h h0 g0
  generalize hW0 : w.alloc (.cells #[.slice none 0 0] 38) = W0 at *
  have hrun := run_append_owned_none (P := Tryz.prog) (w := W0.drew) (w.heap.size + 1) 36 36 51 i0 2 Tryz.underlying36 hi (.slice none 0 0) 0 [] hN
  go_enter Tryz.func114,Tryz.ntmps114
  go_wp2
  go_region
  go_wp2
  go_ret
  refine ⟨.slice none 0 0,rfl,⟨Nat.le_refl _,?_,?_,World.ownsRow_nil _ _ _ _,by simp [Value.ownBlock],fun _ => rfl⟩,?_⟩
  ·exact World.cell?_setCell_same' _ _ _ (by show (W0.cell? _).isSome = true;rw [b0];rfl)
  ·show (W0.setCell ⟨w.heap.size,0,none⟩ (.slice none 0 0)).frozen? ⟨w.heap.size,0,none⟩ = false
   rw [World.frozen?_setCell]
   exact b1
  ·exact below_setCell (B := w.heap.size) HG.out.drew (Nat.le_refl _) _
 ·obtain ⟨tp,tcap,rfl,htc,htr⟩ := FRow.of_owns h0.row
  obtain ⟨tg,tcur,rfl,htb,htl⟩ := htr hfs
  have hnews : ∀ j u,(entCells fs)[j]? = some u → (w.alloc (.cells #[.slice none 0 0] 38)).cell? ((⟨tg,0,none⟩ : Addr).add j) = some u := h0.row.cells (g := tg) rfl
  have hel : (entCells fs).length = fs.length * 2 := h0.row.1
  have hpos : 0 < fs.length := List.length_pos_iff.2 hfs
  have hml : 0 + fs.length ≤ maxLen := by unfold maxLen;omega
  clear h h0 g0 htb htl
  generalize hW0 : w.alloc (.cells #[.slice none 0 0] 38) = W0 at *
  have hW0l : w.heap.size < W0.heap.size := by omega
  have hNd : W0.drew.ownsRow (w.heap.size + 1) 51 2 (.slice none 0 0) 0 [] := hN
  have hnewsd : ∀ j u,(entCells fs)[j]? = some u → W0.drew.cell? ((⟨tg,0,none⟩ : Addr).add j) = some u := hnews
  go_enter Tryz.func114,Tryz.ntmps114
  go_wp2
  go_region_law (refine step_append_lies _ rfl (.tmp 10) (.tmp 14) 36 rfl (w.heap.size + 1) 51 i0 (.agg #[.string ⟨#[]⟩,.string ⟨#[]⟩]) 2 32 Tryz.underlying36 hi hz0 hz1 hz2 rfl (by decide) (.slice none 0 0) 0 [] rfl hNd ⟨tg,0,none⟩ fs.length tcap (entCells fs) rfl hel hnewsd ents_one hpos hml (by omega) (by show w.heap.size + 1 ≤ W0.heap.size;omega) _ rfl ?_;intro g8 cap8 w8 hown8 hgrow8 hlies8 hlt8;(have d0 : w8.cell? ⟨w.heap.size,0,none⟩ = some (.slice none 0 0) := (World.grownBy.cell_far hgrow8 ⟨w.heap.size,0,none⟩ (by show w.heap.size < W0.heap.size;omega) (by simp [Value.ownBlock])).trans b0);(have d1 : w8.frozen? ⟨w.heap.size,0,none⟩ = false := (World.grownBy.frozen_far hgrow8 ⟨w.heap.size,0,none⟩ (by show w.heap.size < W0.heap.size;omega) (by simp [Value.ownBlock])).trans b1);(have HE := hid1 (And.intro hown8 (And.intro hgrow8 hlt8)));clear hown8 hgrow8 hlies8)
  all_goals
   go_wp2
   go_ret
   obtain ⟨hown8,hgrow8,hlt8⟩ := HE.out
   have hge := (hown8.lt g8 rfl).1
   refine ⟨_,rfl,⟨Nat.le_refl _,World.cell?_setCell_same' _ _ _ (by rw [d0];rfl),by rw [World.frozen?_setCell];exact d1,?_,?_,fun e => absurd e hfs⟩,?_⟩
   ·have h1 := hown8
    rw [Nat.zero_add,List.nil_append] at h1
    refine ⟨h1.1,?_⟩
    rcases h1.2 with ⟨e,_⟩ | ⟨g,cap,cur,e,h0,hg,h2⟩
    ·cases e
    ·refine .inr ⟨g,cap,cur,e,by omega,?_,h2⟩
     rw [Below.heap_setCell w8 ⟨w.heap.size,0,none⟩ _ g (by show g ≠ w.heap.size;omega)]
     exact hg
   ·simp [Value.ownBlock]
    omega
   ·have hb8 : Below w.heap.size w w8 := ⟨hgrow8.os.trans HG.out.os,hgrow8.tape.trans HG.out.tape,hgrow8.output.trans HG.out.output,by have h1 := hgrow8.size;have : W0.drew.heap.size = W0.heap.size := rfl;omega,fun j hj => (hgrow8.block j (by show j < W0.heap.size;omega) (by simp [Value.ownBlock])).trans (HG.out.block j hj)⟩
    exact below_setCell hb8 (Nat.le_refl _) _
end Go.Proofs.YtflbofdpfgkmcaaGreatDoor
namespace Go.Proofs.YtflbofdpfgkmcaaGreatDoor
open Go
section
variable {P : Program} {ops : Array Oper} {Q : Exit → Act → World → Prop} {md : Region.Mode}
def flags (L : Array Bool) : Nat → Bool := fun j => L.getD j false
def setF (F : Nat → Bool) (i : Nat) : Nat → Bool := fun j => if j = i then true else F j
theorem flags_set {L : Array Bool} {i : Nat} (hi : i < L.size) : flags (L.setIfInBounds i true) = setF (flags L) i := by
 funext j
 unfold flags setF
 by_cases e : j = i
 ·subst e
  rw [if_pos rfl,Array.getD_eq_getD_getElem?,Array.getElem?_setIfInBounds_self_of_lt hi]
  rfl
 ·rw [if_neg e,Array.getD_eq_getD_getElem?,Array.getElem?_setIfInBounds_ne (fun x => e x.symm)]
  exact (Array.getD_eq_getD_getElem? ..).symm
def unl (F : Nat → Bool) : Nat → Nat
 | 0 => 0
 | n + 1 => unl F n + (if F n = true then 0 else 1)
theorem unl_set {F : Nat → Bool} {i : Nat} : ∀ {n : Nat},i < n → F i = false → unl (setF F i) n + 1 = unl F n
 | 0,h,_ => by omega
 | n + 1,h,hf => by
  unfold unl
  by_cases e : i = n
  ·subst e
   have : ∀ m,m ≤ i → unl (setF F i) m = unl F m := by
    intro m
    induction m with
    | zero => intro _;rfl
    | succ m ih =>
     intro hm
     unfold unl
     rw [ih (by omega)]
     have : setF F i m = F m := by unfold setF;rw [if_neg (by omega)]
     rw [this]
   rw [this i (Nat.le_refl _),hf]
   have : setF F i i = true := by unfold setF;rw [if_pos rfl]
   rw [this]
   simp
  ·have ih := unl_set (n := n) (by omega) hf
   have : setF F i n = F n := by unfold setF;rw [if_neg fun x => e x.symm]
   rw [this]
   omega
theorem unl_zero {F : Nat → Bool} : ∀ {n : Nat},unl F n = 0 → ∀ i,i < n → F i = true
 | 0,_,i,hi => by omega
 | n + 1,h,i,hi => by
  unfold unl at h
  by_cases e : i = n
  ·subst e
   cases hf : F i with
   | true => rfl
   | false => rw [hf] at h;simp at h
  ·exact unl_zero (n := n) (by omega) i (by omega)
theorem wpAny_inv {n : Nat} (hn : ops.size = n) (hdag : ∀ (i : Nat) (o : Oper),ops[i]? = some o → ∀ e ∈ o.after.toList,e.on < i) (I : (Nat → Bool) → Act → World → Prop)
  (hstep : ∀ F a w (i : Nat) (o : Oper),ops[i]? = some o → I F a w → F i = false → (∀ e ∈ o.after.toList,Region.binds md e = true → F e.on = true) → wpOp P ops Q i (fun a' w' => I (setF F i) a' w') a w)
  (hend : ∀ F a w,I F a w → (∀ i,i < n → F i = true) → Q .normal a w) :
  ∀ (fuel : Nat) (L : Array Bool) (a : Act) (w : World),L.size = n → unl (flags L) n ≤ fuel → I (flags L) a w → wpAny P md ops Q fuel L a w := by
 have hready : ∀ (L : Array Bool),L.size = n → Region.ready md ops L = [] → ∀ i,i < n → flags L i = true := by
  intro L hL h i
  induction i using Nat.strongRecOn with
  | _ i ih =>
   intro hi
   cases hf : flags L i with
   | true => rfl
   | false =>
    exfalso
    have hm : i ∈ Region.ready md ops L := by
     unfold Region.ready
     rw [List.mem_filter,List.mem_range]
     refine ⟨by omega,?_⟩
     have hl : L.getD i true = false := by
      unfold flags at hf
      rw [Array.getD_eq_getD_getElem?,Array.getElem?_eq_getElem (by omega)] at hf ⊢
      simpa using hf
     obtain ⟨o,ho⟩ : ∃ o,ops[i]? = some o := ⟨_,Array.getElem?_eq_getElem (by omega)⟩
     rw [hl,ho]
     simp only [Bool.not_false,Bool.true_and,Option.map_some,Option.getD_some]
     rw [Array.all_eq_true_iff_forall_mem]
     intro e he
     have hlt := hdag i o ho e (by simpa using he)
     have := ih e.on hlt (by omega)
     unfold flags at this
     rw [this]
     simp
    rw [h] at hm
    cases hm
 intro fuel
 induction fuel with
 | zero =>
  intro L a w hL hu hI
  have hall := unl_zero (F := flags L) (n := n) (by omega)
  refine ⟨?_,hend _ a w hI hall⟩
  unfold Region.ready
  rw [List.filter_eq_nil_iff]
  intro i hi
  have := hall i (by have := List.mem_range.1 hi;omega)
  have hl : L.getD i true = true := by
   unfold flags at this
   rw [Array.getD_eq_getD_getElem?] at this ⊢
   cases hx : L[i]? with
   | none => rfl
   | some b => rw [hx] at this;simpa using this
  rw [hl]
  simp
 | succ fuel ih =>
  intro L a w hL hu hI
  refine ⟨fun h => hend _ a w hI (hready L hL h),fun i hi => ?_⟩
  unfold Region.ready at hi
  rw [List.mem_filter,List.mem_range] at hi
  obtain ⟨hlt,hp⟩ := hi
  rw [Bool.and_eq_true] at hp
  obtain ⟨h1,h2⟩ := hp
  have hl : flags L i = false := by
   unfold flags
   rw [Array.getD_eq_getD_getElem?] at h1 ⊢
   rw [Array.getElem?_eq_getElem (by omega)] at h1 ⊢
   simpa using h1
  obtain ⟨o,ho⟩ : ∃ o,ops[i]? = some o := ⟨_,Array.getElem?_eq_getElem hlt⟩
  rw [ho] at h2
  simp only [Option.map_some,Option.getD_some] at h2
  rw [Array.all_eq_true_iff_forall_mem] at h2
  refine wpOp_mono (fun a' w' h' => ih _ a' w' (by simpa using hL) ?_ ?_) (hstep (flags L) a w i o ho hI hl fun e he hb => ?_)
  ·have := unl_set (F := flags L) (i := i) (n := n) (by omega) hl
   rw [flags_set (by omega)]
   omega
  ·rw [flags_set (by omega)]
   exact h'
  ·have := h2 e (by simpa using he)
   rw [hb] at this
   simpa [flags] using this
end
end Go.Proofs.YtflbofdpfgkmcaaGreatDoor
