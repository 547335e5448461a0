import Derived.Test.YtdljhggillgpfaaGreatDoorSR28
set_option maxRecDepth 100000
set_option maxHeartbeats 16000000
namespace Go.Proofs.YtdljhggillgpfaaGreatDoor
open Go.RowKit Go.Shelf Go.Lib
open Go.Sort (Holds putRow grow)
theorem grwith_calls {w : World} {B : Nat} (hB : B ≤ w.heap.size) (v : Value) (l : List Nat) (x : Nat) (hl : l.length ≤ 1000) (hown : w.ownsRow B 3 1 v l.length (l.map nv)) :
  Calls Tryz.prog 156 #[v,nv x] w fun e w' => ∃ v',e = .returned v' ∧ w'.ownsRow B 3 1 v' (withN l x).length ((withN l x).map nv) ∧ Below B w w' := by
 have HC := hid1 (slContainsI_calls v l x (NRow.of_owns hown).ni (by omega))
 obtain ⟨i1,hI,hI0,hI1,hI2⟩ := info_parts Tryz.infoInt
 have hml : l.length + 1 ≤ maxLen := by unfold maxLen;omega
 have HB := hid1 (Below.refl B w)
 by_cases hx : x ∈ l
 ·have HQ : Hid (withN l x = l) := hid1 (by unfold withN;rw [if_pos hx])
  rw [HQ.out]
  rw [decide_eq_true hx] at HC
  go_enter Tryz.func156,Tryz.ntmps156
  go_wp2_with fail
  refine HC.out.mono ?_
  rintro e w1 ⟨rfl,rfl⟩
  go_wp2
  go_ret
  exact ⟨_,rfl,hown,HB.out⟩
 ·have HQ : Hid (withN l x = l ++ [x]) := hid1 (by unfold withN;rw [if_neg hx])
  rw [HQ.out]
  rw [decide_eq_false hx] at HC
  go_enter Tryz.func156,Tryz.ntmps156
  go_wp2_with fail
  refine HC.out.mono ?_
  rintro e w1 ⟨rfl,rfl⟩
  go_wp2_with (at_builtin;refine wpList_append_own _ rfl _ _ 147 rfl B 3 i1 (.int .i64 0) 1 8 Tryz.underlying147 hI hI0 hI1 hI2 rfl (by decide) _ _ _ rfl (hown.alloc _) ⟨w1.heap.size,0,none⟩ 1 1 [nv x] rfl rfl (one_new _ _ _ _ (by simp)) (by simp [Value.oneCell']) hml (by omega) (by simp;omega) ?_;intro v' w4 hown' hgrow _)
  go_ret
  exact ⟨_,rfl,by simpa using hown',below_appended HB.out hB hown hgrow⟩
theorem sortI_calls {w : World} {B : Nat} (hB : B ≤ w.heap.size) (v : Value) (l : List Nat) (hl : l.length ≤ 1000) (hown : w.ownsRow B 3 1 v l.length (l.map nv)) :
  Calls Tryz.prog 157 #[v] w fun e w' => e = .returned (.tuple #[]) ∧ NIRow w' v (l.mergeSort fun x y => decide (x ≤ y)) ∧ Below B w w' := by
 rcases hown.2 with ⟨rfl,hn⟩ | ⟨g,cap,cur,rfl,hBg,hb,h1,_⟩
 ·obtain rfl := List.length_eq_zero_iff.1 hn
  refine (Tryz.slices_Sort_int_none none 0 w).mono ?_
  rintro e w' ⟨rfl,rfl⟩
  exact ⟨rfl,⟨none,0,by simp,fun h => absurd (by simp) h⟩,Below.refl _ _⟩
 ·have hlt := (Array.getElem?_eq_some_iff.1 hb).1
  have hH := (Holds.of_owns hown).1
  have h := Tryz.slices_Sort_int g 0 cap (ints l) w hH hlt (by simp;omega)
  rw [show (ints l).length = l.length by simp] at h
  refine h.mono ?_
  rintro e w' ⟨rfl,n,os,rfl⟩
  have em : (ints l).mergeSort (fun x y => decide (x ≤ y)) = ints (l.mergeSort fun x y => decide (x ≤ y)) := by
   symm
   refine List.map_mergeSort ?_
   intro a _ b _
   simp
  rw [em]
  have hsz : g < (grow (putRow encI (Sort.ahead w n) g 0 (ints (l.mergeSort fun x y => decide (x ≤ y))).toArray) os).heap.size := by
   rw [Go.Sort.size_grow,Go.Sort.size_putRow]
   exact Nat.lt_of_lt_of_le hlt (Nat.le_add_right _ _)
  refine ⟨rfl,?_,(Below.refl B w).grown (grow_grown _) hB (fun j hj => by cases hj;exact hBg)⟩
  have hp := Go.Sort.holds_putRow encI (Sort.ahead w n) g 0 (ints l).toArray (ints (l.mergeSort fun x y => decide (x ≤ y))).toArray hH (by simp)
  have hq := Go.Sort.holds_grow encI _ os g 0 _ (by rw [Go.Sort.size_putRow];exact hlt) hp
  have := Holds.ni (cap := cap) hq hsz
  rwa [List.length_mergeSort] at this
theorem sorted_le (l : List Nat) : (l.mergeSort fun x y => decide (x ≤ y)).Pairwise (fun a b => a ≤ b) := by
 have := List.pairwise_mergeSort (le := fun x y : Nat => decide (x ≤ y)) (fun a b c h1 h2 => by simp at h1 h2 ⊢;omega) (fun a b => by simp;omega) l
 exact this.imp fun h => by simpa using h
theorem NIRow.at {w : World} {p : Option Addr} {n cap : Nat} {l : List Nat} (h : NIRow w (.slice p n cap) l) (hl : l ≠ []) : ∃ g o,p = some ⟨g,o,none⟩ ∧ g < w.heap.size ∧ ∀ j (hj : j < l.length),w.cell? ⟨g,o + j,none⟩ = some (nv l[j]) := by
 obtain ⟨p',cap',e,h1⟩ := h
 obtain ⟨rfl,_⟩ : p = p' ∧ True := by simp at e;exact ⟨e.1,trivial⟩
 exact h1 hl
theorem gNeeds_calls {w : World} {es : Nat → Addr} (hW : SheetW w es) (hnone : w.cell? ⟨5,0,none⟩ = some (erOf es 6)) (v : Value) (l : List Ru) (hrow : RRow w v l) (hn : l.length ≤ 1000) (hS : ∀ x ∈ l,x.Small) (vo : Value) (outs : List (List UInt8)) (hout : XRow w vo outs) (hol : outs.length ≤ 1000) :
  Calls Tryz.prog 113 #[v,vo] w fun e w' => ∃ u ev,e = .returned (.tuple #[u,ev]) ∧ Below w.heap.size w w' ∧ NeedsTells es l outs w' u ev := by
 have HL := hid1 (grlook_calls hW v l hrow hn hS)
 have H12 : Hid (∀ i (hi : i < l.length),l[i].ins.length ≤ 12) := hid1 fun i hi => (hS _ (List.getElem_mem hi)).many
 obtain ⟨pr,cap,rfl,-⟩ := hrow
 obtain ⟨po,co,rfl,-,-,hino⟩ := hout
 have HO := hid1 hino
 go_enter Tryz.func113,Tryz.ntmps113
 go_wp2_with fail
 refine HL.out.mono ?_
 rintro e w1 ⟨u,ev,rfl,g1,hT⟩
 rcases hT with ⟨hf,hE,rfl,t,x,rfl⟩ | ⟨hf,rfl,p,bm,G,vals,rfl,hSh⟩
 ·have HE := hid1 hE
  have HZ := hid1 hf
  go_wp2
  go_ret2
  exact ⟨_,_,rfl,g1,.inl ⟨HZ.out,HE.out,_,_,rfl⟩⟩
 ·have HZ := hid1 hf
  have HA := hid1 (Ru.fault_ok hf).2
  have HSh := hid1 hSh
  have HF := hid1 (Ru.NeedA.first l outs)
  have hc0 := hSh.c0
  have hc1 := hSh.c1
  have hn1 := cell_below' hnone g1
  go_wp2
  go_loopw [8,26] (fun ov iv wr => ∃ (j : Nat) (r : List Nat),j ≤ outs.length ∧ iv = .int .i64 j ∧ wr.ownsRow w1.heap.size 3 1 ov r.length (r.map nv) ∧ Ru.NeedA l outs j r ∧ Below w1.heap.size w1 wr) (fun _ iv _ => outs.length - (intOf iv).toNat)
  case atStart => exact ⟨0,[],Nat.zero_le _,rfl,World.ownsRow_nil _ _ _ _,HF.out,Below.refl _ _⟩
  case round =>
   obtain ⟨j,r,hjl,rfl,hO,hA,B⟩ := hrel
   have HOw := hid1 hO
   have HN := hid1 hA
   have hrl := hA.len
   have j0 : (0 : Int) ≤ (j : Int) := by omega
   by_cases hlt : j < outs.length
   ·have j1 : (j : Int) < (outs.length : Int) := by omega
    obtain ⟨go,oo,rfl,hgo,hco⟩ := HO.out (by intro e;rw [e] at hlt;simp at hlt)
    have gB := below_then g1 B
    have e3 := (gB.cell (p := ⟨go,oo + j,none⟩) hgo).trans (hco j hlt)
    have hcm := cell_below' hc0 B
    have hlk := look_mk (HSh.out.below B).map outs[j]
    cases hm : Ru.mkr l outs[j] with
    | none =>
     have HQ : Hid (∀ W ev,ErrV W es ev (6,(j : Int)) → NeedsTells es l outs W (.slice none 0 0) ev) := hid1 fun W ev hE => .inr (.inl ⟨HZ.out,j,hlt,Ru.mkr_none hm,HN.out.made,hE,_,_,rfl⟩)
     rw [hm] at hlk
     simp only [Option.getD_none,Option.isSome_none] at hlk
     have hnr := cell_below' hn1 B
     simp only [erOf] at hnr
     generalize outs[j] = s at *
     go_wp2
     go_region
     all_goals
      go_wp2
      go_ret2
      refine ⟨_,_,rfl,?_,HQ.out _ _ (.inr ⟨_,5,rfl,by omega,rfl,?_,?_⟩)⟩
      ·first | exact (gB.alloc gB.size _).drew | exact gB.drew.alloc gB.size _
      ·simp
      ·simp [erOf]
    | some k =>
     have HQ := hid1 (HN.out.more HA.out hlt hm)
     rw [hm] at hlk
     simp only [Option.getD_some,Option.isSome_some] at hlk
     have HW := hid1 (grwith_calls B.size u8 r k (by omega) HOw.out)
     generalize outs[j] = s at *
     go_wp2_with fail
     refine HW.out.mono ?_
     rintro e w3 ⟨v3,rfl,ho3,g3⟩
     have G3 := B.trans g3
     go_wp2
     exact ⟨⟨j + 1,_,by omega,by go_num,ho3,HQ.out,G3⟩,by simp [intOf];omega⟩
   ·have j1 : (outs.length : Int) ≤ (j : Int) := by omega
    obtain rfl : j = outs.length := by omega
    have HD := hid1 HN.out.done
    have HMd := hid1 HN.out.made
    generalize wr = w2 at *
    go_wp2
    go_loopw [8,13] (fun ov av wx => ∃ (a : Nat) (r : List Nat),a ≤ r.length ∧ av = .int .i64 a ∧ wx.ownsRow w1.heap.size 3 1 ov r.length (r.map nv) ∧ Ru.NeedB l outs r a 0 ∧ Below w1.heap.size w1 wx) (fun _ av _ => l.length - (intOf av).toNat)
    case atStart => exact ⟨0,r,Nat.zero_le _,rfl,HOw.out,HD.out,B⟩
    case round =>
     obtain ⟨a,r,hal,rfl,hO,hB,B⟩ := hrel
     have HOw := hid1 hO
     have HN := hid1 hB
     have hrl := hB.len
     have a0 : (0 : Int) ≤ (a : Int) := by omega
     obtain ⟨pv,cv,rfl⟩ := own_slice HOw.out
     by_cases hlt : a < r.length
     ·have a1 : (a : Int) < (r.length : Int) := by omega
      have hx := List.getElem?_eq_getElem hlt
      have hxl := HN.out.lt r[a] (List.getElem_mem hlt)
      obtain ⟨gv,ov,rfl,hgv,hcv⟩ := (NRow.of_owns HOw.out).ni.at (by intro e;rw [e] at hlt;simp at hlt)
      have hca := hcv a hlt
      have hbt := cell_below' hc1 B
      obtain ⟨dx,rx⟩ := HSh.out.row r[a] hxl
      have dx1 := cell_below' dx B
      have hnl : (Ru.needL l l[r[a]].ins).length ≤ 12 := by
       have := Ru.needL_len l l[r[a]].ins
       have := H12.out r[a] hxl
       omega
      have HK := hid1 rx
      generalize hxe : r[a] = x at *
      have x0 : (0 : Int) ≤ (x : Int) := by omega
      have x1 : (x : Int) < (l.length : Int) := by omega
      obtain ⟨px,cx,ex,hinx⟩ := HK.out
      have HX := hid1 hinx
      rw [ex] at dx1
      generalize hNL : Ru.needL l l[x].ins = nl at *
      have zl : (nl.length : Int) ≤ 12 := by omega
      generalize wr = w3 at *
      go_wp2
      go_quiet (fail)
      go_wp2
      go_loopw [8,68] (fun ov mv wx => ∃ (m : Nat) (r : List Nat),m ≤ nl.length ∧ mv = .int .i64 m ∧ wx.ownsRow w1.heap.size 3 1 ov r.length (r.map nv) ∧ Ru.NeedB l outs r a m ∧ r[a]? = some x ∧ Below w1.heap.size w1 wx) (fun _ mv _ => nl.length - (intOf mv).toNat)
      case atStart => exact ⟨0,r,Nat.zero_le _,rfl,HOw.out,HN.out,hx,below_draws B _⟩
      case round =>
       obtain ⟨m,r,hml,rfl,hO,hN,hx,B⟩ := hrel
       have HOw := hid1 hO
       have HN := hid1 hN
       have hrl := hN.len
       have m0 : (0 : Int) ≤ (m : Int) := by omega
       by_cases hmlt : m < nl.length
       ·have m1 : (m : Int) < (nl.length : Int) := by omega
        obtain ⟨gx,ox,rfl,hgx,hcx⟩ := HX.out (by intro e;rw [e] at hmlt;simp at hmlt)
        have hcm := (B.cell (p := ⟨gx,ox + m,none⟩) hgx).trans (hcx m hmlt)
        have HQ : Hid (Ru.NeedB l outs (withN r nl[m]) a (m + 1)) := hid1 (by
         subst hNL
         exact HN.out.more HA.out hx hxl hmlt)
        have HG : Hid ((withN r nl[m])[a]? = some x) := hid1 (by
         rw [Ru.withN_get (List.getElem?_eq_some_iff.1 hx).1]
         exact hx)
        have HW := hid1 (grwith_calls B.size u8 r nl[m] (by omega) HOw.out)
        generalize nl[m] = y at *
        go_wp2_with fail
        refine HW.out.mono ?_
        rintro e w5 ⟨v5,rfl,ho5,g5⟩
        have G5 := B.trans g5
        go_wp2
        exact ⟨⟨m + 1,_,by omega,by go_num,ho5,HQ.out,HG.out,G5⟩,by simp [intOf];omega⟩
       ·have m1 : (nl.length : Int) ≤ (m : Int) := by omega
        have HQ : Hid (Ru.NeedB l outs r (a + 1) 0) := hid1 (by
         subst hNL
         exact HN.out.next hx hxl (by omega))
        have hal2 := (List.getElem?_eq_some_iff.1 hx).1
        go_wp2
        exact ⟨⟨a + 1,r,by omega,by go_num,HOw.out,HQ.out,B⟩,by simp [intOf];omega⟩
     ·have a1 : (r.length : Int) ≤ (a : Int) := by omega
      have HQ : Hid (Ru.Needed l outs (Ru.isIn r)) := hid1 (HN.out.done HA.out (by omega))
      have HS : Hid ((r.mergeSort fun x y => decide (x ≤ y)) = (List.range l.length).filter (Ru.isIn r)) := hid1 (Ru.sorted_filter (sorted_le r) ((List.mergeSort_perm r _).nodup_iff.2 HN.out.once) (fun k hk => HN.out.lt k ((List.mergeSort_perm r _).mem_iff.1 hk)) _ (fun k _ => by
       rw [(List.mergeSort_perm r _).mem_iff]
       simp [Ru.isIn]))
      have HC := hid1 (sortI_calls B.size _ r (by omega) HOw.out)
      rw [HS.out] at HC
      go_wp2_with fail
      refine HC.out.mono ?_
      rintro e w4 ⟨rfl,h4,g4⟩
      have HH := hid1 h4
      have G4 := below_then g1 (B.trans g4)
      go_wp2
      go_ret2
      exact ⟨_,_,rfl,G4,.inr (.inr ⟨HZ.out,fun i hi => HMd.out i hi hi,rfl,_,HQ.out,HH.out⟩)⟩
end Go.Proofs.YtdljhggillgpfaaGreatDoor
namespace Go.Proofs.YtdljhggillgpfaaGreatDoor
open Go.RowKit Go.Shelf Go.Lib Go.Maps
theorem buall_calls {W : World} {bb bm : Nat} (c0 : W.cell? ⟨bb,0,none⟩ = some (.map (some bm))) : Calls Tryz.prog 199 #[Ptr bb] W fun e w' => e = .returned (.map (some bm)) ∧ w' = W := by
 go_enter Tryz.func199,Tryz.ntmps199
 go_wp2
 go_ret
 exact ⟨rfl,rfl⟩
theorem ranges_below {w w' : World} {k : TypeId} {R : Value → Option (DataW Unit × List MemPlace)} {b r n : Nat} {D : DataW Unit} {left : Lit → Bool} {cnt : Nat} (h : w.ranges Tryz.prog k R b r n D left cnt) (hb : Below w.heap.size w w') : w'.ranges Tryz.prog k R b r n D left cnt := by
 have h1 := h.owns.lt
 have h2 := h.lt
 obtain ⟨es,clock,since,seen,c0,hb',F,hs,hD,hr,rest⟩ := h
 exact ⟨es,clock,since,seen,c0,(hb.block b h1).trans hb',F,hs,hD,(hb.block r h2).trans hr,rest⟩
theorem ownsRow_mono {w : World} {B B' : Nat} {e : TypeId} {s n : Nat} {v : Value} {xs : List Value} (h : w.ownsRow B e s v n xs) (hB : B' ≤ B) : w.ownsRow B' e s v n xs := by
 refine ⟨h.1,?_⟩
 rcases h.2 with h1 | ⟨g,cap,cur,h1,h2,h3⟩
 ·exact .inl h1
 ·exact .inr ⟨g,cap,cur,h1,Nat.le_trans hB h2,h3⟩
structure Chosen (D : DataW Unit) (dm b : Nat → Bool) (left : Lit → Bool) (cs : List Nat) : Prop where
 sub : ∀ z,left z = true → has D z = true
 mem : ∀ k : Nat,k ∈ cs ↔ dm k = true ∧ left (.int .i64 (k : Nat)) = false ∧ b k = true
 once : cs.Nodup
theorem Chosen.start {D : DataW Unit} {dm b : Nat → Bool} (hD : ∀ i : Int,has D (.int .i64 i) = true ↔ 0 ≤ i ∧ dm i.toNat = true) : Chosen D dm b (has D) [] := by
 refine ⟨fun _ h => h,fun k => ?_,List.nodup_nil⟩
 have := hD (k : Nat)
 simp only [Int.toNat_natCast] at this
 constructor
 ·intro h;cases h
 ·rintro ⟨h1,h2,_⟩
  rw [this.2 ⟨by omega,h1⟩] at h2
  cases h2
theorem Chosen.step {D : DataW Unit} {dm b : Nat → Bool} {left : Lit → Bool} {cs : List Nat} (h : Chosen D dm b left cs) {k : Nat} (hd : dm k = true) (hl : left (.int .i64 (k : Nat)) = true) : Chosen D dm b (fun z => left z && !z.sameKey (.int .i64 (k : Nat))) (cs ++ (if b k = true then [k] else [])) := by
 have hk : WideAt.IsKeyLit (.int .i64 (k : Nat)) := by simp [WideAt.IsKeyLit]
 have hnk : k ∉ cs := fun e => by
  have := ((h.mem k).1 e).2.1
  rw [hl] at this
  cases this
 refine ⟨fun z hz => h.sub z (by rw [Bool.and_eq_true] at hz;exact hz.1),fun j => ?_,?_⟩
 ·rw [List.mem_append,h.mem]
  by_cases e : j = k
  ·subst e
   have h1 : (left (.int .i64 (j : Nat)) && !(Lit.int .i64 (j : Nat)).sameKey (.int .i64 (j : Nat))) = false := by
    rw [WideAt.sameKey_self hk,hl]
    rfl
   rw [h1,hl]
   by_cases hb : b j = true
   ·simp [hb,hd]
   ·simp [hb]
  ·have h1 : (Lit.int .i64 (j : Nat)).sameKey (.int .i64 (k : Nat)) = false := Maps.sameKey_ne (by simp;omega)
   rw [h1]
   constructor
   ·rintro (h2 | h2)
    ·simpa using h2
    ·split at h2
     ·exact absurd (List.mem_singleton.1 h2) e
     ·cases h2
   ·intro h2
    exact .inl (by simpa using h2)
 ·split
  ·rw [List.nodup_append]
   exact ⟨h.once,by simp,fun a ha c hc => by
    rw [List.mem_singleton.1 hc]
    rintro rfl
    exact hnk ha⟩
  ·simpa using h.once
theorem Chosen.done {D : DataW Unit} {dm b : Nat → Bool} {left : Lit → Bool} {cs : List Nat} (h : Chosen D dm b left cs) (h0 : ∀ z,left z = false) {N : Nat} (hN : ∀ k,dm k = true → k < N) : (cs.mergeSort fun x y => decide (x ≤ y)) = (List.range N).filter fun k => dm k && b k := by
 refine List.Perm.eq_of_pairwise (le := fun a b => a ≤ b) (fun a b _ _ h1 h2 => Nat.le_antisymm h1 h2) (sorted_le cs) ?_ ?_
 ·have : (List.range N).Pairwise (fun a b => a ≤ b) := (List.pairwise_lt_range (n := N)).imp fun h => Nat.le_of_lt h
  exact this.filter _
 ·refine (List.mergeSort_perm _ _).trans ?_
  rw [List.perm_ext_iff_of_nodup h.once (List.Pairwise.filter _ List.nodup_range)]
  intro k
  rw [h.mem,List.mem_filter,List.mem_range,Bool.and_eq_true,h0]
  constructor
  ·rintro ⟨h1,_,h2⟩
   exact ⟨hN k h1,h1,h2⟩
  ·rintro ⟨_,h1,h2⟩
   exact ⟨h1,rfl,h2⟩
theorem Chosen.len {D : DataW Unit} {dm b : Nat → Bool} {left : Lit → Bool} {cs : List Nat} (h : Chosen D dm b left cs) {N : Nat} (hN : ∀ k,dm k = true → k < N) : cs.length ≤ N := by
 exact len_le h.once fun k hk => hN k ((h.mem k).1 hk).1
theorem bunumbers_calls {W : World} {bb bm n N : Nat} {dm : Nat → Bool} {sp : Nat → Nat} (c0 : W.cell? ⟨bb,0,none⟩ = some (.map (some bm))) (hm : SMap W bm n (fun k => dm k = true) sp) (hN : ∀ k,dm k = true → k < N) (hN2 : N ≤ 1000) (f : Nat) (caps : Array Value) (eg : ∀ args w,(callFunc f args).run Tryz.prog w = .ok (.enter f args) w) (b : Nat → Bool)
  (HF : Hid (∀ k,dm k = true → ∀ V,Below W.heap.size W V → Calls Tryz.prog f (#[Ptr (sp k)] ++ caps) V fun e w' => e = .returned (.bool (b k)) ∧ Below V.heap.size V w')) :
  Calls Tryz.prog 196 #[Ptr bb,.func (.func f) #[] caps] W fun e w' => ∃ u,e = .returned u ∧ NIRow w' u ((List.range N).filter fun k => dm k && b k) ∧ Below W.heap.size W w' := by
 obtain ⟨D,hown,h3,h4⟩ := hm
 have HC := hid1 (buall_calls c0)
 have HN := hid1 hN
 have H3 := hid1 h3
 have H4 := hid1 h4
 have hbl := hown.lt
 obtain ⟨i0,hi,hz0,hz1,hz2⟩ := info_parts Tryz.infoInt
 go_enter Tryz.func196,Tryz.ntmps196
 go_wp2_with fail
 refine HC.out.mono ?_
 rintro e w1 ⟨rfl,rfl⟩
 go_wp2_with (first
  | (at_range;refine wpList_range_own _ rfl _ 222 rfl 3 262 ilaw Tryz.underlying222 stepElem bm n D rfl hown ?_;intro w0 hrg0 hg0 hs0)
  | go_in)
 go_frame
 have g3 : Below w1.heap.size w1 w0 := (Below.refl _ w1).grown hg0 (Nat.le_refl _) (fun _ e => by cases e)
 have hz0' : w1.heap.size + 1 ≤ w0.heap.size := by omega
 have HS0 := hid1 (Chosen.start (b := b) H3.out)
 have HR0 := hid1 hrg0
 go_loopw [5] (fun lv wr => ∃ (left : Lit → Bool) (cnt : Nat) (cs : List Nat),wr.ranges Tryz.prog 3 stepElem bm w1.heap.size n D left cnt ∧ Chosen D dm b left cs ∧ wr.ownsRow (w1.heap.size + 1) 3 1 lv cs.length (cs.map nv) ∧ Below w1.heap.size w1 wr ∧ w1.heap.size + 1 ≤ wr.heap.size)
  (fun _ wr => wr.rangeLeft bm w1.heap.size)
 case atStart => exact ⟨_,_,[],HR0.out,HS0.out,World.ownsRow_nil _ _ _ _,g3,hz0'⟩
 case round =>
  obtain ⟨left,cnt,cs,hrg,hcl,hrow,hB,hz⟩ := hrel
  have HCh := hid1 hcl
  have hlen := hcl.len HN.out
  go_wp2_with (first
   | (at_next;refine wpList_next_ranges _ rfl _ rfl 3 ilaw stepElem (Value.int .i64) stepP (fun key kl hk => by obtain ⟨x,rfl,_⟩ := Maps.keyOf_int_inv Tryz.underlying3 hk;exact ⟨x,rfl⟩) stepElem_inv bm w1.heap.size n _ _ _ rfl hrg ?_ ?_)
   | go_in)
  ·intro _ hl0
   have HD := hid1 (HCh.out.done hl0 HN.out)
   have HSo := hid1 (sortI_calls hz u5 cs (by omega) hrow)
   obtain ⟨p5,c5,rfl⟩ := own_val hrow
   go_wp2_with fail
   refine HSo.out.mono ?_
   rintro e w3 ⟨rfl,hni,g3'⟩
   have HNI : Hid (NIRow w3 (.slice p5 cs.length c5) ((List.range N).filter fun k => dm k && b k)) := hid1 (by rw [← HD.out];exact hni)
   have HB3 : Hid (Below w1.heap.size w1 w3) := hid1 (hB.trans (g3'.mono (Nat.le_succ _)))
   go_wp2
   go_ret
   exact ⟨_,rfl,HNI.out,HB3.out⟩
  ·intro x c kl yd yp w2 cnt2 hkey hlk hv hat hrg2 hlt hg2 hs2 hen
   obtain ⟨x',ex,rfl,_⟩ := Maps.keyOf_int_inv Tryz.underlying3 hkey
   obtain rfl : x = x' := by simpa using ex
   have hx := (H3.out x).1 (HCh.out.sub _ hlk)
   obtain ⟨k,rfl⟩ : ∃ k : Nat,x = k := ⟨x.toNat,by omega⟩
   rw [Int.toNat_natCast] at hx
   have hck : c = some (sp k) := by
    have h1 := H4.out k hx.2 (.lit (.int .i64 0))
    rw [hat] at h1
    rw [stepElem_mk] at hv
    have h2 : (DataW.lit (.int .i64 (stepI c)) : DataW Unit) = yd := by simpa using congrArg (fun o => o.map Prod.fst) hv
    rw [← h2] at h1
    exact stepI_inj (by simpa [stepI] using h1)
   subst hck
   have HCh2 := hid1 (HCh.out.step hx.2 hlk)
   have hB2 : Below w1.heap.size w1 w2 := hB.grown hg2 hB.size (fun j e => by cases e;exact Nat.le_refl _)
   have hrow2 := hrow.kept hg2 (.inr (fun e => by have := (own_lt hrow _ e).1;omega))
   have HR2 := hid1 hrg2
   have hz2' : w1.heap.size + 1 ≤ w2.heap.size := by omega
   have hm1 := hrg.left_eq
   have HCa := HF.out k hx.2 w2 hB2
   have HLt : Hid (cnt2 < cnt) := hid1 hlt
   cases hb : b k with
   | false =>
    rw [hb] at HCa HCh2
    simp only [Bool.false_eq_true,if_false,List.append_nil] at HCh2
    go_wp2_with fail
    refine Calls.mono HCa ?_
    rintro e w4 ⟨rfl,g4⟩
    have HR4 := hid1 (ranges_below HR2.out g4)
    have HW4 := hid1 (own_below hrow2 g4)
    have HB4 := hid1 (below_then hB2 g4)
    have hz4 := g4.size
    go_wp2
    exact ⟨⟨_,_,cs,HR4.out,HCh2.out,HW4.out,HB4.out,by omega⟩,by rw [HR4.out.left_eq,hm1];exact HLt.out⟩
   | true =>
    rw [hb] at HCa HCh2
    simp only [if_true] at HCh2
    go_wp2_with fail
    refine Calls.mono HCa ?_
    rintro e w4 ⟨rfl,g4⟩
    have HR4 := hid1 (ranges_below HR2.out g4)
    have hrow4 := own_below hrow2 g4
    have HB4 := hid1 (below_then hB2 g4)
    have hz4 := g4.size
    have hml : cs.length + 1 ≤ maxLen := by unfold maxLen;omega
    have hbz : w1.heap.size + 1 ≤ w4.heap.size := by omega
    have HNe : Hid (u5.ownBlock ≠ some bm ∧ u5.ownBlock ≠ some w1.heap.size) := hid1 ⟨fun e => by have := (own_lt hrow4 _ e).1;omega,fun e => by have := (own_lt hrow4 _ e).1;omega⟩
    have HOw := hid1 hrow4
    go_wp2_with (first
     | (at_builtin;refine wpList_append_own _ rfl _ _ 147 rfl (w1.heap.size + 1) 3 i0 (.int .i64 0) 1 8 Tryz.underlying147 hi hz0 hz1 hz2 rfl (by decide) _ _ _ rfl (hrow4.alloc _) ⟨w4.heap.size,0,none⟩ 1 1 [nv k] rfl rfl (cell_one_new _ _ _) (by simp [Value.oneCell']) hml (by omega) (by simp;omega) ?_;intro v' w5 hown' hgrow _)
     | fail)
    have HR5 := hid1 ((HR4.out.alloc (.cells #[nv k] 3)).kept hgrow (fun e => HNe.out.1 e.symm) (fun e => HNe.out.2 e.symm))
    have hB5 := below_appended HB4.out (by omega) (ownsRow_mono HOw.out (Nat.le_succ _)) hgrow
    have hz5 := hgrow.size
    have hz5' : w1.heap.size + 1 ≤ w5.heap.size := by simp at hz5;omega
    exact ⟨⟨_,_,cs ++ [k],HR5.out,HCh2.out,by rw [List.length_append,List.map_append];exact hown',hB5,hz5'⟩,by rw [HR5.out.left_eq,hm1];exact HLt.out⟩
end Go.Proofs.YtdljhggillgpfaaGreatDoor
namespace Go.Proofs.YtdljhggillgpfaaGreatDoor
namespace Bf
structure Inv (d : Bd) : Prop where
 out : ∀ i,d.l.length ≤ i → d.st i = .no
 need : ∀ i k,Ru.needs d.l i k = true → (d.st i).isNo = false → (d.st k).isNo = false
 ran : ∀ i k,Ru.needs d.l i k = true → ((d.st i).isDone || (d.st i).isFailed) = true → (d.st k).isDone = true
 bad : ∀ i k,Ru.needs d.l i k = true → (d.st k).isBad = true → (d.st i).isNo = false → d.st i = .left
theorem Inv.init {d : Bd} (h1 : ∀ i,d.l.length ≤ i → d.st i = .no) (h2 : ∀ i k,Ru.needs d.l i k = true → (d.st i).isNo = false → (d.st k).isNo = false) (h3 : ∀ i,d.st i = .no ∨ d.st i = .waits) : Inv d := by
 refine ⟨h1,h2,fun i k _ h => ?_,fun i k _ h => ?_⟩
 ·rcases h3 i with e | e <;> rw [e] at h <;> cases h
 ·rcases h3 k with e | e <;> rw [e] at h <;> cases h
theorem Inv.set {d : Bd} (h : Inv d) {i : Nat} (hr : d.isReady i = true) (s : List UInt8) (b : Bool) : Inv (d.set i (.done s b)) := by
 have hw := ready_waits hr
 have hil : i < d.l.length := Nat.lt_of_not_le fun e => by have := h.out i e;rw [hw] at this;cases this
 have hno : ∀ k,(setS d.st i (.done s b) k).isNo = (d.st k).isNo := fun k => by
  by_cases e : k = i
  ·rw [e,setS_same,hw];rfl
  ·rw [setS_other e]
 refine ⟨fun k hk => ?_,fun a k hn ha => ?_,fun a k hn ha => ?_,fun a k hn hb ha => ?_⟩
 ·show setS d.st i _ k = _
  rw [setS_other (by have : d.l.length ≤ k := hk;omega)]
  exact h.out k hk
 ·have ha' : (setS d.st i (.done s b) a).isNo = false := ha
  show (setS d.st i (.done s b) k).isNo = false
  rw [hno] at ha' ⊢
  exact h.need a k hn ha'
 ·show (setS d.st i (.done s b) k).isDone = true
  by_cases ek : k = i
  ·rw [ek,setS_same];rfl
  ·rw [setS_other ek]
   by_cases ea : a = i
   ·subst ea
    exact ready_free hr (Ru.needs_lt hn).2 hn
   ·have ha' : ((setS d.st i (.done s b) a).isDone || (setS d.st i (.done s b) a).isFailed) = true := ha
    rw [setS_other ea] at ha'
    exact h.ran a k hn ha'
 ·have hb' : (setS d.st i (.done s b) k).isBad = true := hb
  have ha' : (setS d.st i (.done s b) a).isNo = false := ha
  show setS d.st i (.done s b) a = .left
  rw [hno] at ha'
  by_cases ek : k = i
  ·rw [ek,setS_same] at hb';cases hb'
  ·rw [setS_other ek] at hb'
   have := h.bad a k hn hb' ha'
   rw [setS_other fun e => by rw [e,hw] at this;cases this]
   exact this
inductive Up (us : Nat → List Nat) (s : Nat) : Nat → Prop
 | one {k : Nat} : k ∈ us s → Up us s k
 | more {j k : Nat} : Up us s j → k ∈ us j → Up us s k
theorem Up.trans {us : Nat → List Nat} {s u : Nat} (hu : u ∈ us s) : ∀ {k : Nat},Up us u k → Up us s k
 | _,.one h => .more (.one hu) h
 | _,.more h h' => .more (Up.trans hu h) h'
structure Leave (us : Nat → List Nat) (s : Nat) (ms : List Nat) (a b : Nat → St) : Prop where
 only : ∀ k,b k = a k ∨ ((a k).isLeft = false ∧ b k = .left ∧ Up us s k)
 closed : ∀ j,(a j).isLeft = false → b j = .left → ∀ k ∈ us j,b k = .left
 first : ∀ k ∈ ms,b k = .left
theorem St.left_eq {s : St} (h : s.isLeft = true) : s = .left := by cases s <;> first | rfl | cases h
theorem Leave.start (us : Nat → List Nat) (s : Nat) (a : Nat → St) : Leave us s [] a a := ⟨fun _ => .inl rfl,fun j h e => (by rw [e] at h;cases h),fun k hk => (by cases hk)⟩
theorem Leave.skip {us : Nat → List Nat} {s : Nat} {ms : List Nat} {a b : Nat → St} (h : Leave us s ms a b) {u : Nat} (hu : b u = .left) : Leave us s (ms ++ [u]) a b :=
 ⟨h.only,h.closed,fun k hk => by
  rcases List.mem_append.1 hk with h1 | h1
  ·exact h.first k h1
  ·rw [List.mem_singleton.1 h1];exact hu⟩
theorem Leave.mono {us : Nat → List Nat} {s : Nat} {ms : List Nat} {a b : Nat → St} (h : Leave us s ms a b) {k : Nat} (hk : a k = .left) : b k = .left := by
 rcases h.only k with e | ⟨_,e,_⟩
 ·rw [e,hk]
 ·exact e
theorem Leave.go {us : Nat → List Nat} {s : Nat} {ms : List Nat} {a b c : Nat → St} (h : Leave us s ms a b) {u : Nat} (hu : u ∈ us s) (hn : (b u).isLeft = false) (h' : Leave us u (us u) (setS b u .left) c) : Leave us s (ms ++ [u]) a c := by
 have hun : (a u).isLeft = false := by
  rcases h.only u with e | ⟨e,_,_⟩
  ·rw [← e];exact hn
  ·exact e
 have hcu : c u = .left := h'.mono (setS_same _ _ _)
 have hm : ∀ k,b k = .left → c k = .left := fun k hk => by
  by_cases e : k = u
  ·rw [e];exact hcu
  ·exact h'.mono (by rw [setS_other e];exact hk)
 refine ⟨fun k => ?_,fun j hj hc k hk => ?_,fun k hk => ?_⟩
 ·by_cases e : k = u
  ·subst e
   exact .inr ⟨hun,hcu,.one hu⟩
  ·rcases h'.only k with e1 | ⟨e1,e2,e3⟩
   ·rw [setS_other e] at e1
    rw [e1]
    exact h.only k
   ·rw [setS_other e] at e1
    refine .inr ⟨?_,e2,e3.trans hu⟩
    rcases h.only k with e4 | ⟨e4,_,_⟩
    ·rw [← e4];exact e1
    ·exact e4
 ·by_cases e : j = u
  ·subst e
   exact h'.first k hk
  ·cases hb : (b j).isLeft with
   | true => exact hm k (h.closed j hj (St.left_eq hb) k hk)
   | false => exact h'.closed j (by rw [setS_other e];exact hb) hc k hk
 ·rcases List.mem_append.1 hk with h1 | h1
  ·exact hm k (h.first k h1)
  ·rw [List.mem_singleton.1 h1];exact hcu
def St.notLeft (s : St) : Bool := !s.isLeft
theorem Leave.fewer {us : Nat → List Nat} {s : Nat} {ms : List Nat} {a b : Nat → St} (h : Leave us s ms a b) {u n : Nat} (hu : u < n) (hn : (b u).isLeft = false) : many (setS b u .left) St.notLeft n < many a St.notLeft n := by
 have hun : (a u).isLeft = false := by
  rcases h.only u with e | ⟨e,_,_⟩
  ·rw [← e];exact hn
  ·exact e
 refine many_less hu (by unfold St.notLeft;rw [hun];rfl) (by rw [setS_same];rfl) fun k hk => ?_
 unfold St.notLeft at hk ⊢
 by_cases e : k = u
 ·rw [e,hun];rfl
 ·rw [setS_other e] at hk
  rcases h.only k with e1 | ⟨e1,_,_⟩
  ·rw [← e1];exact hk
  ·rw [e1];rfl
def UsOk (d : Bd) (us : Nat → List Nat) : Prop := ∀ i,(d.st i).isNo = false → ∀ k,k ∈ us i ↔ (d.st k).isNo = false ∧ Ru.needs d.l k i = true
theorem Inv.up {d : Bd} (h : Inv d) {us : Nat → List Nat} (hu : UsOk d us) {i : Nat} (hw : d.st i = .waits) : ∀ {k : Nat},Up us i k → (d.st k).isNo = false ∧ (d.st k = .waits ∨ d.st k = .left)
 | k,.one hk => by
  have h1 := (hu i (by rw [hw];rfl) k).1 hk
  refine ⟨h1.1,?_⟩
  have h2 := h.ran k i h1.2
  rw [hw] at h2
  cases hs : d.st k with
  | no => rw [hs] at h1;cases h1.1
  | waits => exact .inl rfl
  | done s b => rw [hs] at h2;cases h2 rfl
  | failed c => rw [hs] at h2;cases h2 rfl
  | left => exact .inr rfl
 | k,@Up.more _ _ j _ hj hk => by
  have h0 := h.up hu hw hj
  have h1 := (hu j h0.1 k).1 hk
  refine ⟨h1.1,?_⟩
  have h2 := h.ran k j h1.2
  have h3 : (d.st j).isDone = false := by rcases h0.2 with e | e <;> rw [e] <;> rfl
  rw [h3] at h2
  cases hs : d.st k with
  | no => rw [hs] at h1;cases h1.1
  | waits => exact .inl rfl
  | done s b => rw [hs] at h2;cases h2 rfl
  | failed c => rw [hs] at h2;cases h2 rfl
  | left => exact .inr rfl
theorem Leave.spread {d : Bd} (hI : Inv d) {us : Nat → List Nat} (hu : UsOk d us) {i : Nat} (hr : d.isReady i = true) {c : Nat} {b : Nat → St} (h : Leave us i (us i) (setS d.st i (.failed c)) b) (k : Nat) (hk : (d.st k).isNo = false) : b k = Bf.spread d.l (setS d.st i (.failed c)) k := by
 have hw := ready_waits hr
 have hself : Ru.needs d.l i i = false := by
  rw [Bool.eq_false_iff]
  intro hn
  have := ready_free hr (Ru.needs_lt hn).2 hn
  rw [hw] at this
  cases this
 have hnot : ∀ k,Up us i k → k ≠ i := by
  intro k hk e
  subst e
  have : ∃ j,(d.st j).isDone = false ∧ Ru.needs d.l k j = true := by
   cases hk with
   | one h1 => exact ⟨k,by rw [hw];rfl,((hu k (by rw [hw];rfl) k).1 h1).2⟩
   | @more j _ hj h1 =>
    have h0 := hI.up hu hw hj
    exact ⟨j,by rcases h0.2 with e | e <;> rw [e] <;> rfl,((hu j h0.1 k).1 h1).2⟩
  obtain ⟨j,h1,h2⟩ := this
  rw [ready_free hr (Ru.needs_lt h2).2 h2] at h1
  cases h1
 have hup : ∀ k,Up us i k → (setS d.st i (.failed c) k).isLeft = false → Chain d.l (setS d.st i (.failed c)) k ∧ (setS d.st i (.failed c) k).isWaits = true := by
  intro k hk
  induction hk with
  | @one k hk =>
   intro hl
   have hne := hnot k (.one hk)
   have h1 := (hu i (by rw [hw];rfl) k).1 hk
   refine ⟨.one h1.2 (by rw [setS_same];rfl),?_⟩
   rw [setS_other hne] at hl ⊢
   rcases (hI.up hu hw (.one hk)).2 with e | e
   ·rw [e];rfl
   ·rw [e] at hl;cases hl
  | @more j k hj hk ih =>
   intro hl
   have hne := hnot k (.more hj hk)
   have hji := hnot j hj
   have h0 := hI.up hu hw hj
   have h1 := (hu j h0.1 k).1 hk
   rw [setS_other hne] at hl
   have hwk : d.st k = .waits := by
    rcases (hI.up hu hw (.more hj hk)).2 with e | e
    ·exact e
    ·rw [e] at hl;cases hl
   have hjl : (setS d.st i (.failed c) j).isLeft = false := by
    rw [setS_other hji]
    rcases h0.2 with e | e
    ·rw [e];rfl
    ·have := hI.bad k j h1.2 (by rw [e];rfl) h1.1
     rw [hwk] at this
     cases this
   obtain ⟨c1,c2⟩ := ih hjl
   exact ⟨.more h1.2 c2 c1,by rw [setS_other hne,hwk];rfl⟩
 have hdn : ∀ k,Chain d.l (setS d.st i (.failed c)) k → (d.st k).isNo = false → (setS d.st i (.failed c) k).isWaits = true → b k = .left := by
  intro k hk
  induction hk with
  | @one k j hn hb =>
   intro h1 h2
   have hki : k ≠ i := fun e => by rw [e,setS_same] at h2;cases h2
   rw [setS_other hki] at h2
   by_cases e : j = i
   ·subst e
    exact h.first k ((hu j (by rw [hw];rfl) k).2 ⟨h1,hn⟩)
   ·rw [setS_other e] at hb
    have := hI.bad k j hn hb h1
    rw [this] at h2
    cases h2
  | @more k j hn hwj hc ih =>
   intro h1 h2
   have hji : j ≠ i := fun e => by rw [e,setS_same] at hwj;cases hwj
   have hwj' := hwj
   rw [setS_other hji] at hwj'
   have hjn : (d.st j).isNo = false := by rw [St.waits_eq hwj'];rfl
   exact h.closed j (by rw [St.waits_eq hwj];rfl) (ih hjn hwj) k ((hu j hjn k).2 ⟨h1,hn⟩)
 by_cases hch : (setS d.st i (.failed c) k).isWaits = true ∧ Chain d.l (setS d.st i (.failed c)) k
 ·rw [hdn k hch.2 hk hch.1]
  unfold Bf.spread
  rw [if_pos hch]
 ·unfold Bf.spread
  rw [if_neg hch]
  rcases h.only k with e | ⟨e1,e2,e3⟩
  ·exact e
  ·have := hup k e3 e1
   exact absurd ⟨this.2,this.1⟩ hch
theorem spread_no (l : List Ru) (st : Nat → St) (k : Nat) : (Bf.spread l st k).isNo = (st k).isNo := by
 unfold Bf.spread
 split
 ·rename_i h
  rw [St.waits_eq h.1];rfl
 ·rfl
theorem spread_or (l : List Ru) (st : Nat → St) (k : Nat) : Bf.spread l st k = st k ∨ ((st k).isWaits = true ∧ Chain l st k ∧ Bf.spread l st k = .left) := by
 unfold Bf.spread
 split
 ·rename_i h
  exact .inr ⟨h.1,h.2,rfl⟩
 ·exact .inl rfl
theorem Inv.fail {d : Bd} (h : Inv d) {i : Nat} (hr : d.isReady i = true) (c : Nat) : Inv (d.fail i c) := by
 have hw := ready_waits hr
 have hil : i < d.l.length := Nat.lt_of_not_le fun e => by have := h.out i e;rw [hw] at this;cases this
 have hno : ∀ k,(Bf.spread d.l (setS d.st i (.failed c)) k).isNo = (d.st k).isNo := fun k => by
  rw [spread_no]
  by_cases e : k = i
  ·rw [e,setS_same,hw];rfl
  ·rw [setS_other e]
 have hself : ∀ k,Ru.needs d.l i k = true → (d.st k).isDone = true := fun k hn => ready_free hr (Ru.needs_lt hn).2 hn
 refine ⟨fun k hk => ?_,fun a k hn ha => ?_,fun a k hn ha => ?_,fun a k hn hb ha => ?_⟩
 ·have hk' : d.l.length ≤ k := hk
  show Bf.spread d.l _ k = _
  rw [spread_keeps (by rw [setS_other (by omega),h.out k hk'];rfl),setS_other (by omega)]
  exact h.out k hk'
 ·have ha' : (Bf.spread d.l (setS d.st i (.failed c)) a).isNo = false := ha
  show (Bf.spread d.l (setS d.st i (.failed c)) k).isNo = false
  rw [hno] at ha' ⊢
  exact h.need a k hn ha'
 ·have ha' : ((Bf.spread d.l (setS d.st i (.failed c)) a).isDone || (Bf.spread d.l (setS d.st i (.failed c)) a).isFailed) = true := ha
  show (Bf.spread d.l (setS d.st i (.failed c)) k).isDone = true
  have hdk : (d.st k).isDone = true := by
   by_cases e : a = i
   ·subst e
    exact hself k hn
   ·rcases spread_or d.l (setS d.st i (.failed c)) a with e1 | ⟨_,_,e1⟩
    ·rw [e1,setS_other e] at ha'
     exact h.ran a k hn ha'
    ·rw [e1] at ha';cases ha'
  have hki : k ≠ i := fun e => by rw [e,hw] at hdk;cases hdk
  rw [spread_keeps (by rw [setS_other hki];cases hs : d.st k <;> rw [hs] at hdk <;> first | rfl | cases hdk),setS_other hki]
  exact hdk
 ·have hb' : (Bf.spread d.l (setS d.st i (.failed c)) k).isBad = true := hb
  have ha' : (Bf.spread d.l (setS d.st i (.failed c)) a).isNo = false := ha
  show Bf.spread d.l (setS d.st i (.failed c)) a = .left
  rw [hno] at ha'
  have hai : a ≠ i := fun e => by
   subst e
   have h1 := hself k hn
   have hki : k ≠ a := fun e => by rw [e,hw] at h1;cases h1
   rw [spread_keeps (by rw [setS_other hki];cases hs : d.st k <;> rw [hs] at h1 <;> first | rfl | cases h1),setS_other hki] at hb'
   cases hs : d.st k <;> rw [hs] at h1 hb' <;> first | (cases hb';done) | (cases h1;done)
  have hleft : ∀ hc : Chain d.l (setS d.st i (.failed c)) a,d.st a = .waits → Bf.spread d.l (setS d.st i (.failed c)) a = .left := fun hc e => by
   unfold Bf.spread
   rw [if_pos ⟨by rw [setS_other hai,e];rfl,hc⟩]
  have hkeep : d.st a = .left → Bf.spread d.l (setS d.st i (.failed c)) a = .left := fun e => by
   rw [spread_keeps (by rw [setS_other hai,e];rfl),setS_other hai,e]
  have hcase : (d.st k).isDone = false → d.st a = .waits ∨ d.st a = .left := fun hd => by
   have h2 := h.ran a k hn
   rw [hd] at h2
   cases hs : d.st a with
   | no => rw [hs] at ha';cases ha'
   | waits => exact .inl rfl
   | done s b => rw [hs] at h2;cases h2 rfl
   | failed c => rw [hs] at h2;cases h2 rfl
   | left => exact .inr rfl
  by_cases e : k = i
  ·subst e
   rcases hcase (by rw [hw];rfl) with e1 | e1
   ·exact hleft (.one hn (by rw [setS_same];rfl)) e1
   ·exact hkeep e1
  ·rcases spread_or d.l (setS d.st i (.failed c)) k with e1 | ⟨e1,e2,_⟩
   ·rw [e1,setS_other e] at hb'
    exact hkeep (h.bad a k hn hb' ha')
   ·have hwk := e1
    rw [setS_other e] at hwk
    rcases hcase (by rw [St.waits_eq hwk];rfl) with e3 | e3
    ·exact hleft (.more hn e1 e2) e3
    ·exact hkeep e3
theorem Inv.go {d : Bd} (h : Inv d) (act : Act) (c : Ca) {i : Nat} (hr : d.isReady i = true) : Inv (go act c d i).d := by
 unfold Bf.go
 split
 ·exact h.fail hr _
 ·split
  ·exact h.set hr _ _
  ·split
   ·exact h.set hr _ _
   ·exact h.fail hr _
end Bf
end Go.Proofs.YtdljhggillgpfaaGreatDoor
