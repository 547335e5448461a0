import Derived.Test.YtflbofdpfgkmcaaGreatDoorRP28
set_option maxRecDepth 100000
set_option maxHeartbeats 16000000
namespace Go.Proofs.YtflbofdpfgkmcaaGreatDoor
open Go.RowKit Go.Shelf Go.Lib Go.Maps
theorem nodup_inj {l : List Nat} (h : l.Nodup) {i j : Nat} (hi : i < l.length) (hj : j < l.length) (e : l[i] = l[j]) : i = j := by
 have hp := List.pairwise_iff_getElem.1 h
 rcases Nat.lt_trichotomy i j with h1 | h1 | h1
 ·exact absurd e (hp i j hi hj h1)
 ·exact h1
 ·exact absurd e.symm (hp j i hj hi h1)
abbrev ruOf (l : List Ru) (k : Nat) : Ru := l.getD k ⟨[],[],[],[]⟩
theorem stepsOf_calls {es : Nat → Addr} {W0 : World} {Bt tb : Nat} {fs : Tf.Fs} {o : Option Nat} (hT : TreeAt Bt W0 tb fs o) (lv : Value) (l : List Ru) (hrow : RRow W0 lv l) (hl : l.length ≤ 40) (hS : ∀ x ∈ l,x.Small) (hA : Ru.Apart l) (ov : Value) (ord : List Nat) (hord : NIRow W0 ov ord) (ht : Ru.Topo l ord) (hnd : ord.Nodup) (hol : ∀ i ∈ ord,i < l.length) :
  Calls Tryz.prog 106 #[Ptr tb,lv,ov] W0 fun e w' => ∃ bm mb L,e = .returned (.map (some bm)) ∧ OfS es W0 l fs (ruOf l) bm mb ord L w' := by
 have hlen : ord.length ≤ l.length := len_le hnd hol
 have hmm := @run_makeMap Tryz.prog
 have HT := hid1 hT
 have HS := hid1 hS
 have HA := hid1 hA
 have HTo := hid1 ht
 have HNd := hid1 hnd
 have HOl := hid1 hol
 have hru : ∀ k (hk : k < l.length),ruOf l k = l[k] := fun k hk => by simp [ruOf,hk]
 have HRu := hid1 hru
 obtain ⟨po,co,rfl,hoc⟩ := hord
 obtain ⟨pl,cl,rfl,hcl,hnl,hlc⟩ := hrow
 have HOc := hid1 hoc
 have HLc := hid1 hlc
 have zo : (ord.length : Int) ≤ 1000 := by omega
 have zl : (l.length : Int) ≤ 1000 := by omega
 have HS0 := hid1 (OfS.start es W0 l fs (ruOf l) ⟨fun _ => 0,fun _ => .slice none 0 0,fun _ => .slice none 0 0,fun _ => []⟩)
 clear hT hS hA ht hnd hol hoc hlc hru hnl hcl
 go_enter Tryz.func106,Tryz.ntmps106
 go_wp2
 go_loopw [16] (fun iv wr => ∃ (m : Nat) (L : Lay),m ≤ ord.length ∧ iv = .int .i64 m ∧ OfS es W0 l fs (ruOf l) W0.heap.size (W0.heap.size + 1) (ord.take m) L wr) (fun iv _ => ord.length - (intOf iv).toNat)
 case atStart => exact ⟨0,_,Nat.zero_le _,rfl,HS0.out⟩
 case round =>
  clear HS0
  obtain ⟨m,L,hm,rfl,hN⟩ := hrel
  have HN := hid1 hN
  clear hN
  have m0 : (0 : Int) ≤ (m : Int) := by omega
  by_cases hlt : m < ord.length
  ·have m1 : (m : Int) < (ord.length : Int) := by omega
   obtain ⟨g1,o1,rfl,hg1,hc1⟩ := HOc.out (by intro e;rw [e] at hlt;simp at hlt)
   have d0 := (HN.out.made.base.cell (p := ⟨g1,o1 + m,none⟩) hg1).trans (hc1 m hlt)
   have hil : ord[m] < l.length := HOl.out _ (List.getElem_mem hlt)
   have hnot : ord[m] ∉ ord.take m := fun e => by
    obtain ⟨j,hj,ej⟩ := List.mem_take_iff_getElem.1 e
    have := nodup_inj HNd.out _ _ ej
    omega
   have htk : ord.take (m + 1) = ord.take m ++ [ord[m]] := List.take_succ_eq_append_getElem hlt
   have HTk := hid1 htk
   have HTm := hid1 fun k (hn : Ru.needs l ord[m] k = true) => HTo.out m hlt k hn
   have HBk : Hid (∀ k ∈ ord.take m,k < l.length ∧ Ru.needs l k ord[m] = false) := hid1 fun k hk => by
    obtain ⟨j,hj,ej⟩ := List.mem_take_iff_getElem.1 hk
    refine ⟨HOl.out k (List.mem_of_mem_take hk),?_⟩
    rw [Bool.eq_false_iff]
    intro hn
    rw [← ej] at hn
    have h1 := HTo.out j (by omega) _ hn
    obtain ⟨j',hj',ej'⟩ := List.mem_take_iff_getElem.1 h1
    have := nodup_inj HNd.out _ _ ej'
    omega
   have hself : Ru.needs l ord[m] ord[m] = false := by
    rw [Bool.eq_false_iff]
    intro hn
    exact hnot (HTo.out m hlt _ hn)
   have hdl : (ord.take m).length = m := by simp;omega
   clear hc1 htk
   generalize ord[m] = i at *
   have i0 : (0 : Int) ≤ (i : Int) := by omega
   have i1 : (i : Int) < (l.length : Int) := by omega
   obtain ⟨g2,o2,rfl,hg2,hc2⟩ := HLc.out (by intro e;rw [e] at hil;simp at hil)
   obtain ⟨b0,b1,b2,u,b3,hu⟩ := hc2 i hil
   have hb := HN.out.made.base
   have c0 := cell_below' b0 hb
   have c1 := cell_below' b1 hb
   have c2 := cell_below' b2 hb
   have c3 := cell_below' b3 hb
   have hsm := HS.out _ (List.getElem_mem hil)
   have HNw := newStep_calls (es := es) (i := i) HN.out.made hnot HT.out u (by rw [HRu.out i hil];exact hu) (by rw [HRu.out i hil];exact hsm.many) (by rw [HRu.out i hil];exact fun x hx => by have := hsm.ins x hx;omega) HN.out.mmap (inpOf l fs) (by
    rw [HRu.out i hil]
    intro x hx
    unfold inpOf mkD
    cases hmk : Bf.mkr l x with
    | some k =>
     obtain ⟨hk,e1,_⟩ := Ru.mkr_some (show Ru.mkr l x = some k from hmk)
     have hin := HTm.out k (by rw [Ru.needs_eq hil hk,e1];simpa using hx)
     exact .inl ⟨k,rfl,hin,by simp only;rw [if_pos hin]⟩
    | none =>
     cases hg : Tf.get fs x with
     | some b => exact .inr (.inl ⟨rfl,b,rfl,rfl⟩)
     | none => exact .inr (.inr ⟨rfl,rfl,rfl⟩)) (fun k hk => by have := HN.out.usl k hk;omega)
   have HNx := hid1 fun w2 sb L' hN2 => HN.out.next (w2 := w2) (sb := sb) (L' := L') HRu.out HA.out hil hnot (by have := hsm.out;omega) hsm.many (by omega) hself HBk.out (by omega) hN2
   rw [HRu.out i hil] at HNw HNx
   have HNw := hid1 HNw
   obtain ⟨pu,cu,rfl,-⟩ := hu
   have HB0 := hid1 b0
   have HG2 := hid1 hg2
   clear hsm hb hc2 b0 b1 b2 b3 HLc HOc HN hnot hself HBk HTm hdl
   generalize hri : l[i] = r at *
   clear hri
   go_wp2_with fail
   refine HNw.out.mono ?_
   rintro e w2 ⟨sb,L',rfl,hsb,hN2⟩
   obtain ⟨w3,r3,b3,w4,r4,hN4⟩ := HNx.out w2 sb L' hN2
   have HN4 := hid1 hN4
   have e0 := cell_below' HB0.out b3
   clear HNw HNx hN2 hN4 b3
   go_wp2
   exact ⟨⟨m + 1,_,by omega,by go_num,by rw [HTk.out];exact HN4.out⟩,by simp [intOf];omega⟩
  ·have m1 : (ord.length : Int) ≤ (m : Int) := by omega
   have HN2 : Hid (OfS es W0 l fs (ruOf l) W0.heap.size (W0.heap.size + 1) ord L wr) := hid1 (by
    have := HN.out
    rwa [List.take_of_length_le (by omega)] at this)
   clear HN HLc HOc
   go_wp2
   go_ret
   exact ⟨_,_,L,rfl,HN2.out⟩
def Inp.get (st : Nat → Bf.St) : Inp → Option (List UInt8)
 | .rule k => some (st k).out
 | .file b => some b
 | .gone => none
def gat (st : Nat → Bf.St) : List Inp → Option (List (List UInt8))
 | [] => some []
 | x :: r => match x.get st with
  | none => none
  | some b => (gat st r).map (b :: ·)
theorem gat_snoc (st : Nat → Bf.St) : ∀ (a : List Inp) (x : Inp) {o : List (List UInt8)},gat st a = some o → gat st (a ++ [x]) = (x.get st).map fun b => o ++ [b]
 | [],x,o,h => by
  cases h
  show gat st [x] = _
  unfold gat gat
  cases x.get st <;> rfl
 | y :: r,x,o,h => by
  unfold gat at h
  rw [List.cons_append]
  unfold gat
  cases hy : y.get st with
  | none => rw [hy] at h;cases h
  | some b =>
   rw [hy] at h
   cases hr : gat st r with
   | none => rw [hr] at h;cases h
   | some q =>
    rw [hr] at h
    obtain rfl : b :: q = o := by simpa using h
    have := gat_snoc st r x hr
    simp only [this]
    cases x.get st <;> rfl
theorem gat_bad (st : Nat → Bf.St) : ∀ (a : List Inp) (r : List Inp),gat st (a ++ .gone :: r) = none
 | [],r => rfl
 | y :: a,r => by
  rw [List.cons_append]
  unfold gat
  cases y.get st with
  | none => rfl
  | some b => simp only [gat_bad st a r];rfl
theorem gat_len (st : Nat → Bf.St) : ∀ {a : List Inp} {o : List (List UInt8)},gat st a = some o → o.length = a.length
 | [],o,h => by cases h;rfl
 | y :: r,o,h => by
  unfold gat at h
  cases hy : y.get st with
  | none => rw [hy] at h;cases h
  | some b =>
   rw [hy] at h
   cases hr : gat st r with
   | none => rw [hr] at h;cases h
   | some q =>
    rw [hr] at h
    obtain rfl : b :: q = o := by simpa using h
    simp [gat_len st hr]
theorem get_inpOf (d : Bf.Bd) (x : List UInt8) : (inpOf d.l d.fs x).get d.st = d.bytes x := by
 unfold inpOf Bf.Bd.bytes
 cases Bf.mkr d.l x with
 | some k => rfl
 | none => cases Tf.get d.fs x <;> rfl
theorem gat_insOf (d : Bf.Bd) (i : Nat) : gat d.st (insOf d i) = d.ins i := by
 unfold insOf Bf.Bd.ins
 generalize (d.rule i).ins = l
 induction l with
 | nil => rfl
 | cons x r ih =>
  rw [List.map_cons]
  unfold gat Bf.inB
  rw [get_inpOf,ih]
  cases d.bytes x <;> rfl
theorem stgather_calls {W : World} {es : Nat → Addr} {dom : Nat → Prop} {L : Lay} {ru : Nat → Ru} {ins : Nat → List Inp} {st : Nat → Bf.St} (h : Steps W es dom L ru ins st) (i : Nat) (hi : dom i) (hl : (ins i).length ≤ 1000) :
  Calls Tryz.prog 159 #[Ptr (L.sp i)] W fun e w' => Below W.heap.size W w' ∧ ((gat st (ins i) = none ∧ e = .returned (.tuple #[.slice none 0 0,.bool false])) ∨ ∃ xs v,gat st (ins i) = some xs ∧ e = .returned (.tuple #[v,.bool true]) ∧ w'.ownsRow W.heap.size 9 1 v xs.length (xs.map sv)) := by
 have c2 := (h.at hi).c2
 obtain ⟨p,cap,e2,hin⟩ := BRow.of_owns (h.insR i hi)
 rw [e2] at c2
 have HI := hid1 hin
 have HSt := hid1 h
 have zl : ((ins i).length : Int) ≤ 1000 := by omega
 obtain ⟨i0,hti,hz0,hz1,hz2⟩ := info_parts Tryz.infoStr
 clear h hin e2
 go_enter Tryz.func159,Tryz.ntmps159
 go_wp2
 clear c2
 go_loopw [4,12] (fun lv iv wr => ∃ (k : Nat) (xs : List (List UInt8)),k ≤ (ins i).length ∧ iv = .int .i64 k ∧ gat st ((ins i).take k) = some xs ∧ wr.ownsRow W.heap.size 9 1 lv xs.length (xs.map sv) ∧ Below W.heap.size W wr) (fun _ iv _ => (ins i).length - (intOf iv).toNat)
 case atStart => exact ⟨0,[],Nat.zero_le _,rfl,rfl,World.ownsRow_nil _ _ _ _,Below.refl _ _⟩
 case round =>
  obtain ⟨k,xs,hk,rfl,hg,hrow,hB⟩ := hrel
  have hxl := gat_len st hg
  have hxl2 : xs.length ≤ 1000 := by rw [hxl];simp;omega
  have HG := hid1 hg
  have HRow := hid1 hrow
  clear hg hxl hrow
  have k0 : (0 : Int) ≤ (k : Int) := by omega
  by_cases hlt : k < (ins i).length
  ·have k1 : (k : Int) < ((ins i).length : Int) := by omega
   obtain ⟨g,rfl,hgl,hc⟩ := HI.out (by intro e;rw [e] at hlt;simp at hlt)
   obtain ⟨u0,u1,u2⟩ := hc k hlt
   have d0 := cell_below' u0 hB
   have d1 := cell_below' u1 hB
   have d2 := cell_below' u2 hB
   have hT : (ins i).take (k + 1) = (ins i).take k ++ [(ins i)[k]] := List.take_succ_eq_append_getElem hlt
   have hBad : Hid ((ins i)[k] = .gone → gat st (ins i) = none) := hid1 fun e => by
    have := gat_bad st ((ins i).take k) ((ins i).drop (k + 1))
    rwa [← e,← List.drop_eq_getElem_cons hlt,List.take_append_drop] at this
   have hmem : (ins i)[k] ∈ ins i := List.getElem_mem hlt
   have HS := hid1 (gat_snoc st _ (ins i)[k] HG.out)
   rw [← hT] at HS
   have hD := HSt.out.insD i hi
   clear hT hc u0 u1 u2 HI HG
   have hml : xs.length + 1 ≤ maxLen := by unfold maxLen;omega
   have hbz := hB.size
   generalize (ins i)[k] = y at *
   cases y with
   | rule j =>
    have hj := hD j hmem
    have c5 := ((HSt.out.below hB).at hj).c5
    have c5' : (wr.alloc (.cells #[Ptr (L.sp j),.string (ba []),.bool false] 235)).cell? ⟨L.sp j,5,none⟩ = some (.string (ba (st j).out)) := cell_below' c5 ((Below.refl _ wr).alloc (Nat.le_refl _) _)
    have hB1 : Below W.heap.size W (wr.alloc (.cells #[Ptr (L.sp j),.string (ba []),.bool false] 235)) := hB.alloc hbz _
    have hrow1 := HRow.out.alloc (.cells #[Ptr (L.sp j),.string (ba []),.bool false] 235)
    have hjl := lt_of_cell c5
    simp only at hjl
    simp only [Inp.from,Inp.text,Inp.there] at d0 d1 d2
    simp only [Inp.get,Option.map_some] at HS
    clear hD hBad HRow hmem
    generalize (st j).out = o at *
    go_wp2_with (first
     | (at_builtin;refine wpList_append_own _ rfl _ _ 45 rfl W.heap.size 9 i0 (.string ⟨#[]⟩) 1 16 Tryz.underlying45 hti hz0 hz1 hz2 rfl (by decide) _ _ _ rfl (hrow1.alloc _) ⟨wr.heap.size + 1,0,none⟩ 1 1 [sv o] rfl rfl (one_new _ _ _ _ (by simp)) (by simp [Value.oneCell']) hml (by omega) (by simp;omega) ?_;intro v' w4 hown' hgrow _)
     | go_in)
    exact ⟨⟨k + 1,xs ++ [o],by omega,by go_num,HS.out,by rw [List.length_append,List.map_append];exact hown',below_appended hB1 (by simp;omega) hrow1 hgrow⟩,by simp [intOf];omega⟩
   | file b =>
    have hB1 : Below W.heap.size W (wr.alloc (.cells #[.pointer none,.string (ba b),.bool true] 235)) := hB.alloc hbz _
    have hrow1 := HRow.out.alloc (.cells #[.pointer none,.string (ba b),.bool true] 235)
    simp only [Inp.from,Inp.text,Inp.there] at d0 d1 d2
    simp only [Inp.get,Option.map_some] at HS
    clear hD hBad HRow hmem
    go_wp2_with (first
     | (at_builtin;refine wpList_append_own _ rfl _ _ 45 rfl W.heap.size 9 i0 (.string ⟨#[]⟩) 1 16 Tryz.underlying45 hti hz0 hz1 hz2 rfl (by decide) _ _ _ rfl (hrow1.alloc _) ⟨wr.heap.size + 1,0,none⟩ 1 1 [sv b] rfl rfl (one_new _ _ _ _ (by simp)) (by simp [Value.oneCell']) hml (by omega) (by simp;omega) ?_;intro v' w4 hown' hgrow _)
     | go_in)
    exact ⟨⟨k + 1,xs ++ [b],by omega,by go_num,HS.out,by rw [List.length_append,List.map_append];exact hown',below_appended hB1 (by simp;omega) hrow1 hgrow⟩,by simp [intOf];omega⟩
   | gone =>
    have hB1 : Below W.heap.size W (wr.alloc (.cells #[.pointer none,.string (ba []),.bool false] 235)) := hB.alloc hbz _
    have HN := hid1 (hBad.out rfl)
    simp only [Inp.from,Inp.text,Inp.there] at d0 d1 d2
    clear hD hBad HRow hmem HS
    go_wp2
    go_ret2
    exact ⟨hB1,.inl ⟨HN.out,rfl⟩⟩
  ·have k1 : ((ins i).length : Int) ≤ (k : Int) := by omega
   have HG2 : Hid (gat st (ins i) = some xs) := hid1 (by
    have := HG.out
    rwa [List.take_of_length_le (by omega)] at this)
   obtain ⟨pv,cv,rfl⟩ := own_val HRow.out
   clear HG
   go_wp2
   go_ret2
   exact ⟨hB,.inr ⟨xs,_,HG2.out,rfl,HRow.out⟩⟩
end Go.Proofs.YtflbofdpfgkmcaaGreatDoor
namespace Go.Proofs
def Tryz.laysNm224_ren : Go.Shelf.Ren := ⟨fun | 24 => 240 | n => n,fun | 24 => 45 | 9 => 9 | 3 => 3 | 4 => 4 | 0 => 0 | n => n,fun | n => n⟩
theorem Tryz.laysNm224 : Go.Proofs.Lays2.n24 Tryz.prog Tryz.laysNm224_ren := {
 mixed := by kernel_rfl
 f24 := Tryz.func240.trans (congrArg some (by kernel_rfl))
 t0 := Tryz.underlying0
 a0 := Tryz.isAgg0
 z0 := Tryz.sizeOf0
 v0 := Tryz.zeroValue0
 t3 := Tryz.underlying3
 a3 := Tryz.isAgg3
 z3 := Tryz.sizeOf3
 v3 := Tryz.zeroValue3
 t4 := Tryz.underlying4
 a4 := Tryz.isAgg4
 z4 := Tryz.sizeOf4
 v4 := Tryz.zeroValue4
 t9 := Tryz.underlying9
 a9 := Tryz.isAgg9
 z9 := Tryz.sizeOf9
 v9 := Tryz.zeroValue9
 t24 := Tryz.underlying45
 a24 := Tryz.isAgg45
 z24 := Tryz.sizeOf45
 v24 := Tryz.zeroValue45
 i9 := by kernel_rfl }
open Go.RowKit Go.Lib Go.Sort in
theorem Tryz.slices_Delete_string (blk off cap i j : Nat) (zs : List (List UInt8)) (w : World) (hH : Holds encStr w blk off zs.toArray) (hcap : zs.length ≤ cap) (hm : cap ≤ 9223372036854775807) (hij : i ≤ j) (hj : j ≤ zs.length) :
  Calls Tryz.prog 240 #[.slice (some ⟨blk,off,none⟩) zs.length cap,.int .i64 i,.int .i64 j] w fun e w' => e = .returned (.slice (some ⟨blk,off,none⟩) (zs.length - (j - i)) cap) ∧ ∃ q,w' = putRow encStr (Sort.ahead w q) blk off (zs.take i ++ zs.drop j ++ List.replicate (j - i) []).toArray := Any.slices_Delete_string Tryz.laysNm224 blk off cap i j zs w hH hcap hm hij hj
def Tryz.laysSlH6_f295_renK : Go.Shelf.Ren := ⟨fun | 6 => 295 | n => n,fun | 22 => 45 | 23 => 9 | 25 => 33 | 3 => 3 | 0 => 0 | 4 => 4 | n => n,fun | n => n⟩
theorem Tryz.laysSlH6_f295K : Go.Proofs.SlLaysH.n6 Tryz.prog Tryz.laysSlH6_f295_renK := {
 mixed := by kernel_rfl
 f6 := ⟨Tryz.f295.name,by decide,Tryz.func295.trans (congrArg some (by kernel_rfl))⟩
 t0 := Tryz.underlying0
 a0 := Tryz.isAgg0
 z0 := Tryz.sizeOf0
 v0 := Tryz.zeroValue0
 t3 := Tryz.underlying3
 a3 := Tryz.isAgg3
 z3 := Tryz.sizeOf3
 v3 := Tryz.zeroValue3
 t4 := Tryz.underlying4
 a4 := Tryz.isAgg4
 z4 := Tryz.sizeOf4
 v4 := Tryz.zeroValue4
 t22 := Tryz.underlying45
 a22 := Tryz.isAgg45
 z22 := Tryz.sizeOf45
 v22 := Tryz.zeroValue45
 a23 := Tryz.isAgg9
 z23 := Tryz.sizeOf9
 t25 := Tryz.underlying33
 a25 := Tryz.isAgg33
 z25 := Tryz.sizeOf33
 v25 := Tryz.zeroValue33 }
open Go.RowKit Go.Lib in
theorem Tryz.slices_IndexFunc_empty {α : Type} [Inhabited α] (a : Option Addr) (c : Nat) (fv : Value) (w : World) :
  Calls Tryz.prog 295 #[.slice a 0 c,fv] w fun e w' => e = .returned (.int .i64 (-1)) ∧ w' = w := AnyE.slices_IndexFunc_empty Tryz.laysSlH6_f295K a c fv w
end Go.Proofs
namespace Go.Proofs.YtflbofdpfgkmcaaGreatDoor
open Go.Sort (grow Holds putRow)
theorem last1_gives (k x : List UInt8) (b : Nat) (W : World) (hb : W.cell? ⟨b,0,none⟩ = some (.string (ba k))) :
  FnGives Tryz.prog 282 #[.pointer (some ⟨b,0,none⟩)] #[sv x] (.bool (x == k)) W := by
 suffices goal : Calls Tryz.prog 282 #[.string (ba x),.pointer (some ⟨b,0,none⟩)] W fun e w' => e = .returned (.bool (x == k)) ∧ w' = W from Calls.mono goal fun e w' ⟨h1,h2⟩ => ⟨h1,0,h2⟩
 go_enter Tryz.func282,Tryz.ntmps282
 go_wp2
 go_ret
 exact ⟨rfl,rfl⟩
theorem delNil_calls {w : World} (caps : Array Value) :
  Calls Tryz.prog 260 #[.slice none 0 0,.func (.func 282) #[] caps] w fun e w' => e = .returned (.slice none 0 0) ∧ w' = w := by
 have HC := hid1 (Tryz.slices_IndexFunc_empty (α := Nat) none 0 (.func (.func 282) #[] caps) w)
 go_enter Tryz.func260,Tryz.ntmps260
 go_wp2_with fail
 refine HC.out.mono ?_
 rintro e w1 ⟨rfl,rfl⟩
 clear HC
 go_wp2
 go_ret
 exact ⟨rfl,rfl⟩
theorem delKey_calls {W : World} {u : Value} {ks : List (List UInt8)} (hrow : KRow W u ks) (hl : ks.length ≤ 1000) (k : List UInt8) (b : Nat) (hb : W.cell? ⟨b,0,none⟩ = some (.string (ba k))) (hne : some b ≠ u.ownBlock) :
  Calls Tryz.prog 260 #[u,.func (.func 282) #[] #[.pointer (some ⟨b,0,none⟩)]] W fun e w' => ∃ u',e = .returned u' ∧ KRow w' u' (ks.filter fun x => !(x == k)) ∧ u'.ownBlock = u.ownBlock ∧ W.grownBy w' u.ownBlock := by
 have hbl : b < W.heap.size := lt_of_cell hb
 by_cases hu : u = .slice none 0 0
 ·subst hu
  obtain rfl : ks = [] := by
   rcases hrow.2 with ⟨_,h⟩ | ⟨g,cap,cur,h,_⟩
   ·exact List.length_eq_zero_iff.1 h
   ·cases h
  refine (delNil_calls (w := W) #[.pointer (some ⟨b,0,none⟩)]).mono ?_
  rintro e w' ⟨rfl,rfl⟩
  exact ⟨_,rfl,World.ownsRow_nil _ _ _ _,rfl,⟨rfl,rfl,rfl,Nat.le_refl _,fun _ _ _ => rfl⟩⟩
 ·obtain ⟨g,cap,rfl,-,hg,hcap,hm,-,hH⟩ := Lib.holds_of_ownsRow hrow hu
  have hbg : b ≠ g := fun e => hne (by rw [e];rfl)
  have key := Tryz.slices_DeleteFunc sv (fun _ => rfl) (fun x => x == k) 282 #[.pointer (some ⟨b,0,none⟩)] (enters_of Tryz.func282 (by kernel_rfl) rfl) [] (fun w => by kernel_rfl) g 0 cap ks.toArray W
   (fun V x hV => last1_gives k x b V ((cell_below2 hV hbl).trans hb))
   (fun n os dk x _ => by
    refine last1_gives k x b _ (Eq.trans ?_ hb)
    unfold sortWorld
    rw [Go.Sort.cell?_grow _ _ _ (by show b < (putRow _ _ _ _ _).heap.size;rw [Go.Sort.size_putRow];exact hbl),Go.Sort.cell?_putRow_other _ _ g 0 _ _ (Or.inl hbg)]
    rfl)
   hH (by simp;omega) (by simpa using hcap)
  have e0 : ks.toArray.size = ks.length := by simp
  rw [e0] at key
  refine key.mono ?_
  rintro e w' ⟨rfl,q,rfl⟩
  have hle : (ks.filter fun x => !(x == k)).length ≤ ks.length := List.length_filter_le _ _
  have h1 := Lib.ownsRow_putRow (q := q) (k := (ks.filter fun x => !(x == k)).length) (ys := (ks.filter fun x => !(x == k)) ++ List.replicate (ks.length - (ks.filter fun x => !(x == k)).length) []) hrow (by simp;omega) hle
  rw [List.take_left] at h1
  refine ⟨_,rfl,h1,rfl,⟨rfl,rfl,rfl,by rw [Go.Sort.size_putRow];exact Nat.le_refl _,fun j _ hj => ?_⟩⟩
  have : g ≠ j := fun e => hj (by rw [← e];rfl)
  simp [putRow,Go.Sort.mapBlock,Go.Sort.ahead,Array.getElem?_modify,this]
end Go.Proofs.YtflbofdpfgkmcaaGreatDoor
namespace Go.Proofs.YtflbofdpfgkmcaaGreatDoor
open Go.RowKit Go.Shelf Go.Lib
theorem CBox.stored {W w2 w4 : World} {cb eb g cap n : Nat} {u : Value} {m : Nat} {ks ks' : List (List UInt8)} {l : Cf.Ens} (h : CBox W cb eb u m ks l)
  (hb : ∀ j,j < W.heap.size → some j ≠ u.ownBlock → w4.heap[j]? = W.heap[j]?)
  (hrow : KRow w4 (.slice (some ⟨g,0,none⟩) n cap) ks') (hg : u.ownBlock = some g ∨ W.heap.size ≤ g) (e2 : w2 = w4.setCell ⟨cb,2,none⟩ (.slice (some ⟨g,0,none⟩) n cap)) :
  CBox w2 cb eb (.slice (some ⟨g,0,none⟩) n cap) m ks' l := by
 subst e2
 have hcl : cb < W.heap.size := lt_of_cell h.c0
 have hel : eb < W.heap.size := h.isMap.lt
 have bc := hb cb hcl h.ne2
 have be := hb eb hel h.ne3
 have gc : g ≠ cb := fun e => by
  rcases hg with h1 | h1
  ·exact h.ne2 (by rw [h1,e])
  ·omega
 have ge : g ≠ eb := fun e => by
  rcases hg with h1 | h1
  ·exact h.ne3 (by rw [h1,e])
  ·omega
 have hS : ∀ c,c ≠ cb → (w4.setCell ⟨cb,2,none⟩ (.slice (some ⟨g,0,none⟩) n cap)).heap[c]? = w4.heap[c]? := fun c hc => Below.heap_setCell w4 ⟨cb,2,none⟩ _ c hc
 have d2 : w4.cell? ⟨cb,2,none⟩ = some u := (World.cell?_of_block (a := ⟨cb,2,none⟩) bc).trans h.c2
 refine ⟨?_,?_,World.cell?_setCell_same' _ _ _ (by rw [d2];rfl),?_,hrow.same fun j hj => hS j ?_,(h.isMap.same be).same (hS eb h.ne1.symm),h.ne1,?_,?_⟩
 ·rw [World.cell?_setCell_other]
  ·exact (World.cell?_of_block (a := ⟨cb,0,none⟩) bc).trans h.c0
  ·simp
 ·rw [World.cell?_setCell_other]
  ·exact (World.cell?_of_block (a := ⟨cb,1,none⟩) bc).trans h.c1
  ·simp
 ·rw [World.frozen?_setCell]
  exact (World.frozen?_of_block (a := ⟨cb,2,none⟩) bc).trans h.f2
 ·intro e
  have : j = g := by simpa [Value.ownBlock] using hj
  exact gc (this.symm.trans e)
 ·intro e
  exact gc (by simpa [Value.ownBlock] using e.symm)
 ·intro e
  exact ge (by simpa [Value.ownBlock] using e.symm)
theorem makeLast_calls {W : World} {cb eb : Nat} {u : Value} {m : Nat} {ks : List (List UInt8)} {l : Cf.Ens} (h : CBox W cb eb u m ks l) (hl : ks.length ≤ 1000) (k : List UInt8) :
  Calls Tryz.prog 239 #[.pointer (some ⟨cb,0,none⟩),.string (ba k)] W fun e w' => e = .returned (.tuple #[]) ∧ Only (CBlk cb eb u) W w' ∧ ∃ u',CBox w' cb eb u' m ((ks.filter fun x => !(x == k)) ++ [k]) l ∧ ∀ j,some j = u'.ownBlock → some j = u.ownBlock ∨ W.heap.size ≤ j := by
 have g0 : Below W.heap.size W (W.alloc (.cells #[.string (ba k)] 9)) := (Below.refl _ W).alloc (Nat.le_refl _) _
 have h0 := h.below g0
 have hb0 : (W.alloc (.cells #[.string (ba k)] 9)).cell? ⟨W.heap.size,0,none⟩ = some (.string (ba k)) := by simp
 have hz0 : (W.alloc (.cells #[.string (ba k)] 9)).heap.size = W.heap.size + 1 := by simp
 have hnw : some W.heap.size ≠ u.ownBlock := fun e => by have := h.row.lt e;omega
 have HD := hid1 (delKey_calls h0.row hl k W.heap.size hb0 hnw)
 have c2 := h0.c2
 have hfl : (ks.filter fun x => !(x == k)).length ≤ ks.length := List.length_filter_le _ _
 obtain ⟨i0,hi,hz1,hz2,hz3⟩ := info_parts Tryz.infoStr
 have HH := hid1 h
 have HH0 := hid1 h0
 have hcl : cb < W.heap.size := lt_of_cell h.c0
 have hu2 := h.ne2
 have hml : (ks.filter fun x => !(x == k)).length + 1 ≤ maxLen := by unfold maxLen;omega
 clear h h0
 generalize (ks.filter fun x => !(x == k)) = fs at *
 generalize hW0 : W.alloc (.cells #[.string (ba k)] 9) = W0 at *
 go_enter Tryz.func239,Tryz.ntmps239
 go_wp2_with fail
 refine HD.out.mono ?_
 rintro e w2 ⟨u2,rfl,hk2,ho2,hg2⟩
 have hz2' := hg2.size
 have b2 := World.grownBy.cell_far hg2 ⟨W.heap.size,0,none⟩ (by show W.heap.size < _;omega) hnw
 rw [hb0] at b2
 have q2 := World.grownBy.cell_far hg2 ⟨cb,2,none⟩ (by show cb < _;omega) hu2
 rw [c2] at q2
 have f2 := World.grownBy.frozen_far hg2 ⟨cb,2,none⟩ (by show cb < _;omega) hu2
 rw [HH0.out.f2] at f2
 have HO2 := hid1 ho2
 have HG2 := hid1 hg2
 have HK2 := hid1 hk2
 have hcl2 : cb < w2.heap.size := by omega
 clear HD hg2 ho2
 have a2 : Below w2.heap.size w2 (w2.alloc (.cells #[.string (ba k)] 9)) := (Below.refl _ w2).alloc (Nat.le_refl _) _
 have q2a := hid1 (cell_below' q2 a2)
 have f2a := hid1 ((a2.frozen (p := ⟨cb,2,none⟩) hcl2).trans f2)
 have HA2 := hid1 a2
 clear a2
 have hk3 : w2.ownsRow 0 9 1 u2 fs.length (fs.map sv) := hk2
 clear hk2
 go_wp2_with (first
  | (at_builtin;refine wpList_append_lies _ rfl _ _ 45 rfl 0 9 i0 (.string ⟨#[]⟩) 1 16 Tryz.underlying45 hi hz1 hz2 hz3 rfl (by decide) u2 fs.length (fs.map sv) rfl (hk3.alloc _) ⟨w2.heap.size,0,none⟩ 1 1 [.string (ba k)] rfl rfl (cell_one_new _ _ _) (by simp [Value.oneCell']) (by decide) hml (by omega) (by simp) _ rfl ?_;intro g cap w4 hown4 hgrow4 hlies4 hlt4;(have q4 := (World.grownBy.cell_far hgrow4 ⟨cb,2,none⟩ (by simp;omega) (by rw [HO2.out];exact hu2)).trans (q2a.out));(have f4 := (World.grownBy.frozen_far hgrow4 ⟨cb,2,none⟩ (by simp;omega) (by rw [HO2.out];exact hu2)).trans (f2a.out));(have HR := hid1 (And.intro hown4 (And.intro hgrow4 (And.intro hlies4 hlt4))));clear hown4 hgrow4 hlies4 hlt4)
  | fail)
 go_wp2
 go_end0
 obtain ⟨hown,hgrow,hlies,hlt⟩ := HR.out
 have hA2 := HA2.out
 have hG2 := HG2.out
 rw [HO2.out] at hgrow hlies
 have za := hA2.size
 have zg := hgrow.size
 have hb : ∀ j,j < W.heap.size → some j ≠ u.ownBlock → w4.heap[j]? = W.heap[j]? := fun j hj hn =>
  (hgrow.block j (by omega) hn).trans ((hA2.block j (by omega)).trans ((hG2.block j (by omega) hn).trans (g0.block j hj)))
 have hg : u.ownBlock = some g ∨ W.heap.size ≤ g := by
  rcases hlies with h1 | h1
  ·exact .inl h1
  ·exact .inr (by omega)
 have hB := HH.out.stored hb (ks' := fs ++ [k]) (by unfold KRow;rw [List.length_append,List.length_singleton,List.map_append];exact hown) hg rfl
 refine ⟨rfl,⟨hgrow.os.trans (hA2.os.trans (hG2.os.trans g0.os)),hgrow.tape.trans (hA2.tape.trans (hG2.tape.trans g0.tape)),hgrow.output.trans (hA2.output.trans (hG2.output.trans g0.output)),by simp;omega,fun j hj hs => ?_⟩,_,hB,fun j hj => ?_⟩
 ·have h1 : j ≠ cb := fun e => hs (.inl e)
  have h2 : some j ≠ u.ownBlock := fun e => hs (.inr (.inr e))
  exact (Below.heap_setCell w4 ⟨cb,2,none⟩ _ j h1).trans (hb j hj h2)
 ·obtain rfl : j = g := by simpa [Value.ownBlock] using hj
  rcases hg with h1 | h1
  ·exact .inl h1.symm
  ·exact .inr h1
end Go.Proofs.YtflbofdpfgkmcaaGreatDoor
namespace Go.Proofs.YtflbofdpfgkmcaaGreatDoor
open Go.RowKit Go.Shelf Go.Lib
theorem cNew_yes (W : World) (m : Nat) (h1 : 1 ≤ m) (h2 : m ≤ 100) :
  Calls Tryz.prog 62 #[.int .i64 m] W fun e w' => ∃ p S,e = .returned (.tuple #[.pointer (some p),.nilIface]) ∧ Below W.heap.size W w' ∧ CAt S w' (.pointer (some p)) m [] ∧ ∀ k,S k → W.heap.size ≤ k := by
 have z1 : (1 : Int) ≤ (m : Int) := by omega
 have z2 : (m : Int) ≤ 100 := by omega
 have hmm := @run_makeMap Tryz.prog
 go_enter Tryz.func62,Tryz.ntmps62
 go_wp2
 go_ret2
 clear hmm
 have hz : (W.alloc (.map #[] 0)).heap.size = W.heap.size + 1 := by simp
 have g1 : Below W.heap.size W (W.alloc (.map #[] 0)) := (Below.refl _ W).alloc (Nat.le_refl _) _
 have hm0 := CMap.made W
 generalize W.alloc (.map #[] 0) = W1 at *
 have g2 : Below W1.heap.size W1 (W1.alloc (.cells #[.int .i64 m,.map (some W.heap.size),.slice none 0 0] 199)) := (Below.refl _ W1).alloc (Nat.le_refl _) _
 refine ⟨⟨W.heap.size + 1,0,none⟩,CBlk (W.heap.size + 1) W.heap.size (.slice none 0 0),rfl,g1.trans (g2.mono (by omega)),⟨_,_,_,rfl,fun j => Iff.rfl,⟨?_,?_,?_,?_,World.ownsRow_nil _ _ _ _,hm0.same (g2.block _ (by omega)),by omega,by simp [Value.ownBlock],by simp [Value.ownBlock]⟩,fun e he => by simp at he⟩,?_⟩
 ·rw [← hz];simp
 ·rw [← hz];simp
 ·rw [← hz];simp
 ·rw [← hz];simp
 ·rintro k (rfl | rfl | hk)
  ·omega
  ·omega
  ·simp [Value.ownBlock] at hk
theorem cNew_no {es : Nat → Addr} (W : World) (m : Int) (hm : m < 1 ∨ 100 < m) (hE : W.cell? ⟨6,0,none⟩ = some (erOf es 2)) :
  Calls Tryz.prog 62 #[.int .i64 m] W fun e w' => e = .returned (.tuple #[.pointer none,erOf es 2]) ∧ Below W.heap.size W w' := by
 generalize erOf es 2 = er at *
 rcases hm with hm | hm
 ·go_enter Tryz.func62,Tryz.ntmps62
  go_wp2
  go_region
  go_wp2
  go_ret2
  exact ⟨rfl,by first | exact Below.refl _ _ | exact below_draws (Below.refl _ _) _⟩
 ·have z1 : (1 : Int) ≤ m := by omega
  go_enter Tryz.func62,Tryz.ntmps62
  go_wp2
  go_region
  go_wp2
  go_ret2
  exact ⟨rfl,by first | exact Below.refl _ _ | exact below_draws (Below.refl _ _) _⟩
end Go.Proofs.YtflbofdpfgkmcaaGreatDoor
namespace Go.Proofs.YtflbofdpfgkmcaaGreatDoor
open Go.RowKit Go.Shelf Go.Lib
theorem CBlk.step {cb eb : Nat} {u u' : Value} {n : Nat} (h : ∀ j,some j = u'.ownBlock → some j = u.ownBlock ∨ n ≤ j) : ∀ j,CBlk cb eb u' j → CBlk cb eb u j ∨ n ≤ j := by
 rintro j (h1 | h1 | h1)
 ·exact .inl (.inl h1)
 ·exact .inl (.inr (.inl h1))
 ·rcases h j h1 with h2 | h2
  ·exact .inl (.inr (.inr h2))
  ·exact .inr h2
theorem cGet_calls {S : Nat → Prop} {W : World} {v : Value} {m : Nat} {l : Cf.Ens} (h : CAt S W v m l) (hO : Cf.Ok m l) (hm : m ≤ 100) (k : List UInt8) (hk : k.length ≤ 100000) :
  Calls Tryz.prog 162 #[v,.string (ba k)] W fun e w' => e = .returned (.tuple #[.string (ba ((Cf.find l k).getD [])),.bool (Cf.find l k).isSome]) ∧ Only S W w' ∧ ∃ S',CAt S' w' v m (Cf.get m l k) ∧ ∀ j,S' j → S j ∨ W.heap.size ≤ j := by
 obtain ⟨cb,eb,u,rfl,hS,h,hsh⟩ := h
 have hlk := look_cache h.isMap k (by omega)
 have c1 := h.c1
 have hl := hO.few
 have HH := hid1 h
 have HS := hid1 hS
 have HO := hid1 hO
 have hlt := h.lt
 clear hS hO
 cases hf : Cf.find l k with
 | none =>
  have HF := hid1 hf
  rw [hf] at hlk
  simp only [Option.getD_none,Option.isSome_none] at hlk ⊢
  clear h hlt hf
  go_enter Tryz.func162,Tryz.ntmps162
  go_wp2
  go_ret2
  have g0 : Below W.heap.size W (W.alloc (.cells #[.string (ba [])] 303)) := (Below.refl _ W).alloc (Nat.le_refl _) _
  refine ⟨rfl,Only.of g0,S,?_,fun j hj => .inl hj⟩
  have e : Cf.get m l k = l := by unfold Cf.get;rw [HF.out]
  rw [e]
  exact ⟨cb,eb,u,rfl,HS.out,HH.out.below g0,hsh⟩
 | some b =>
  have HF := hid1 hf
  rw [hf] at hlk
  simp only [Option.getD_some,Option.isSome_some] at hlk ⊢
  have g0 : Below W.heap.size W (W.alloc (.cells #[.string (ba b)] 303)) := (Below.refl _ W).alloc (Nat.le_refl _) _
  have hb0 : (W.alloc (.cells #[.string (ba b)] 303)).cell? ⟨W.heap.size,0,none⟩ = some (.string (ba b)) := by simp
  have hz0 : (W.alloc (.cells #[.string (ba b)] 303)).heap.size = W.heap.size + 1 := by simp
  have HL := hid1 (makeLast_calls (h.below g0) (by rw [Cf.keys_len];omega) k)
  have hnb : ¬ CBlk cb eb u W.heap.size := fun x => by have := hlt _ x;omega
  have HN := hid1 hnb
  have HG0 := hid1 g0
  clear h hlt hf g0 hnb
  generalize hW0 : W.alloc (.cells #[.string (ba b)] 303) = W0 at *
  go_enter Tryz.func162,Tryz.ntmps162
  go_wp2_with fail
  refine HL.out.mono ?_
  rintro e w1 ⟨rfl,hon,u',hb',hu'⟩
  have hb1 := hon.cell hb0 HN.out
  have HR := hid1 (And.intro hon (And.intro hb' hu'))
  clear HL hon hb' hu'
  go_wp2
  go_ret2
  obtain ⟨hon,hb',hu'⟩ := HR.out
  have g0 := HG0.out
  obtain ⟨hg,hp⟩ := Cf.get_hit HO.out HF.out
  refine ⟨rfl,?_,CBlk cb eb u',⟨cb,eb,u',rfl,fun j => Iff.rfl,?_,fun e he => hsh e (hp.mem_iff.1 he)⟩,?_⟩
  ·have h1 : Only S W W0 := Only.of g0
   refine h1.trans hon fun j hj => .inl ((HS.out j).2 hj)
  ·have hmp := hb'.isMap
   have ek : Cf.keys (Cf.get m l k) = (Cf.keys l).filter (fun x => !(x == k)) ++ [k] := by
    rw [hg]
    unfold Cf.keys
    rw [List.map_append]
    show Cf.keys (Cf.rm l k) ++ _ = _
    rw [Cf.keys_rm]
    rfl
   rw [ek]
   refine ⟨hb'.c0,hb'.c1,hb'.c2,hb'.f2,hb'.row,hmp.perm (fun p => ?_) hp.length_eq,hb'.ne1,hb'.ne2,hb'.ne3⟩
   rw [hg,Cf.find_laid]
   by_cases e : p = k
   ·rw [if_pos e,e,HF.out]
   ·rw [if_neg e]
  ·intro j hj
   rcases CBlk.step hu' j hj with h1 | h1
   ·exact .inl ((HS.out j).2 h1)
   ·exact .inr (by omega)
end Go.Proofs.YtflbofdpfgkmcaaGreatDoor
