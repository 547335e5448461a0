import Derived.Test.YtdljhggillgpfaaGreatDoorSA23
set_option maxRecDepth 100000
set_option maxHeartbeats 8000000
namespace Go.Proofs.YtdljhggillgpfaaGreatDoor
open Go.RowKit Go.Shelf Go.Lib Go.Maps
def Inp.get (st : Nat → Bf.St) : Inp → Option (List UInt8)
 | .rule k => some (st k).out
 | .file b => some b
 | .gone => none
def gat (st : Nat → Bf.St) : List Inp → Option (List (List UInt8))
 | [] => some []
 | x :: r => match x.get st with
  | none => none
  | some b => (gat st r).map (b :: ·)
theorem gat_snoc (st : Nat → Bf.St) : ∀ (a : List Inp) (x : Inp) {o : List (List UInt8)},gat st a = some o → gat st (a ++ [x]) = (x.get st).map fun b => o ++ [b]
 | [],x,o,h => by
  cases h
  show gat st [x] = _
  unfold gat gat
  cases x.get st <;> rfl
 | y :: r,x,o,h => by
  unfold gat at h
  rw [List.cons_append]
  unfold gat
  cases hy : y.get st with
  | none => rw [hy] at h;cases h
  | some b =>
   rw [hy] at h
   cases hr : gat st r with
   | none => rw [hr] at h;cases h
   | some q =>
    rw [hr] at h
    obtain rfl : b :: q = o := by simpa using h
    have := gat_snoc st r x hr
    simp only [this]
    cases x.get st <;> rfl
theorem gat_bad (st : Nat → Bf.St) : ∀ (a : List Inp) (r : List Inp),gat st (a ++ .gone :: r) = none
 | [],r => rfl
 | y :: a,r => by
  rw [List.cons_append]
  unfold gat
  cases y.get st with
  | none => rfl
  | some b => simp only [gat_bad st a r];rfl
theorem gat_len (st : Nat → Bf.St) : ∀ {a : List Inp} {o : List (List UInt8)},gat st a = some o → o.length = a.length
 | [],o,h => by cases h;rfl
 | y :: r,o,h => by
  unfold gat at h
  cases hy : y.get st with
  | none => rw [hy] at h;cases h
  | some b =>
   rw [hy] at h
   cases hr : gat st r with
   | none => rw [hr] at h;cases h
   | some q =>
    rw [hr] at h
    obtain rfl : b :: q = o := by simpa using h
    simp [gat_len st hr]
theorem get_inpOf (d : Bf.Bd) (x : List UInt8) : (inpOf d.l d.fs x).get d.st = d.bytes x := by
 unfold inpOf Bf.Bd.bytes
 cases Bf.mkr d.l x with
 | some k => rfl
 | none => cases Tf.get d.fs x <;> rfl
theorem gat_insOf (d : Bf.Bd) (i : Nat) : gat d.st (insOf d i) = d.ins i := by
 unfold insOf Bf.Bd.ins
 generalize (d.rule i).ins = l
 induction l with
 | nil => rfl
 | cons x r ih =>
  rw [List.map_cons]
  unfold gat Bf.inB
  rw [get_inpOf,ih]
  cases d.bytes x <;> rfl
theorem stgather_calls {W : World} {es : Nat → Addr} {dom : Nat → Prop} {L : Lay} {ru : Nat → Ru} {ins : Nat → List Inp} {st : Nat → Bf.St} (h : Steps W es dom L ru ins st) (i : Nat) (hi : dom i) (hl : (ins i).length ≤ 1000) :
  Calls Tryz.prog 229 #[Ptr (L.sp i)] W fun e w' => Below W.heap.size W w' ∧ ((gat st (ins i) = none ∧ e = .returned (.tuple #[.slice none 0 0,.bool false])) ∨ ∃ xs v,gat st (ins i) = some xs ∧ e = .returned (.tuple #[v,.bool true]) ∧ w'.ownsRow W.heap.size 9 1 v xs.length (xs.map sv)) := by
 have c2 := (h.at hi).c2
 obtain ⟨p,cap,e2,hin⟩ := BRow.of_owns (h.insR i hi)
 rw [e2] at c2
 have HI := hid1 hin
 have HSt := hid1 h
 obtain ⟨i0,hti,hz0,hz1,hz2⟩ := info_parts Tryz.infoStr
 go_enter Tryz.func229,Tryz.ntmps229
 go_wp2
 go_loopw [4,12] (fun lv iv wr => ∃ (k : Nat) (xs : List (List UInt8)),k ≤ (ins i).length ∧ iv = .int .i64 k ∧ gat st ((ins i).take k) = some xs ∧ wr.ownsRow W.heap.size 9 1 lv xs.length (xs.map sv) ∧ Below W.heap.size W wr) (fun _ iv _ => (ins i).length - (intOf iv).toNat)
 case atStart => exact ⟨0,[],Nat.zero_le _,rfl,rfl,World.ownsRow_nil _ _ _ _,Below.refl _ _⟩
 case round =>
  obtain ⟨k,xs,hk,rfl,hg,hrow,hB⟩ := hrel
  have hxl := gat_len st hg
  have hxl2 : xs.length ≤ 1000 := by rw [hxl];simp;omega
  have HG := hid1 hg
  have HRow := hid1 hrow
  have k0 : (0 : Int) ≤ (k : Int) := by omega
  by_cases hlt : k < (ins i).length
  ·have k1 : (k : Int) < ((ins i).length : Int) := by omega
   obtain ⟨g,rfl,hgl,hc⟩ := HI.out (by intro e;rw [e] at hlt;simp at hlt)
   obtain ⟨u0,u1,u2⟩ := hc k hlt
   have d0 := cell_below' u0 hB
   have d1 := cell_below' u1 hB
   have d2 := cell_below' u2 hB
   have hT : (ins i).take (k + 1) = (ins i).take k ++ [(ins i)[k]] := List.take_succ_eq_append_getElem hlt
   have hBad : Hid ((ins i)[k] = .gone → gat st (ins i) = none) := hid1 fun e => by
    have := gat_bad st ((ins i).take k) ((ins i).drop (k + 1))
    rwa [← e,← List.drop_eq_getElem_cons hlt,List.take_append_drop] at this
   have hmem : (ins i)[k] ∈ ins i := List.getElem_mem hlt
   have HS := hid1 (gat_snoc st _ (ins i)[k] HG.out)
   rw [← hT] at HS
   have hD := HSt.out.insD i hi
   have hml : xs.length + 1 ≤ maxLen := by unfold maxLen;omega
   have hbz := hB.size
   generalize (ins i)[k] = y at *
   cases y with
   | rule j =>
    have hj := hD j hmem
    have c5 := ((HSt.out.below hB).at hj).c5
    have c5' : (wr.alloc (.cells #[Ptr (L.sp j),.string (ba []),.bool false] 301)).cell? ⟨L.sp j,5,none⟩ = some (.string (ba (st j).out)) := cell_below' c5 ((Below.refl _ wr).alloc (Nat.le_refl _) _)
    have hB1 : Below W.heap.size W (wr.alloc (.cells #[Ptr (L.sp j),.string (ba []),.bool false] 301)) := hB.alloc hbz _
    have hrow1 := HRow.out.alloc (.cells #[Ptr (L.sp j),.string (ba []),.bool false] 301)
    have hjl := lt_of_cell c5
    simp only at hjl
    simp only [Inp.from,Inp.text,Inp.there] at d0 d1 d2
    simp only [Inp.get,Option.map_some] at HS
    generalize (st j).out = o at *
    go_wp2_with (first
     | (at_builtin;refine wpList_append_own _ rfl _ _ 22 rfl W.heap.size 9 i0 (.string ⟨#[]⟩) 1 16 Tryz.underlying22 hti hz0 hz1 hz2 rfl (by decide) _ _ _ rfl (hrow1.alloc _) ⟨wr.heap.size + 1,0,none⟩ 1 1 [sv o] rfl rfl (one_new _ _ _ _ (by simp)) (by simp [Value.oneCell']) hml (by omega) (by simp;omega) ?_;intro v' w4 hown' hgrow _)
     | go_in)
    exact ⟨⟨k + 1,xs ++ [o],by omega,by go_num,HS.out,by rw [List.length_append,List.map_append];exact hown',below_appended hB1 (by simp;omega) hrow1 hgrow⟩,by simp [intOf];omega⟩
   | file b =>
    have hB1 : Below W.heap.size W (wr.alloc (.cells #[.pointer none,.string (ba b),.bool true] 301)) := hB.alloc hbz _
    have hrow1 := HRow.out.alloc (.cells #[.pointer none,.string (ba b),.bool true] 301)
    simp only [Inp.from,Inp.text,Inp.there] at d0 d1 d2
    simp only [Inp.get,Option.map_some] at HS
    go_wp2_with (first
     | (at_builtin;refine wpList_append_own _ rfl _ _ 22 rfl W.heap.size 9 i0 (.string ⟨#[]⟩) 1 16 Tryz.underlying22 hti hz0 hz1 hz2 rfl (by decide) _ _ _ rfl (hrow1.alloc _) ⟨wr.heap.size + 1,0,none⟩ 1 1 [sv b] rfl rfl (one_new _ _ _ _ (by simp)) (by simp [Value.oneCell']) hml (by omega) (by simp;omega) ?_;intro v' w4 hown' hgrow _)
     | go_in)
    exact ⟨⟨k + 1,xs ++ [b],by omega,by go_num,HS.out,by rw [List.length_append,List.map_append];exact hown',below_appended hB1 (by simp;omega) hrow1 hgrow⟩,by simp [intOf];omega⟩
   | gone =>
    have hB1 : Below W.heap.size W (wr.alloc (.cells #[.pointer none,.string (ba []),.bool false] 301)) := hB.alloc hbz _
    have HN := hid1 (hBad.out rfl)
    simp only [Inp.from,Inp.text,Inp.there] at d0 d1 d2
    go_wp2
    go_ret2
    exact ⟨hB1,.inl ⟨HN.out,rfl⟩⟩
  ·have k1 : ((ins i).length : Int) ≤ (k : Int) := by omega
   have HG2 : Hid (gat st (ins i) = some xs) := hid1 (by
    have := HG.out
    rwa [List.take_of_length_le (by omega)] at this)
   obtain ⟨pv,cv,rfl⟩ := own_val HRow.out
   go_wp2
   go_ret2
   exact ⟨hB,.inr ⟨xs,_,HG2.out,rfl,HRow.out⟩⟩
end Go.Proofs.YtdljhggillgpfaaGreatDoor
