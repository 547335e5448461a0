import Derived.Test.YtdljhggillgpfaaGreatDoorSR31
set_option maxRecDepth 100000
set_option maxHeartbeats 8000000
namespace Go.Proofs.YtdljhggillgpfaaGreatDoor
open Go.RowKit Go.Shelf Go.Lib Go.Maps
namespace Ru
theorem orderF_ch {l : List Ru} {some : Nat → Bool} : ∀ {f : Nat} {o r : List Nat},orderF l some f o = Option.some r → (∀ i ∈ o,some i = true) → ∀ i ∈ r,some i = true
 | 0,_,_,h,_ => by cases h
 | f + 1,o,r,h,hb => by
  unfold orderF at h
  split at h
  ·split at h
   ·cases h
   ·rename_i i hi
    have hm := (nextTo_some hi).2
    simp only [may,Bool.and_eq_true] at hm
    refine orderF_ch h fun j hj => ?_
    rcases List.mem_append.1 hj with h1 | h1
    ·exact hb j h1
    ·rw [List.mem_singleton.1 h1];exact hm.1.1
  ·cases h
   exact hb
theorem order_ch {l : List Ru} {some : Nat → Bool} {o : List Nat} (h : order l some = Option.some o) : ∀ i ∈ o,some i = true := orderF_ch h (by simp)
theorem leftTo_congr2 {f g done : Nat → Bool} : ∀ {m : Nat},(∀ k,k < m → f k = g k) → leftTo f done m = leftTo g done m
 | 0,_ => rfl
 | m + 1,h => by
  rw [leftTo_succ,leftTo_succ,leftTo_congr2 fun k hk => h k (by omega),h m (by omega)]
theorem nextTo_congr2 {l : List Ru} {f g done : Nat → Bool} : ∀ {m : Nat},(∀ k,k < m → f k = g k) → nextTo l f done m = nextTo l g done m
 | 0,_ => rfl
 | m + 1,h => by
  have e : may l f done m = may l g done m := by unfold may;rw [h m (by omega)]
  rw [nextTo_succ,nextTo_succ,nextTo_congr2 fun k hk => h k (by omega),e]
theorem orderF_congr2 {l : List Ru} {f g : Nat → Bool} (h : ∀ k,k < l.length → f k = g k) : ∀ (n : Nat) (o : List Nat),orderF l f n o = orderF l g n o
 | 0,_ => rfl
 | n + 1,o => by
  unfold orderF
  rw [leftTo_congr2 h,nextTo_congr2 h]
  split
  ·split
   ·rfl
   ·exact orderF_congr2 h n _
  ·rfl
theorem order_congr2 {l : List Ru} {f g : Nat → Bool} (h : ∀ k,k < l.length → f k = g k) : order l f = order l g := orderF_congr2 h _ _
end Ru
theorem Mk.congrI {es : Nat → Addr} {W0 W : World} {dom dom' : Nat → Prop} {L : Lay} {ru : Nat → Ru} {ins ins' : Nat → List Inp} (h : Mk es W0 W dom L ru ins) (hd : ∀ k,dom k ↔ dom' k) (hi : ∀ k,dom k → ins k = ins' k) : Mk es W0 W dom' L ru ins' := by
 obtain rfl : dom = dom' := funext fun k => propext (hd k)
 have hS := h.steps
 exact ⟨h.base,⟨hS.step,hS.inj,fun i hk => by rw [← hi i hk];exact hS.insR i hk,hS.usR,fun i hk k hm => hS.insD i hk k (by rw [hi i hk];exact hm),hS.usD⟩,h.low,h.sepU,h.sepI⟩
theorem Mk.notMap {es : Nat → Addr} {W0 W : World} {dom : Nat → Prop} {L : Lay} {ru : Nat → Ru} {ins : Nat → List Inp} (h : Mk es W0 W dom L ru ins) {b : Nat} (hb : ∃ a c,W.heap[b]? = some (.map a c)) : ¬ SBlk dom L b := by
 obtain ⟨a,c,e0⟩ := hb
 rintro ⟨k,hk,e | e | e⟩
 ·rw [e,h.steps.step k hk] at e0
  cases e0
 ·obtain ⟨_,e1⟩ := own_in (h.steps.insR k hk) e
  rw [e1] at e0
  cases e0
 ·obtain ⟨_,e1⟩ := own_in (h.steps.usR k hk) e
  rw [e1] at e0
  cases e0
theorem Mk.turned {es : Nat → Addr} {W0 W W' : World} {dom : Nat → Prop} {L : Lay} {ru : Nat → Ru} {ins : Nat → List Inp} (h : Mk es W0 W dom L ru ins) {b : Nat} (hb : ∃ a c,W.heap[b]? = some (.map a c)) (hz : W0.heap.size ≤ b) (ht : W.mapTurned W' b) : Mk es W0 W' dom L ru ins := by
 have hn := h.notMap hb
 have hg := ht.grown
 refine ⟨h.base.grown hg h.base.size fun j e => by cases e;exact hz,h.steps.same fun j hj => hg.block j (h.steps.lt j hj) fun e => hn ?_,h.low,h.sepU,h.sepI⟩
 have : j = b := by simpa using e
 exact this ▸ hj
def mkD (l : List Ru) (ds : List Nat) (sp : Nat → Nat) (x : List UInt8) : Option Nat :=
 match Bf.mkr l x with
 | some j => if j ∈ ds then some (sp j) else none
 | none => none
structure OfS (es : Nat → Addr) (W0 : World) (l : List Ru) (fs : Tf.Fs) (ru : Nat → Ru) (bm mb : Nat) (ds : List Nat) (L : Lay) (wr : World) : Prop where
 made : Mk es W0 wr (fun k => k ∈ ds) L ru (fun k => (ru k).ins.map (inpOf l fs))
 smap : SMap wr bm ds.length (fun k => k ∈ ds) L.sp
 mmap : MMap wr mb ds.length (mkD l ds L.sp)
 us : ∀ k,k ∈ ds → ∀ j,j ∈ L.us k ↔ j ∈ ds ∧ Ru.needs l j k = true
 usl : ∀ k,k ∈ ds → (L.us k).length ≤ 12 * ds.length
 ne : bm ≠ mb
 lb : W0.heap.size ≤ bm
 lm : W0.heap.size ≤ mb
theorem OfS.start (es : Nat → Addr) (W0 : World) (l : List Ru) (fs : Tf.Fs) (ru : Nat → Ru) (L : Lay) : OfS es W0 l fs ru W0.heap.size (W0.heap.size + 1) [] L ((W0.alloc (.map #[] 0)).alloc (.map #[] 0)) := by
 have b1 : Below W0.heap.size W0 (W0.alloc (.map #[] 0)) := (Below.refl _ W0).alloc (Nat.le_refl _) _
 have b2 : Below (W0.alloc (.map #[] 0)).heap.size (W0.alloc (.map #[] 0)) ((W0.alloc (.map #[] 0)).alloc (.map #[] 0)) := (Below.refl _ _).alloc (Nat.le_refl _) _
 have hz : (W0.alloc (.map #[] 0)).heap.size = W0.heap.size + 1 := by simp
 refine ⟨⟨below_then b1 b2,⟨by simp,by simp,by simp,by simp,by simp,by simp⟩,?_,by simp,by simp⟩,?_,?_,by simp,by simp,by omega,by omega,by omega⟩
 ·rintro j ⟨i,hi,_⟩
  cases hi
 ·have := (SMap.made W0 L.sp).same (b2.block W0.heap.size (by omega))
  simpa using this
 ·have := MMap.made (W0.alloc (.map #[] 0))
  rw [hz] at this
  have e : mkD l [] L.sp = fun _ => none := by
   funext x
   unfold mkD
   split <;> simp
  rw [e]
  exact this
theorem OfS.next {es : Nat → Addr} {W0 : World} {l : List Ru} {fs : Tf.Fs} {ru : Nat → Ru} {bm mb : Nat} {ds : List Nat} {L : Lay} {wr w2 : World} (h : OfS es W0 l fs ru bm mb ds L wr) (hru : ∀ k (hk : k < l.length),ru k = l[k]) (hA : Ru.Apart l) {i : Nat} (hi : i < l.length) (hid : i ∉ ds) (hio : (l[i]).out.length ≤ 1000000) (h12 : (l[i]).ins.length ≤ 12) (hil : i ≤ 1000000) (hself : Ru.needs l i i = false) (hds : ∀ k ∈ ds,k < l.length ∧ Ru.needs l k i = false) (hlen : ds.length < 1000000) {sb : Nat} {L' : Lay}
  (hN : NewS es W0 wr (fun k => k ∈ ds) L ru (fun k => (ru k).ins.map (inpOf l fs)) i sb ((ru i).ins.map (inpOf l fs)) ((ru i).ins.map (inpOf l fs)) L' w2) :
  ∃ w3,(Instr.mapUpdate 222 (.map (some bm)) (.int .i64 (i : Nat)) (Ptr sb)).run Tryz.prog w2 = .ok () w3 ∧ Below W0.heap.size W0 w3 ∧ ∃ w4,(Instr.mapUpdate 261 (.map (some mb)) (.string (ba (l[i]).out)) (Ptr sb)).run Tryz.prog w3 = .ok () w4 ∧ OfS es W0 l fs ru bm mb (ds ++ [i]) L' w4 := by
 have hml : ds.length < maxLen := by unfold maxLen;omega
 have hnb := h.made.notMap h.smap.isMap
 have hnm := h.made.notMap h.mmap.isMap
 have s2 := h.smap.same (hN.only.block bm h.smap.lt hnb)
 have m2 := h.mmap.same (hN.only.block mb h.mmap.lt hnm)
 obtain ⟨w3,r3,s3,t3⟩ := s2.laid hml i sb hil
 have m3 := m2.same (t3.grown.block mb m2.lt (by simpa using h.ne.symm))
 have k3 := hN.made.turned s2.isMap h.lb t3
 obtain ⟨w4,r4,m4,t4⟩ := m3.laid hml (l[i]).out hio sb
 have s4 := s3.same (t4.grown.block bm s3.lt (by simpa using h.ne))
 have k4 := k3.turned m3.isMap h.lm t4
 have hmem : ∀ k,(k ∈ ds ∨ k = i) ↔ k ∈ ds ++ [i] := fun k => by simp
 refine ⟨w3,r3,k3.base,w4,r4,?_,?_,?_,?_,?_,h.ne,h.lb,h.lm⟩
 ·refine k4.congrI hmem fun k hk => ?_
  by_cases e : k = i
  ·subst e
   rw [updN_same]
  ·rw [updN_other e]
 ·have e : (fun k => k ∈ ds ∨ k = i) = fun k => k ∈ ds ++ [i] := funext fun k => propext (hmem k)
  rw [List.length_append,List.length_singleton,hN.sp,← e]
  exact s4
 ·have e : (fun y => if y = (l[i]).out then some sb else mkD l ds L.sp y) = mkD l (ds ++ [i]) L'.sp := by
   funext y
   by_cases hy : y = (l[i]).out
   ·rw [if_pos hy]
    unfold mkD
    rw [hy,show Bf.mkr l (l[i]).out = some i from Ru.mkr_eq hA hi]
    simp only [List.mem_append,List.mem_singleton,or_true,if_true]
    rw [hN.sp,updN_same]
   ·rw [if_neg hy]
    unfold mkD
    cases hm : Bf.mkr l y with
    | none => rfl
    | some j =>
     obtain ⟨hj,e1,_⟩ := Ru.mkr_some (show Ru.mkr l y = some j from hm)
     have hji : j ≠ i := fun e => hy (by subst e;exact e1.symm)
     simp only [List.mem_append,List.mem_singleton,hji,or_false]
     rw [hN.sp,updN_other hji]
  rw [List.length_append,List.length_singleton,← e]
  exact m4
 ·intro k hk j
  rcases List.mem_append.1 hk with hk | hk
  ·rw [hN.us k hk,h.us k hk,List.mem_append,List.mem_singleton]
   have hin : Inp.rule k ∈ (ru i).ins.map (inpOf l fs) ↔ Ru.needs l i k = true := by
    have hkl := (hds k hk).1
    rw [Ru.needs_eq hi hkl,hru i hi,List.mem_map]
    constructor
    ·rintro ⟨x,hx,e⟩
     unfold inpOf at e
     split at e
     ·rename_i q hq
      obtain ⟨_,e1,_⟩ := Ru.mkr_some (show Ru.mkr l x = some q from hq)
      have : q = k := by simpa using e
      subst this
      rw [e1]
      simpa using hx
     ·split at e <;> cases e
    ·intro hx
     refine ⟨l[k].out,by simpa using hx,?_⟩
     unfold inpOf
     rw [show Bf.mkr l l[k].out = some k from Ru.mkr_eq hA hkl]
   rw [hin]
   constructor
   ·rintro (⟨h1,h2⟩ | ⟨h1,h2⟩)
    ·exact ⟨.inl h1,h2⟩
    ·exact ⟨.inr h1,by rw [h1];exact h2⟩
   ·rintro ⟨h1 | h1,h2⟩
    ·exact .inl ⟨h1,h2⟩
    ·exact .inr ⟨h1,by rw [h1] at h2;exact h2⟩
  ·obtain rfl := List.mem_singleton.1 hk
   rw [hN.usi]
   constructor
   ·intro h1;cases h1
   ·rintro ⟨h1,h2⟩
    rcases List.mem_append.1 h1 with h1 | h1
    ·rw [(hds j h1).2] at h2
     cases h2
    ·rw [List.mem_singleton.1 h1,hself] at h2
     cases h2
 ·intro k hk
  rw [List.length_append,List.length_singleton]
  rcases List.mem_append.1 hk with hk | hk
  ·have h1 := hN.usl k hk
   have h2 := h.usl k hk
   rw [List.length_map,hru i hi] at h1
   omega
  ·rw [List.mem_singleton.1 hk,hN.usi]
   simp
end Go.Proofs.YtdljhggillgpfaaGreatDoor
namespace Go.Proofs.YtdljhggillgpfaaGreatDoor
namespace Ru
theorem orderF_none2 {l : List Ru} {some : Nat → Bool} (hs : ∀ i k,some i = true → needs l i k = true → some k = true) : ∀ {f : Nat} {o : List Nat},orderF l some f o = none → o.Nodup → (∀ i ∈ o,i < l.length) → l.length < f + o.length → ∃ i t,some i = true ∧ Walk l i i (t + 1)
 | 0,o,_,hd,hb,hf => by have := len_le hd hb;omega
 | f + 1,o,h,hd,hb,hf => by
  unfold orderF at h
  split at h
  ·rename_i hl
   split at h
   ·rename_i hi
    simp only [leftTo,List.any_eq_true,Bool.and_eq_true,Bool.not_eq_true'] at hl
    obtain ⟨i,hil,hsi,hio⟩ := hl
    have hnext : ∀ i,i < l.length ∧ i ∉ o ∧ some i = true → ∃ k,(k < l.length ∧ k ∉ o ∧ some k = true) ∧ needs l i k = true := by
     rintro i ⟨hil,hio,hsi⟩
     have h0 := List.find?_eq_none.1 hi i (List.mem_range.2 hil)
     simp only [may,hsi,Bool.true_and,Bool.and_eq_true,isIn,Bool.not_eq_true',decide_eq_false_iff_not,hio,not_false_eq_true,true_and,freeTo,List.all_eq_true,Bool.or_eq_true] at h0
     simp only [Classical.not_forall] at h0
     obtain ⟨k,hk,hk2⟩ := h0
     simp only [not_or,decide_eq_true_eq] at hk2
     have hn : needs l i k = true := by simpa using hk2.2
     exact ⟨k,⟨List.mem_range.1 hk,hk2.1,hs i k hsi hn⟩,hn⟩
    have hg : ∃ g : Nat → Nat,g 0 = i ∧ ∀ a,(g a < l.length ∧ g a ∉ o ∧ some (g a) = true) ∧ needs l (g a) (g (a + 1)) = true := by
     let nx : {i // i < l.length ∧ i ∉ o ∧ some i = true} → {i // i < l.length ∧ i ∉ o ∧ some i = true} := fun x => ⟨Classical.choose (hnext x.1 x.2),(Classical.choose_spec (hnext x.1 x.2)).1⟩
     let st : {i // i < l.length ∧ i ∉ o ∧ some i = true} := ⟨i,List.mem_range.1 hil,by simpa [isIn] using hio,hsi⟩
     refine ⟨fun a => (Nat.rec st (fun _ x => nx x) a : {i // i < l.length ∧ i ∉ o ∧ some i = true}).1,rfl,fun a => ⟨(Nat.rec st (fun _ x => nx x) a : {i // i < l.length ∧ i ∉ o ∧ some i = true}).2,?_⟩⟩
     exact (Classical.choose_spec (hnext _ (Nat.rec st (fun _ x => nx x) a : {i // i < l.length ∧ i ∉ o ∧ some i = true}).2)).2
    obtain ⟨g,_,hgn⟩ := hg
    obtain ⟨a,b,hab,_,e⟩ := pigeon (n := l.length) (g := g) fun t _ => (hgn t).1.1
    have sub : ∀ (d a : Nat),Walk l (g a) (g (a + d)) d := by
     intro d
     induction d with
     | zero => intro a;exact .zero _
     | succ d ih =>
      intro a
      have := ih (a + 1)
      rw [show a + 1 + d = a + (d + 1) by omega] at this
      exact .step (hgn a).2 this
    have := sub (b - a) a
    rw [show a + (b - a) = b by omega,← e] at this
    exact ⟨g a,b - a - 1,(hgn a).1.2.2,by rw [show b - a - 1 + 1 = b - a by omega];exact this⟩
   ·rename_i i hi
    obtain ⟨hil,hm⟩ := nextTo_some hi
    have hio : i ∉ o := by
     simp only [may,Bool.and_eq_true,Bool.not_eq_true',isIn,decide_eq_false_iff_not] at hm
     exact hm.1.2
    refine orderF_none2 hs h ?_ ?_ ?_
    ·rw [List.nodup_append]
     exact ⟨hd,by simp,fun a ha b hb => by
      rw [List.mem_singleton.1 hb]
      rintro rfl
      exact hio ha⟩
    ·intro j hj
     rcases List.mem_append.1 hj with h1 | h1
     ·exact hb j h1
     ·rw [List.mem_singleton.1 h1];exact hil
    ·rw [List.length_append,List.length_singleton];omega
  ·cases h
theorem order_none2 {l : List Ru} {some : Nat → Bool} (hs : ∀ i k,some i = true → needs l i k = true → some k = true) (h : order l some = none) : ∃ i t,some i = true ∧ Walk l i i (t + 1) :=
 orderF_none2 hs h List.nodup_nil (by simp) (by simp)
def part (l : List Ru) (ns : List Nat) : List Ru := ns.map fun i => l.getD i ⟨[],[],[],[]⟩
theorem need_closed (l : List Ru) (outs : List (List UInt8)) (i k : Nat) (hi : Bf.need l outs i = true) (hn : Ru.needs l i k = true) : Bf.need l outs k = true := by
 obtain ⟨g,hg⟩ := needed_is l outs
 obtain ⟨h1,h2⟩ := needs_lt hn
 rw [Bf.need_eq hg h1] at hi
 rw [Bf.need_eq hg h2]
 exact hg.closed i k hi hn
theorem need_lt {l : List Ru} {outs : List (List UInt8)} {i : Nat} (hi : Bf.need l outs i = true) : i < l.length := by
 refine Nat.lt_of_not_le fun h => ?_
 rw [Bf.need_out h] at hi
 cases hi
end Ru
namespace Tf
end Tf
end Go.Proofs.YtdljhggillgpfaaGreatDoor
namespace Go.Proofs.YtdljhggillgpfaaGreatDoor
namespace Bf
def St.ran (s : St) : Bool := s.isDone || s.isFailed
end Bf
end Go.Proofs.YtdljhggillgpfaaGreatDoor
namespace Go.Proofs.YtdljhggillgpfaaGreatDoor
open Go.RowKit Go.Shelf Go.Lib Go.Maps
def Inp.get (st : Nat → Bf.St) : Inp → Option (List UInt8)
 | .rule k => some (st k).out
 | .file b => some b
 | .gone => none
def gat (st : Nat → Bf.St) : List Inp → Option (List (List UInt8))
 | [] => some []
 | x :: r => match x.get st with
  | none => none
  | some b => (gat st r).map (b :: ·)
theorem gat_snoc (st : Nat → Bf.St) : ∀ (a : List Inp) (x : Inp) {o : List (List UInt8)},gat st a = some o → gat st (a ++ [x]) = (x.get st).map fun b => o ++ [b]
 | [],x,o,h => by
  cases h
  show gat st [x] = _
  unfold gat gat
  cases x.get st <;> rfl
 | y :: r,x,o,h => by
  unfold gat at h
  rw [List.cons_append]
  unfold gat
  cases hy : y.get st with
  | none => rw [hy] at h;cases h
  | some b =>
   rw [hy] at h
   cases hr : gat st r with
   | none => rw [hr] at h;cases h
   | some q =>
    rw [hr] at h
    obtain rfl : b :: q = o := by simpa using h
    have := gat_snoc st r x hr
    simp only [this]
    cases x.get st <;> rfl
theorem gat_bad (st : Nat → Bf.St) : ∀ (a : List Inp) (r : List Inp),gat st (a ++ .gone :: r) = none
 | [],r => rfl
 | y :: a,r => by
  rw [List.cons_append]
  unfold gat
  cases y.get st with
  | none => rfl
  | some b => simp only [gat_bad st a r];rfl
theorem gat_len (st : Nat → Bf.St) : ∀ {a : List Inp} {o : List (List UInt8)},gat st a = some o → o.length = a.length
 | [],o,h => by cases h;rfl
 | y :: r,o,h => by
  unfold gat at h
  cases hy : y.get st with
  | none => rw [hy] at h;cases h
  | some b =>
   rw [hy] at h
   cases hr : gat st r with
   | none => rw [hr] at h;cases h
   | some q =>
    rw [hr] at h
    obtain rfl : b :: q = o := by simpa using h
    simp [gat_len st hr]
theorem get_inpOf (d : Bf.Bd) (x : List UInt8) : (inpOf d.l d.fs x).get d.st = d.bytes x := by
 unfold inpOf Bf.Bd.bytes
 cases Bf.mkr d.l x with
 | some k => rfl
 | none => cases Tf.get d.fs x <;> rfl
theorem gat_insOf (d : Bf.Bd) (i : Nat) : gat d.st (insOf d i) = d.ins i := by
 unfold insOf Bf.Bd.ins
 generalize (d.rule i).ins = l
 induction l with
 | nil => rfl
 | cons x r ih =>
  rw [List.map_cons]
  unfold gat Bf.inB
  rw [get_inpOf,ih]
  cases d.bytes x <;> rfl
theorem stgather_calls {W : World} {es : Nat → Addr} {dom : Nat → Prop} {L : Lay} {ru : Nat → Ru} {ins : Nat → List Inp} {st : Nat → Bf.St} (h : Steps W es dom L ru ins st) (i : Nat) (hi : dom i) (hl : (ins i).length ≤ 1000) :
  Calls Tryz.prog 229 #[Ptr (L.sp i)] W fun e w' => Below W.heap.size W w' ∧ ((gat st (ins i) = none ∧ e = .returned (.tuple #[.slice none 0 0,.bool false])) ∨ ∃ xs v,gat st (ins i) = some xs ∧ e = .returned (.tuple #[v,.bool true]) ∧ w'.ownsRow W.heap.size 9 1 v xs.length (xs.map sv)) := by
 have c2 := (h.at hi).c2
 obtain ⟨p,cap,e2,hin⟩ := BRow.of_owns (h.insR i hi)
 rw [e2] at c2
 have HI := hid1 hin
 have HSt := hid1 h
 obtain ⟨i0,hti,hz0,hz1,hz2⟩ := info_parts Tryz.infoStr
 go_enter Tryz.func229,Tryz.ntmps229
 go_wp2
 go_loopw [4,12] (fun lv iv wr => ∃ (k : Nat) (xs : List (List UInt8)),k ≤ (ins i).length ∧ iv = .int .i64 k ∧ gat st ((ins i).take k) = some xs ∧ wr.ownsRow W.heap.size 9 1 lv xs.length (xs.map sv) ∧ Below W.heap.size W wr) (fun _ iv _ => (ins i).length - (intOf iv).toNat)
 case atStart => exact ⟨0,[],Nat.zero_le _,rfl,rfl,World.ownsRow_nil _ _ _ _,Below.refl _ _⟩
 case round =>
  obtain ⟨k,xs,hk,rfl,hg,hrow,hB⟩ := hrel
  have hxl := gat_len st hg
  have hxl2 : xs.length ≤ 1000 := by rw [hxl];simp;omega
  have HG := hid1 hg
  have HRow := hid1 hrow
  have k0 : (0 : Int) ≤ (k : Int) := by omega
  by_cases hlt : k < (ins i).length
  ·have k1 : (k : Int) < ((ins i).length : Int) := by omega
   obtain ⟨g,rfl,hgl,hc⟩ := HI.out (by intro e;rw [e] at hlt;simp at hlt)
   obtain ⟨u0,u1,u2⟩ := hc k hlt
   have d0 := cell_below' u0 hB
   have d1 := cell_below' u1 hB
   have d2 := cell_below' u2 hB
   have hT : (ins i).take (k + 1) = (ins i).take k ++ [(ins i)[k]] := List.take_succ_eq_append_getElem hlt
   have hBad : Hid ((ins i)[k] = .gone → gat st (ins i) = none) := hid1 fun e => by
    have := gat_bad st ((ins i).take k) ((ins i).drop (k + 1))
    rwa [← e,← List.drop_eq_getElem_cons hlt,List.take_append_drop] at this
   have hmem : (ins i)[k] ∈ ins i := List.getElem_mem hlt
   have HS := hid1 (gat_snoc st _ (ins i)[k] HG.out)
   rw [← hT] at HS
   have hD := HSt.out.insD i hi
   have hml : xs.length + 1 ≤ maxLen := by unfold maxLen;omega
   have hbz := hB.size
   generalize (ins i)[k] = y at *
   cases y with
   | rule j =>
    have hj := hD j hmem
    have c5 := ((HSt.out.below hB).at hj).c5
    have c5' : (wr.alloc (.cells #[Ptr (L.sp j),.string (ba []),.bool false] 301)).cell? ⟨L.sp j,5,none⟩ = some (.string (ba (st j).out)) := cell_below' c5 ((Below.refl _ wr).alloc (Nat.le_refl _) _)
    have hB1 : Below W.heap.size W (wr.alloc (.cells #[Ptr (L.sp j),.string (ba []),.bool false] 301)) := hB.alloc hbz _
    have hrow1 := HRow.out.alloc (.cells #[Ptr (L.sp j),.string (ba []),.bool false] 301)
    have hjl := lt_of_cell c5
    simp only at hjl
    simp only [Inp.from,Inp.text,Inp.there] at d0 d1 d2
    simp only [Inp.get,Option.map_some] at HS
    generalize (st j).out = o at *
    go_wp2_with (first
     | (at_builtin;refine wpList_append_own _ rfl _ _ 22 rfl W.heap.size 9 i0 (.string ⟨#[]⟩) 1 16 Tryz.underlying22 hti hz0 hz1 hz2 rfl (by decide) _ _ _ rfl (hrow1.alloc _) ⟨wr.heap.size + 1,0,none⟩ 1 1 [sv o] rfl rfl (one_new _ _ _ _ (by simp)) (by simp [Value.oneCell']) hml (by omega) (by simp;omega) ?_;intro v' w4 hown' hgrow _)
     | go_in)
    exact ⟨⟨k + 1,xs ++ [o],by omega,by go_num,HS.out,by rw [List.length_append,List.map_append];exact hown',below_appended hB1 (by simp;omega) hrow1 hgrow⟩,by simp [intOf];omega⟩
   | file b =>
    have hB1 : Below W.heap.size W (wr.alloc (.cells #[.pointer none,.string (ba b),.bool true] 301)) := hB.alloc hbz _
    have hrow1 := HRow.out.alloc (.cells #[.pointer none,.string (ba b),.bool true] 301)
    simp only [Inp.from,Inp.text,Inp.there] at d0 d1 d2
    simp only [Inp.get,Option.map_some] at HS
    go_wp2_with (first
     | (at_builtin;refine wpList_append_own _ rfl _ _ 22 rfl W.heap.size 9 i0 (.string ⟨#[]⟩) 1 16 Tryz.underlying22 hti hz0 hz1 hz2 rfl (by decide) _ _ _ rfl (hrow1.alloc _) ⟨wr.heap.size + 1,0,none⟩ 1 1 [sv b] rfl rfl (one_new _ _ _ _ (by simp)) (by simp [Value.oneCell']) hml (by omega) (by simp;omega) ?_;intro v' w4 hown' hgrow _)
     | go_in)
    exact ⟨⟨k + 1,xs ++ [b],by omega,by go_num,HS.out,by rw [List.length_append,List.map_append];exact hown',below_appended hB1 (by simp;omega) hrow1 hgrow⟩,by simp [intOf];omega⟩
   | gone =>
    have hB1 : Below W.heap.size W (wr.alloc (.cells #[.pointer none,.string (ba []),.bool false] 301)) := hB.alloc hbz _
    have HN := hid1 (hBad.out rfl)
    simp only [Inp.from,Inp.text,Inp.there] at d0 d1 d2
    go_wp2
    go_ret2
    exact ⟨hB1,.inl ⟨HN.out,rfl⟩⟩
  ·have k1 : ((ins i).length : Int) ≤ (k : Int) := by omega
   have HG2 : Hid (gat st (ins i) = some xs) := hid1 (by
    have := HG.out
    rwa [List.take_of_length_le (by omega)] at this)
   obtain ⟨pv,cv,rfl⟩ := own_val HRow.out
   go_wp2
   go_ret2
   exact ⟨hB,.inr ⟨xs,_,HG2.out,rfl,HRow.out⟩⟩
end Go.Proofs.YtdljhggillgpfaaGreatDoor
