import Derived.Test.YthchjnopgagilaaGreatDoorPA31
set_option maxRecDepth 100000
set_option maxHeartbeats 8000000
namespace Go.Proofs.YthchjnopgagilaaGreatDoor
namespace Ru
theorem orderF_none2 {l : List Ru} {some : Nat → Bool} (hs : ∀ i k,some i = true → needs l i k = true → some k = true) : ∀ {f : Nat} {o : List Nat},orderF l some f o = none → o.Nodup → (∀ i ∈ o,i < l.length) → l.length < f + o.length → ∃ i t,some i = true ∧ Walk l i i (t + 1)
 | 0,o,_,hd,hb,hf => by have := len_le hd hb;omega
 | f + 1,o,h,hd,hb,hf => by
  unfold orderF at h
  split at h
  ·rename_i hl
   split at h
   ·rename_i hi
    simp only [leftTo,List.any_eq_true,Bool.and_eq_true,Bool.not_eq_true'] at hl
    obtain ⟨i,hil,hsi,hio⟩ := hl
    have hnext : ∀ i,i < l.length ∧ i ∉ o ∧ some i = true → ∃ k,(k < l.length ∧ k ∉ o ∧ some k = true) ∧ needs l i k = true := by
     rintro i ⟨hil,hio,hsi⟩
     have h0 := List.find?_eq_none.1 hi i (List.mem_range.2 hil)
     simp only [may,hsi,Bool.true_and,Bool.and_eq_true,isIn,Bool.not_eq_true',decide_eq_false_iff_not,hio,not_false_eq_true,true_and,freeTo,List.all_eq_true,Bool.or_eq_true] at h0
     simp only [Classical.not_forall] at h0
     obtain ⟨k,hk,hk2⟩ := h0
     simp only [not_or,decide_eq_true_eq] at hk2
     have hn : needs l i k = true := by simpa using hk2.2
     exact ⟨k,⟨List.mem_range.1 hk,hk2.1,hs i k hsi hn⟩,hn⟩
    have hg : ∃ g : Nat → Nat,g 0 = i ∧ ∀ a,(g a < l.length ∧ g a ∉ o ∧ some (g a) = true) ∧ needs l (g a) (g (a + 1)) = true := by
     let nx : {i // i < l.length ∧ i ∉ o ∧ some i = true} → {i // i < l.length ∧ i ∉ o ∧ some i = true} := fun x => ⟨Classical.choose (hnext x.1 x.2),(Classical.choose_spec (hnext x.1 x.2)).1⟩
     let st : {i // i < l.length ∧ i ∉ o ∧ some i = true} := ⟨i,List.mem_range.1 hil,by simpa [isIn] using hio,hsi⟩
     refine ⟨fun a => (Nat.rec st (fun _ x => nx x) a : {i // i < l.length ∧ i ∉ o ∧ some i = true}).1,rfl,fun a => ⟨(Nat.rec st (fun _ x => nx x) a : {i // i < l.length ∧ i ∉ o ∧ some i = true}).2,?_⟩⟩
     exact (Classical.choose_spec (hnext _ (Nat.rec st (fun _ x => nx x) a : {i // i < l.length ∧ i ∉ o ∧ some i = true}).2)).2
    obtain ⟨g,_,hgn⟩ := hg
    obtain ⟨a,b,hab,_,e⟩ := pigeon (n := l.length) (g := g) fun t _ => (hgn t).1.1
    have sub : ∀ (d a : Nat),Walk l (g a) (g (a + d)) d := by
     intro d
     induction d with
     | zero => intro a;exact .zero _
     | succ d ih =>
      intro a
      have := ih (a + 1)
      rw [show a + 1 + d = a + (d + 1) by omega] at this
      exact .step (hgn a).2 this
    have := sub (b - a) a
    rw [show a + (b - a) = b by omega,← e] at this
    exact ⟨g a,b - a - 1,(hgn a).1.2.2,by rw [show b - a - 1 + 1 = b - a by omega];exact this⟩
   ·rename_i i hi
    obtain ⟨hil,hm⟩ := nextTo_some hi
    have hio : i ∉ o := by
     simp only [may,Bool.and_eq_true,Bool.not_eq_true',isIn,decide_eq_false_iff_not] at hm
     exact hm.1.2
    refine orderF_none2 hs h ?_ ?_ ?_
    ·rw [List.nodup_append]
     exact ⟨hd,by simp,fun a ha b hb => by
      rw [List.mem_singleton.1 hb]
      rintro rfl
      exact hio ha⟩
    ·intro j hj
     rcases List.mem_append.1 hj with h1 | h1
     ·exact hb j h1
     ·rw [List.mem_singleton.1 h1];exact hil
    ·rw [List.length_append,List.length_singleton];omega
  ·cases h
theorem order_none2 {l : List Ru} {some : Nat → Bool} (hs : ∀ i k,some i = true → needs l i k = true → some k = true) (h : order l some = none) : ∃ i t,some i = true ∧ Walk l i i (t + 1) :=
 orderF_none2 hs h List.nodup_nil (by simp) (by simp)
def part (l : List Ru) (ns : List Nat) : List Ru := ns.map fun i => l.getD i ⟨[],[],[],[]⟩
theorem part_len (l : List Ru) (ns : List Nat) : (part l ns).length = ns.length := by simp [part]
theorem need_closed (l : List Ru) (outs : List (List UInt8)) (i k : Nat) (hi : Bf.need l outs i = true) (hn : Ru.needs l i k = true) : Bf.need l outs k = true := by
 obtain ⟨g,hg⟩ := needed_is l outs
 obtain ⟨h1,h2⟩ := needs_lt hn
 rw [Bf.need_eq hg h1] at hi
 rw [Bf.need_eq hg h2]
 exact hg.closed i k hi hn
theorem need_lt {l : List Ru} {outs : List (List UInt8)} {i : Nat} (hi : Bf.need l outs i = true) : i < l.length := by
 refine Nat.lt_of_not_le fun h => ?_
 rw [Bf.need_out h] at hi
 cases hi
end Ru
namespace Tf
theorem get_ins {x : List UInt8 × List UInt8} {p : List UInt8} (h : x.1 ≠ p) : ∀ fs : Fs,get (ins x fs) p = get fs p
 | [] => by simp [ins,get,h]
 | y :: r => by
  unfold ins
  split
  ·unfold get
   rw [List.find?_cons_of_neg (by simpa using h)]
  ·unfold get
   by_cases e : y.1 = p
   ·rw [List.find?_cons_of_pos (by simpa using e),List.find?_cons_of_pos (by simpa using e)]
   ·rw [List.find?_cons_of_neg (by simpa using e),List.find?_cons_of_neg (by simpa using e)]
    exact get_ins h r
theorem get_del {q p : List UInt8} (h : q ≠ p) : ∀ fs : Fs,get (del fs q) p = get fs p
 | [] => rfl
 | y :: r => by
  have ih := get_del h r
  unfold get del at ih ⊢
  by_cases e : y.1 = q
  ·rw [List.filter_cons_of_neg (by simpa using e),List.find?_cons_of_neg (by simp [e,h])]
   exact ih
  ·rw [List.filter_cons_of_pos (by simpa using e)]
   by_cases e2 : y.1 = p
   ·rw [List.find?_cons_of_pos (by simpa using e2),List.find?_cons_of_pos (by simpa using e2)]
   ·rw [List.find?_cons_of_neg (by simpa using e2),List.find?_cons_of_neg (by simpa using e2)]
    exact ih
theorem get_putF {ok : List UInt8 → Bool} {fs : Fs} {q b p : List UInt8} (h : q ≠ p) : get (putF ok fs q b) p = get fs p := by
 unfold putF
 split
 ·unfold put
  rw [get_ins h,get_del h]
 ·rfl
end Tf
end Go.Proofs.YthchjnopgagilaaGreatDoor
namespace Go.Proofs.YthchjnopgagilaaGreatDoor
namespace Bf
structure Good (d : Bd) : Prop where
 needed : ∀ k,k < d.l.length → (d.st k).isNo = false
 done : ∀ k j,(d.st k).isDone = true → Ru.needs d.l k j = true → (d.st j).isDone = true
 failed : ∀ k j,(d.st k).isFailed = true → Ru.needs d.l k j = true → (d.st j).isDone = true
 bad : ∀ k j,Ru.needs d.l k j = true → (d.st j).isBad = true → (d.st k).isLeft = true
 left : ∀ k,(d.st k).isLeft = true → ∃ j,Ru.needs d.l k j = true ∧ (d.st j).isBad = true
theorem St.five (s : St) : s.isNo = true ∨ s.isWaits = true ∨ s.isDone = true ∨ s.isFailed = true ∨ s.isLeft = true := by cases s <;> simp [St.isNo,St.isWaits,St.isDone,St.isFailed,St.isLeft]
theorem Good.init {d : Bd} (h : ∀ k,d.st k = if k < d.l.length then .waits else .no) : Good d := by
 have hn : ∀ k,(d.st k).isDone = false ∧ (d.st k).isFailed = false ∧ (d.st k).isLeft = false ∧ (d.st k).isBad = false := fun k => by
  rw [h k]
  split <;> exact ⟨rfl,rfl,rfl,rfl⟩
 refine ⟨fun k hk => by rw [h k,if_pos hk];rfl,fun k j hd => ?_,fun k j hd => ?_,fun k j _ hb => ?_,fun k hl => ?_⟩
 ·rw [(hn k).1] at hd;cases hd
 ·rw [(hn k).2.1] at hd;cases hd
 ·rw [(hn j).2.2.2] at hb;cases hb
 ·rw [(hn k).2.2.1] at hl;cases hl
theorem Good.ready_needs {d : Bd} {i j : Nat} (hr : d.isReady i = true) (hn : Ru.needs d.l i j = true) : (d.st j).isDone = true := ready_free hr (Ru.needs_lt hn).2 hn
theorem Good.set {d : Bd} (h : Good d) {i : Nat} (hr : d.isReady i = true) (s : List UInt8) (b : Bool) : Good (d.set i (.done s b)) := by
 have hw := ready_waits hr
 have hs : ∀ k,(d.set i (.done s b)).st k = if k = i then .done s b else d.st k := fun k => rfl
 have hbad : ∀ j,((d.set i (.done s b)).st j).isBad = true → j ≠ i ∧ (d.st j).isBad = true := fun j hj => by
  rw [hs] at hj
  split at hj
  ·cases hj
  ·rename_i e;exact ⟨e,hj⟩
 refine ⟨fun k hk => ?_,fun k j hd hn => ?_,fun k j hd hn => ?_,fun k j hn hb => ?_,fun k hl => ?_⟩
 ·rw [hs]
  split
  ·rfl
  ·exact h.needed k hk
 ·rw [hs] at hd ⊢
  split
  ·rfl
  ·split at hd
   ·rename_i e;subst e;exact Good.ready_needs hr hn
   ·exact h.done k j hd hn
 ·rw [hs] at hd ⊢
  split
  ·rfl
  ·split at hd
   ·cases hd
   ·exact h.failed k j hd hn
 ·obtain ⟨e,hb'⟩ := hbad j hb
  have hl := h.bad k j hn hb'
  rw [hs]
  split
  ·rename_i e2
   rw [e2,hw] at hl
   cases hl
  ·exact hl
 ·rw [hs] at hl
  split at hl
  ·cases hl
  ·obtain ⟨j,hn,hb⟩ := h.left k hl
   refine ⟨j,hn,?_⟩
   rw [hs]
   split
   ·rename_i e
    rw [e,hw] at hb
    cases hb
   ·exact hb
theorem Good.fail {d : Bd} (h : Good d) {i : Nat} (hr : d.isReady i = true) (c : Nat) : Good (d.fail i c) := by
 have hw := ready_waits hr
 have hs0 : ∀ k,setS d.st i (.failed c) k = if k = i then .failed c else d.st k := fun k => rfl
 have hs : ∀ k,(d.fail i c).st k = spread d.l (setS d.st i (.failed c)) k := fun k => rfl
 have hl : (d.fail i c).l = d.l := rfl
 have keepN : ∀ k,(setS d.st i (.failed c) k).isWaits = false → (d.fail i c).st k = setS d.st i (.failed c) k := fun k hk => by rw [hs,spread_keeps hk]
 have done_iff : ∀ k,((d.fail i c).st k).isDone = true ↔ (d.st k).isDone = true := fun k => by
  rw [hs]
  unfold spread
  split
  ·rename_i hx
   rw [hs0] at hx
   split at hx
   ·cases hx.1
   ·constructor
    ·intro h1;cases h1
    ·intro h1;rw [St.waits_eq hx.1] at h1;cases h1
  ·rw [hs0]
   split
   ·rename_i e
    rw [e,hw]
    constructor
    ·intro h1;cases h1
    ·intro h1;cases h1
   ·exact Iff.rfl
 have failed_is : ∀ k,((d.fail i c).st k).isFailed = true → k = i ∨ (d.st k).isFailed = true := fun k hk => by
  rw [hs] at hk
  unfold spread at hk
  split at hk
  ·cases hk
  ·rw [hs0] at hk
   split at hk
   ·rename_i e;exact .inl e
   ·exact .inr hk
 have left_of : ∀ k,(setS d.st i (.failed c) k).isWaits = true → Chain d.l (setS d.st i (.failed c)) k → ((d.fail i c).st k).isLeft = true := fun k h1 h2 => by
  rw [hs]
  unfold spread
  rw [if_pos ⟨h1,h2⟩]
  rfl
 have bad_of : ∀ j,(setS d.st i (.failed c) j).isBad = true → ((d.fail i c).st j).isBad = true := fun j hj => by
  rw [keepN j (by cases hx : setS d.st i (.failed c) j <;> first | rfl | (rw [hx] at hj;cases hj))]
  exact hj
 refine ⟨fun k hk => ?_,fun k j hd hn => ?_,fun k j hd hn => ?_,fun k j hn hb => ?_,fun k hlf => ?_⟩
 ·rw [hs]
  unfold spread
  split
  ·rfl
  ·rw [hs0]
   split
   ·rfl
   ·exact h.needed k hk
 ·exact (done_iff j).2 (h.done k j ((done_iff k).1 hd) hn)
 ·rcases failed_is k hd with e | e
  ·subst e
   exact (done_iff j).2 (Good.ready_needs hr hn)
  ·exact (done_iff j).2 (h.failed k j e hn)
 ·have hk := (Ru.needs_lt (l := d.l) hn).1
  -- what j was
  have hj : (setS d.st i (.failed c) j).isBad = true ∨ ((setS d.st i (.failed c) j).isWaits = true ∧ Chain d.l (setS d.st i (.failed c)) j) := by
   rw [hs] at hb
   unfold spread at hb
   split at hb
   ·rename_i hx;exact .inr hx
   ·exact .inl hb
  have hnd : (d.st j).isDone = false := by
   rw [hs0] at hj
   split at hj
   ·rename_i e;rw [e,hw];rfl
   ·rcases hj with h1 | h1
    ·cases hx : d.st j <;> first | rfl | (rw [hx] at h1;cases h1)
    ·rw [St.waits_eq h1.1];rfl
  by_cases ki : k = i
  ·subst ki
   have := Good.ready_needs hr hn
   rw [hnd] at this
   cases this
  ·have hk0 : setS d.st i (.failed c) k = d.st k := by rw [hs0,if_neg ki]
   rcases St.five (d.st k) with h1 | h1 | h1 | h1 | h1
   ·rw [h.needed k hk] at h1;cases h1
   ·refine left_of k (by rw [hk0];exact h1) ?_
    rcases hj with h2 | h2
    ·exact .one hn h2
    ·exact .more hn h2.1 h2.2
   ·have := h.done k j h1 hn
    rw [hnd] at this
    cases this
   ·have := h.failed k j h1 hn
    rw [hnd] at this
    cases this
   ·rw [keepN k (by rw [hk0];cases hx : d.st k <;> first | rfl | (rw [hx] at h1;cases h1)),hk0]
    exact h1
 ·-- what is left has one that is bad
  have hx : ((setS d.st i (.failed c) k).isWaits = true ∧ Chain d.l (setS d.st i (.failed c)) k) ∨ (setS d.st i (.failed c) k).isLeft = true := by
   rw [hs] at hlf
   unfold spread at hlf
   split at hlf
   ·rename_i hx;exact .inl hx
   ·exact .inr hlf
  rcases hx with ⟨_,hc⟩ | h1
  ·cases hc with
   | @one _ j hn hb => exact ⟨j,hn,bad_of j hb⟩
   | @more _ j hn hwj hcj =>
    refine ⟨j,hn,?_⟩
    have := left_of j hwj hcj
    cases hy : (d.fail i c).st j <;> first | rfl | (rw [hy] at this;cases this)
  ·rw [hs0] at h1
   split at h1
   ·cases h1
   ·obtain ⟨j,hn,hb⟩ := h.left k h1
    refine ⟨j,hn,bad_of j ?_⟩
    rw [hs0]
    split
    ·rfl
    ·exact hb
theorem Good.go {d : Bd} (h : Good d) (act : Act) (c : Ca) {i : Nat} (hr : d.isReady i = true) : Good (go act c d i).d := by
 unfold Bf.go
 split
 ·exact h.fail hr _
 ·split
  ·exact h.set hr _ _
  ·split
   ·exact h.set hr _ _
   ·exact h.fail hr _
theorem Good.ready {d : Bd} (h : Good d) {rank : Nat → Nat} (hrk : ∀ i k,Ru.needs d.l i k = true → rank k < rank i) {k : Nat} (hk : k < d.l.length) (hw : (d.st k).isWaits = true) : d.ready ≠ [] := by
 have key : ∀ n k,rank k ≤ n → k < d.l.length → (d.st k).isWaits = true → ∃ i,i < d.l.length ∧ d.isReady i = true := by
  intro n
  induction n with
  | zero =>
   intro k hr hk hw
   refine ⟨k,hk,ready_of (St.waits_eq hw) fun j _ hn => ?_⟩
   have := hrk k j hn
   omega
  | succ n ih =>
   intro k hr hk hw
   by_cases hx : ∃ j,Ru.needs d.l k j = true ∧ (d.st j).isWaits = true
   ·obtain ⟨j,hn,hj⟩ := hx
    have := hrk k j hn
    exact ih j (by omega) (Ru.needs_lt hn).2 hj
   ·refine ⟨k,hk,ready_of (St.waits_eq hw) fun j hj hn => ?_⟩
    rcases St.five (d.st j) with h1 | h1 | h1 | h1 | h1
    ·rw [h.needed j hj] at h1;cases h1
    ·exact absurd ⟨j,hn,h1⟩ hx
    ·exact h1
    ·have := h.bad k j hn (by rw [St.bad_eq,h1];rfl)
     rw [St.waits_eq hw] at this
     cases this
    ·have := h.bad k j hn (by rw [St.bad_eq,h1];simp)
     rw [St.waits_eq hw] at this
     cases this
 obtain ⟨i,hi,hr⟩ := key (rank k) k (Nat.le_refl _) hk hw
 intro e
 have := mem_ready.2 ⟨hi,hr⟩
 rw [e] at this
 cases this
def St.ran (s : St) : Bool := s.isDone || s.isFailed
end Bf
end Go.Proofs.YthchjnopgagilaaGreatDoor
namespace Go.Proofs.YthchjnopgagilaaGreatDoor
open Go.RowKit Go.Shelf Go.Lib Go.Maps
def Inp.get (st : Nat → Bf.St) : Inp → Option (List UInt8)
 | .rule k => some (st k).out
 | .file b => some b
 | .gone => none
def gat (st : Nat → Bf.St) : List Inp → Option (List (List UInt8))
 | [] => some []
 | x :: r => match x.get st with
  | none => none
  | some b => (gat st r).map (b :: ·)
theorem gat_snoc (st : Nat → Bf.St) : ∀ (a : List Inp) (x : Inp) {o : List (List UInt8)},gat st a = some o → gat st (a ++ [x]) = (x.get st).map fun b => o ++ [b]
 | [],x,o,h => by
  cases h
  show gat st [x] = _
  unfold gat gat
  cases x.get st <;> rfl
 | y :: r,x,o,h => by
  unfold gat at h
  rw [List.cons_append]
  unfold gat
  cases hy : y.get st with
  | none => rw [hy] at h;cases h
  | some b =>
   rw [hy] at h
   cases hr : gat st r with
   | none => rw [hr] at h;cases h
   | some q =>
    rw [hr] at h
    obtain rfl : b :: q = o := by simpa using h
    have := gat_snoc st r x hr
    simp only [this]
    cases x.get st <;> rfl
theorem gat_bad (st : Nat → Bf.St) : ∀ (a : List Inp) (r : List Inp),gat st (a ++ .gone :: r) = none
 | [],r => rfl
 | y :: a,r => by
  rw [List.cons_append]
  unfold gat
  cases y.get st with
  | none => rfl
  | some b => simp only [gat_bad st a r];rfl
theorem gat_len (st : Nat → Bf.St) : ∀ {a : List Inp} {o : List (List UInt8)},gat st a = some o → o.length = a.length
 | [],o,h => by cases h;rfl
 | y :: r,o,h => by
  unfold gat at h
  cases hy : y.get st with
  | none => rw [hy] at h;cases h
  | some b =>
   rw [hy] at h
   cases hr : gat st r with
   | none => rw [hr] at h;cases h
   | some q =>
    rw [hr] at h
    obtain rfl : b :: q = o := by simpa using h
    simp [gat_len st hr]
theorem get_inpOf (d : Bf.Bd) (x : List UInt8) : (inpOf d.l d.fs x).get d.st = d.bytes x := by
 unfold inpOf Bf.Bd.bytes
 cases Bf.mkr d.l x with
 | some k => rfl
 | none => cases Tf.get d.fs x <;> rfl
theorem gat_insOf (d : Bf.Bd) (i : Nat) : gat d.st (insOf d i) = d.ins i := by
 unfold insOf Bf.Bd.ins
 generalize (d.rule i).ins = l
 induction l with
 | nil => rfl
 | cons x r ih =>
  rw [List.map_cons]
  unfold gat Bf.inB
  rw [get_inpOf,ih]
  cases d.bytes x <;> rfl
theorem stgather_calls {W : World} {es : Nat → Addr} {dom : Nat → Prop} {L : Lay} {ru : Nat → Ru} {ins : Nat → List Inp} {st : Nat → Bf.St} (h : Steps W es dom L ru ins st) (i : Nat) (hi : dom i) (hl : (ins i).length ≤ 1000) :
  Calls Tryz.prog 199 #[Ptr (L.sp i)] W fun e w' => Below W.heap.size W w' ∧ ((gat st (ins i) = none ∧ e = .returned (.tuple #[.slice none 0 0,.bool false])) ∨ ∃ xs v,gat st (ins i) = some xs ∧ e = .returned (.tuple #[v,.bool true]) ∧ w'.ownsRow W.heap.size 9 1 v xs.length (xs.map sv)) := by
 have c2 := (h.at hi).c2
 obtain ⟨p,cap,e2,hin⟩ := BRow.of_owns (h.insR i hi)
 rw [e2] at c2
 have HI := hid1 hin
 have HSt := hid1 h
 have zl : ((ins i).length : Int) ≤ 1000 := by omega
 obtain ⟨i0,hti,hz0,hz1,hz2⟩ := info_parts Tryz.infoStr
 clear h hin e2
 go_enter Tryz.func199,Tryz.ntmps199
 go_wp2
 clear c2
 go_loopw [4,12] (fun lv iv wr => ∃ (k : Nat) (xs : List (List UInt8)),k ≤ (ins i).length ∧ iv = .int .i64 k ∧ gat st ((ins i).take k) = some xs ∧ wr.ownsRow W.heap.size 9 1 lv xs.length (xs.map sv) ∧ Below W.heap.size W wr) (fun _ iv _ => (ins i).length - (intOf iv).toNat)
 case atStart => exact ⟨0,[],Nat.zero_le _,rfl,rfl,World.ownsRow_nil _ _ _ _,Below.refl _ _⟩
 case round =>
  obtain ⟨k,xs,hk,rfl,hg,hrow,hB⟩ := hrel
  have hxl := gat_len st hg
  have hxl2 : xs.length ≤ 1000 := by rw [hxl];simp;omega
  have HG := hid1 hg
  have HRow := hid1 hrow
  clear hg hxl hrow
  have k0 : (0 : Int) ≤ (k : Int) := by omega
  by_cases hlt : k < (ins i).length
  ·have k1 : (k : Int) < ((ins i).length : Int) := by omega
   obtain ⟨g,rfl,hgl,hc⟩ := HI.out (by intro e;rw [e] at hlt;simp at hlt)
   obtain ⟨u0,u1,u2⟩ := hc k hlt
   have d0 := cell_below' u0 hB
   have d1 := cell_below' u1 hB
   have d2 := cell_below' u2 hB
   have hT : (ins i).take (k + 1) = (ins i).take k ++ [(ins i)[k]] := List.take_succ_eq_append_getElem hlt
   have hBad : Hid ((ins i)[k] = .gone → gat st (ins i) = none) := hid1 fun e => by
    have := gat_bad st ((ins i).take k) ((ins i).drop (k + 1))
    rwa [← e,← List.drop_eq_getElem_cons hlt,List.take_append_drop] at this
   have hmem : (ins i)[k] ∈ ins i := List.getElem_mem hlt
   have HS := hid1 (gat_snoc st _ (ins i)[k] HG.out)
   rw [← hT] at HS
   have hD := HSt.out.insD i hi
   clear hT hc u0 u1 u2 HI HG
   have hml : xs.length + 1 ≤ maxLen := by unfold maxLen;omega
   have hbz := hB.size
   generalize (ins i)[k] = y at *
   cases y with
   | rule j =>
    have hj := hD j hmem
    have c5 := ((HSt.out.below hB).at hj).c5
    have c5' : (wr.alloc (.cells #[Ptr (L.sp j),.string (ba []),.bool false] 274)).cell? ⟨L.sp j,5,none⟩ = some (.string (ba (st j).out)) := cell_below' c5 ((Below.refl _ wr).alloc (Nat.le_refl _) _)
    have hB1 : Below W.heap.size W (wr.alloc (.cells #[Ptr (L.sp j),.string (ba []),.bool false] 274)) := hB.alloc hbz _
    have hrow1 := HRow.out.alloc (.cells #[Ptr (L.sp j),.string (ba []),.bool false] 274)
    have hjl := lt_of_cell c5
    simp only at hjl
    simp only [Inp.from,Inp.text,Inp.there] at d0 d1 d2
    simp only [Inp.get,Option.map_some] at HS
    clear hD hBad HRow hmem
    generalize (st j).out = o at *
    go_wp2_with (first
     | (at_builtin;refine wpList_append_own _ rfl _ _ 45 rfl W.heap.size 9 i0 (.string ⟨#[]⟩) 1 16 Tryz.underlying45 hti hz0 hz1 hz2 rfl (by decide) _ _ _ rfl (hrow1.alloc _) ⟨wr.heap.size + 1,0,none⟩ 1 1 [sv o] rfl rfl (one_new _ _ _ _ (by simp)) (by simp [Value.oneCell']) hml (by omega) (by simp;omega) ?_;intro v' w4 hown' hgrow _)
     | go_in)
    exact ⟨⟨k + 1,xs ++ [o],by omega,by go_num,HS.out,by rw [List.length_append,List.map_append];exact hown',below_appended hB1 (by simp;omega) hrow1 hgrow⟩,by simp [intOf];omega⟩
   | file b =>
    have hB1 : Below W.heap.size W (wr.alloc (.cells #[.pointer none,.string (ba b),.bool true] 274)) := hB.alloc hbz _
    have hrow1 := HRow.out.alloc (.cells #[.pointer none,.string (ba b),.bool true] 274)
    simp only [Inp.from,Inp.text,Inp.there] at d0 d1 d2
    simp only [Inp.get,Option.map_some] at HS
    clear hD hBad HRow hmem
    go_wp2_with (first
     | (at_builtin;refine wpList_append_own _ rfl _ _ 45 rfl W.heap.size 9 i0 (.string ⟨#[]⟩) 1 16 Tryz.underlying45 hti hz0 hz1 hz2 rfl (by decide) _ _ _ rfl (hrow1.alloc _) ⟨wr.heap.size + 1,0,none⟩ 1 1 [sv b] rfl rfl (one_new _ _ _ _ (by simp)) (by simp [Value.oneCell']) hml (by omega) (by simp;omega) ?_;intro v' w4 hown' hgrow _)
     | go_in)
    exact ⟨⟨k + 1,xs ++ [b],by omega,by go_num,HS.out,by rw [List.length_append,List.map_append];exact hown',below_appended hB1 (by simp;omega) hrow1 hgrow⟩,by simp [intOf];omega⟩
   | gone =>
    have hB1 : Below W.heap.size W (wr.alloc (.cells #[.pointer none,.string (ba []),.bool false] 274)) := hB.alloc hbz _
    have HN := hid1 (hBad.out rfl)
    simp only [Inp.from,Inp.text,Inp.there] at d0 d1 d2
    clear hD hBad HRow hmem HS
    go_wp2
    go_ret2
    exact ⟨hB1,.inl ⟨HN.out,rfl⟩⟩
  ·have k1 : ((ins i).length : Int) ≤ (k : Int) := by omega
   have HG2 : Hid (gat st (ins i) = some xs) := hid1 (by
    have := HG.out
    rwa [List.take_of_length_le (by omega)] at this)
   obtain ⟨pv,cv,rfl⟩ := own_val HRow.out
   clear HG
   go_wp2
   go_ret2
   exact ⟨hB,.inr ⟨xs,_,HG2.out,rfl,HRow.out⟩⟩
end Go.Proofs.YthchjnopgagilaaGreatDoor
