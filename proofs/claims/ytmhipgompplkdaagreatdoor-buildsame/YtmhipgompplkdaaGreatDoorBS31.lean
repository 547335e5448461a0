import Derived.Test.YtmhipgompplkdaaGreatDoorBS30
import Derived.Test.YtmhipgompplkdaaGreatDoorBS10
import Derived.Test.YtmhipgompplkdaaGreatDoorBS20
import Derived.Test.YtmhipgompplkdaaGreatDoorBS19
namespace Go.Proofs.YtmhipgompplkdaaGreatDoor
open Go.RowKit Go.Shelf Go.Lib Go.Maps
namespace Ru
theorem orderF_ch {l : List Ru} {some : Nat → Bool} : ∀ {f : Nat} {o r : List Nat}, orderF l some f o = Option.some r → (∀ i ∈ o, some i = true) → ∀ i ∈ r, some i = true
  | 0, _, _, h, _ => by cases h
  | f + 1, o, r, h, hb => by
    unfold orderF at h
    split at h
    · split at h
      · cases h
      · rename_i i hi
        have hm := (nextTo_some hi).2
        simp only [may, Bool.and_eq_true] at hm
        refine orderF_ch h fun j hj => ?_
        rcases List.mem_append.1 hj with h1 | h1
        · exact hb j h1
        · rw [List.mem_singleton.1 h1]; exact hm.1.1
    · cases h
      exact hb
theorem order_ch {l : List Ru} {some : Nat → Bool} {o : List Nat} (h : order l some = Option.some o) : ∀ i ∈ o, some i = true := orderF_ch h (by simp)
theorem leftTo_congr2 {f g done : Nat → Bool} : ∀ {m : Nat}, (∀ k, k < m → f k = g k) → leftTo f done m = leftTo g done m
  | 0, _ => rfl
  | m + 1, h => by
    rw [leftTo_succ, leftTo_succ, leftTo_congr2 fun k hk => h k (by omega), h m (by omega)]
theorem nextTo_congr2 {l : List Ru} {f g done : Nat → Bool} : ∀ {m : Nat}, (∀ k, k < m → f k = g k) → nextTo l f done m = nextTo l g done m
  | 0, _ => rfl
  | m + 1, h => by
    have e : may l f done m = may l g done m := by unfold may; rw [h m (by omega)]
    rw [nextTo_succ, nextTo_succ, nextTo_congr2 fun k hk => h k (by omega), e]
theorem orderF_congr2 {l : List Ru} {f g : Nat → Bool} (h : ∀ k, k < l.length → f k = g k) : ∀ (n : Nat) (o : List Nat), orderF l f n o = orderF l g n o
  | 0, _ => rfl
  | n + 1, o => by
    unfold orderF
    rw [leftTo_congr2 h, nextTo_congr2 h]
    split
    · split
      · rfl
      · exact orderF_congr2 h n _
    · rfl
theorem order_congr2 {l : List Ru} {f g : Nat → Bool} (h : ∀ k, k < l.length → f k = g k) : order l f = order l g := orderF_congr2 h _ _
end Ru
theorem Mk.congrI {es : Nat → Addr} {W0 W : World} {dom dom' : Nat → Prop} {L : Lay} {ru : Nat → Ru} {ins ins' : Nat → List Inp} (h : Mk es W0 W dom L ru ins) (hd : ∀ k, dom k ↔ dom' k) (hi : ∀ k, dom k → ins k = ins' k) : Mk es W0 W dom' L ru ins' := by
  obtain rfl : dom = dom' := funext fun k => propext (hd k)
  have hS := h.steps
  exact ⟨h.base, ⟨hS.step, hS.inj, fun i hk => by rw [← hi i hk]; exact hS.insR i hk, hS.usR, fun i hk k hm => hS.insD i hk k (by rw [hi i hk]; exact hm), hS.usD⟩, h.low, h.sepU, h.sepI⟩
theorem Mk.notMap {es : Nat → Addr} {W0 W : World} {dom : Nat → Prop} {L : Lay} {ru : Nat → Ru} {ins : Nat → List Inp} (h : Mk es W0 W dom L ru ins) {b : Nat} (hb : ∃ a c, W.heap[b]? = some (.map a c)) : ¬ SBlk dom L b := by
  obtain ⟨a, c, e0⟩ := hb
  rintro ⟨k, hk, e | e | e⟩
  · rw [e, h.steps.step k hk] at e0
    cases e0
  · obtain ⟨_, e1⟩ := own_in (h.steps.insR k hk) e
    rw [e1] at e0
    cases e0
  · obtain ⟨_, e1⟩ := own_in (h.steps.usR k hk) e
    rw [e1] at e0
    cases e0
theorem Mk.turned {es : Nat → Addr} {W0 W W' : World} {dom : Nat → Prop} {L : Lay} {ru : Nat → Ru} {ins : Nat → List Inp} (h : Mk es W0 W dom L ru ins) {b : Nat} (hb : ∃ a c, W.heap[b]? = some (.map a c)) (hz : W0.heap.size ≤ b) (ht : W.mapTurned W' b) : Mk es W0 W' dom L ru ins := by
  have hn := h.notMap hb
  have hg := ht.grown
  refine ⟨h.base.grown hg h.base.size fun j e => by cases e; exact hz, h.steps.same fun j hj => hg.block j (h.steps.lt j hj) fun e => hn ?_, h.low, h.sepU, h.sepI⟩
  have : j = b := by simpa using e
  exact this ▸ hj
def mkD (l : List Ru) (ds : List Nat) (sp : Nat → Nat) (x : List UInt8) : Option Nat :=
  match Bf.mkr l x with
  | some j => if j ∈ ds then some (sp j) else none
  | none => none
structure OfS (es : Nat → Addr) (W0 : World) (l : List Ru) (fs : Tf.Fs) (ru : Nat → Ru) (bm mb : Nat) (ds : List Nat) (L : Lay) (wr : World) : Prop where
  made : Mk es W0 wr (fun k => k ∈ ds) L ru (fun k => (ru k).ins.map (inpOf l fs))
  smap : SMap wr bm ds.length (fun k => k ∈ ds) L.sp
  mmap : MMap wr mb ds.length (mkD l ds L.sp)
  us : ∀ k, k ∈ ds → ∀ j, j ∈ L.us k ↔ j ∈ ds ∧ Ru.needs l j k = true
  usl : ∀ k, k ∈ ds → (L.us k).length ≤ 12 * ds.length
  ne : bm ≠ mb
  lb : W0.heap.size ≤ bm
  lm : W0.heap.size ≤ mb
theorem OfS.start (es : Nat → Addr) (W0 : World) (l : List Ru) (fs : Tf.Fs) (ru : Nat → Ru) (L : Lay) : OfS es W0 l fs ru W0.heap.size (W0.heap.size + 1) [] L ((W0.alloc (.map #[] 0)).alloc (.map #[] 0)) := by
  have b1 : Below W0.heap.size W0 (W0.alloc (.map #[] 0)) := (Below.refl _ W0).alloc (Nat.le_refl _) _
  have b2 : Below (W0.alloc (.map #[] 0)).heap.size (W0.alloc (.map #[] 0)) ((W0.alloc (.map #[] 0)).alloc (.map #[] 0)) := (Below.refl _ _).alloc (Nat.le_refl _) _
  have hz : (W0.alloc (.map #[] 0)).heap.size = W0.heap.size + 1 := by simp
  refine ⟨⟨below_then b1 b2, ⟨by simp, by simp, by simp, by simp, by simp, by simp⟩, ?_, by simp, by simp⟩, ?_, ?_, by simp, by simp, by omega, by omega, by omega⟩
  · rintro j ⟨i, hi, _⟩
    cases hi
  · have := (SMap.made W0 L.sp).same (b2.block W0.heap.size (by omega))
    simpa using this
  · have := MMap.made (W0.alloc (.map #[] 0))
    rw [hz] at this
    have e : mkD l [] L.sp = fun _ => none := by
      funext x
      unfold mkD
      split <;> simp
    rw [e]
    exact this
theorem OfS.next {es : Nat → Addr} {W0 : World} {l : List Ru} {fs : Tf.Fs} {ru : Nat → Ru} {bm mb : Nat} {ds : List Nat} {L : Lay} {wr w2 : World} (h : OfS es W0 l fs ru bm mb ds L wr) (hru : ∀ k (hk : k < l.length), ru k = l[k]) (hA : Ru.Apart l) {i : Nat} (hi : i < l.length) (hid : i ∉ ds) (hio : (l[i]).out.length ≤ 1000000) (h12 : (l[i]).ins.length ≤ 12) (hil : i ≤ 1000000) (hself : Ru.needs l i i = false) (hds : ∀ k ∈ ds, k < l.length ∧ Ru.needs l k i = false) (hlen : ds.length < 1000000) {sb : Nat} {L' : Lay}
    (hN : NewS es W0 wr (fun k => k ∈ ds) L ru (fun k => (ru k).ins.map (inpOf l fs)) i sb ((ru i).ins.map (inpOf l fs)) ((ru i).ins.map (inpOf l fs)) L' w2) :
    ∃ w3, (Instr.mapUpdate 192 (.map (some bm)) (.int .i64 (i : Nat)) (Ptr sb)).run Tryz.prog w2 = .ok () w3 ∧ Below W0.heap.size W0 w3 ∧ ∃ w4, (Instr.mapUpdate 242 (.map (some mb)) (.string (ba (l[i]).out)) (Ptr sb)).run Tryz.prog w3 = .ok () w4 ∧ OfS es W0 l fs ru bm mb (ds ++ [i]) L' w4 := by
  have hml : ds.length < maxLen := by unfold maxLen; omega
  have hnb := h.made.notMap h.smap.isMap
  have hnm := h.made.notMap h.mmap.isMap
  have s2 := h.smap.same (hN.only.block bm h.smap.lt hnb)
  have m2 := h.mmap.same (hN.only.block mb h.mmap.lt hnm)
  obtain ⟨w3, r3, s3, t3⟩ := s2.laid hml i sb hil
  have m3 := m2.same (t3.grown.block mb m2.lt (by simpa using h.ne.symm))
  have k3 := hN.made.turned s2.isMap h.lb t3
  obtain ⟨w4, r4, m4, t4⟩ := m3.laid hml (l[i]).out hio sb
  have s4 := s3.same (t4.grown.block bm s3.lt (by simpa using h.ne))
  have k4 := k3.turned m3.isMap h.lm t4
  have hmem : ∀ k, (k ∈ ds ∨ k = i) ↔ k ∈ ds ++ [i] := fun k => by simp
  refine ⟨w3, r3, k3.base, w4, r4, ?_, ?_, ?_, ?_, ?_, h.ne, h.lb, h.lm⟩
  · refine k4.congrI hmem fun k hk => ?_
    by_cases e : k = i
    · subst e
      rw [updN_same]
    · rw [updN_other e]
  · have e : (fun k => k ∈ ds ∨ k = i) = fun k => k ∈ ds ++ [i] := funext fun k => propext (hmem k)
    rw [List.length_append, List.length_singleton, hN.sp, ← e]
    exact s4
  · have e : (fun y => if y = (l[i]).out then some sb else mkD l ds L.sp y) = mkD l (ds ++ [i]) L'.sp := by
      funext y
      by_cases hy : y = (l[i]).out
      · rw [if_pos hy]
        unfold mkD
        rw [hy, show Bf.mkr l (l[i]).out = some i from Ru.mkr_eq hA hi]
        simp only [List.mem_append, List.mem_singleton, or_true, if_true]
        rw [hN.sp, updN_same]
      · rw [if_neg hy]
        unfold mkD
        cases hm : Bf.mkr l y with
        | none => rfl
        | some j =>
          obtain ⟨hj, e1, _⟩ := Ru.mkr_some (show Ru.mkr l y = some j from hm)
          have hji : j ≠ i := fun e => hy (by subst e; exact e1.symm)
          simp only [List.mem_append, List.mem_singleton, hji, or_false]
          rw [hN.sp, updN_other hji]
    rw [List.length_append, List.length_singleton, ← e]
    exact m4
  · intro k hk j
    rcases List.mem_append.1 hk with hk | hk
    · rw [hN.us k hk, h.us k hk, List.mem_append, List.mem_singleton]
      have hin : Inp.rule k ∈ (ru i).ins.map (inpOf l fs) ↔ Ru.needs l i k = true := by
        have hkl := (hds k hk).1
        rw [Ru.needs_eq hi hkl, hru i hi, List.mem_map]
        constructor
        · rintro ⟨x, hx, e⟩
          unfold inpOf at e
          split at e
          · rename_i q hq
            obtain ⟨_, e1, _⟩ := Ru.mkr_some (show Ru.mkr l x = some q from hq)
            have : q = k := by simpa using e
            subst this
            rw [e1]
            simpa using hx
          · split at e <;> cases e
        · intro hx
          refine ⟨l[k].out, by simpa using hx, ?_⟩
          unfold inpOf
          rw [show Bf.mkr l l[k].out = some k from Ru.mkr_eq hA hkl]
      rw [hin]
      constructor
      · rintro (⟨h1, h2⟩ | ⟨h1, h2⟩)
        · exact ⟨.inl h1, h2⟩
        · exact ⟨.inr h1, by rw [h1]; exact h2⟩
      · rintro ⟨h1 | h1, h2⟩
        · exact .inl ⟨h1, h2⟩
        · exact .inr ⟨h1, by rw [h1] at h2; exact h2⟩
    · obtain rfl := List.mem_singleton.1 hk
      rw [hN.usi]
      constructor
      · intro h1; cases h1
      · rintro ⟨h1, h2⟩
        rcases List.mem_append.1 h1 with h1 | h1
        · rw [(hds j h1).2] at h2
          cases h2
        · rw [List.mem_singleton.1 h1, hself] at h2
          cases h2
  · intro k hk
    rw [List.length_append, List.length_singleton]
    rcases List.mem_append.1 hk with hk | hk
    · have h1 := hN.usl k hk
      have h2 := h.usl k hk
      rw [List.length_map, hru i hi] at h1
      omega
    · rw [List.mem_singleton.1 hk, hN.usi]
      simp
end Go.Proofs.YtmhipgompplkdaaGreatDoor
namespace Go.Proofs.YtmhipgompplkdaaGreatDoor
namespace Ru
theorem orderF_none2 {l : List Ru} {some : Nat → Bool} (hs : ∀ i k, some i = true → needs l i k = true → some k = true) : ∀ {f : Nat} {o : List Nat}, orderF l some f o = none → o.Nodup → (∀ i ∈ o, i < l.length) → l.length < f + o.length → ∃ i t, some i = true ∧ Walk l i i (t + 1)
  | 0, o, _, hd, hb, hf => by have := len_le hd hb; omega
  | f + 1, o, h, hd, hb, hf => by
    unfold orderF at h
    split at h
    · rename_i hl
      split at h
      · rename_i hi
        simp only [leftTo, List.any_eq_true, Bool.and_eq_true, Bool.not_eq_true'] at hl
        obtain ⟨i, hil, hsi, hio⟩ := hl
        have hnext : ∀ i, i < l.length ∧ i ∉ o ∧ some i = true → ∃ k, (k < l.length ∧ k ∉ o ∧ some k = true) ∧ needs l i k = true := by
          rintro i ⟨hil, hio, hsi⟩
          have h0 := List.find?_eq_none.1 hi i (List.mem_range.2 hil)
          simp only [may, hsi, Bool.true_and, Bool.and_eq_true, isIn, Bool.not_eq_true', decide_eq_false_iff_not, hio, not_false_eq_true, true_and, freeTo, List.all_eq_true, Bool.or_eq_true] at h0
          simp only [Classical.not_forall] at h0
          obtain ⟨k, hk, hk2⟩ := h0
          simp only [not_or, decide_eq_true_eq] at hk2
          have hn : needs l i k = true := by simpa using hk2.2
          exact ⟨k, ⟨List.mem_range.1 hk, hk2.1, hs i k hsi hn⟩, hn⟩
        have hg : ∃ g : Nat → Nat, g 0 = i ∧ ∀ a, (g a < l.length ∧ g a ∉ o ∧ some (g a) = true) ∧ needs l (g a) (g (a + 1)) = true := by
          let nx : {i // i < l.length ∧ i ∉ o ∧ some i = true} → {i // i < l.length ∧ i ∉ o ∧ some i = true} := fun x => ⟨Classical.choose (hnext x.1 x.2), (Classical.choose_spec (hnext x.1 x.2)).1⟩
          let st : {i // i < l.length ∧ i ∉ o ∧ some i = true} := ⟨i, List.mem_range.1 hil, by simpa [isIn] using hio, hsi⟩
          refine ⟨fun a => (Nat.rec st (fun _ x => nx x) a : {i // i < l.length ∧ i ∉ o ∧ some i = true}).1, rfl, fun a => ⟨(Nat.rec st (fun _ x => nx x) a : {i // i < l.length ∧ i ∉ o ∧ some i = true}).2, ?_⟩⟩
          exact (Classical.choose_spec (hnext _ (Nat.rec st (fun _ x => nx x) a : {i // i < l.length ∧ i ∉ o ∧ some i = true}).2)).2
        obtain ⟨g, _, hgn⟩ := hg
        obtain ⟨a, b, hab, _, e⟩ := pigeon (n := l.length) (g := g) fun t _ => (hgn t).1.1
        have sub : ∀ (d a : Nat), Walk l (g a) (g (a + d)) d := by
          intro d
          induction d with
          | zero => intro a; exact .zero _
          | succ d ih =>
            intro a
            have := ih (a + 1)
            rw [show a + 1 + d = a + (d + 1) by omega] at this
            exact .step (hgn a).2 this
        have := sub (b - a) a
        rw [show a + (b - a) = b by omega, ← e] at this
        exact ⟨g a, b - a - 1, (hgn a).1.2.2, by rw [show b - a - 1 + 1 = b - a by omega]; exact this⟩
      · rename_i i hi
        obtain ⟨hil, hm⟩ := nextTo_some hi
        have hio : i ∉ o := by
          simp only [may, Bool.and_eq_true, Bool.not_eq_true', isIn, decide_eq_false_iff_not] at hm
          exact hm.1.2
        refine orderF_none2 hs h ?_ ?_ ?_
        · rw [List.nodup_append]
          exact ⟨hd, by simp, fun a ha b hb => by
            rw [List.mem_singleton.1 hb]
            rintro rfl
            exact hio ha⟩
        · intro j hj
          rcases List.mem_append.1 hj with h1 | h1
          · exact hb j h1
          · rw [List.mem_singleton.1 h1]; exact hil
        · rw [List.length_append, List.length_singleton]; omega
    · cases h
theorem order_none2 {l : List Ru} {some : Nat → Bool} (hs : ∀ i k, some i = true → needs l i k = true → some k = true) (h : order l some = none) : ∃ i t, some i = true ∧ Walk l i i (t + 1) :=
  orderF_none2 hs h List.nodup_nil (by simp) (by simp)
def part (l : List Ru) (ns : List Nat) : List Ru := ns.map fun i => l.getD i ⟨[], [], [], []⟩
structure Nums (l : List Ru) (out : List UInt8) (f : Nat → Bool) (ns : List Nat) : Prop where
  need : Needed l [out] f
  eq : ns = (List.range l.length).filter f
  fine : (fault l).1 = 0
theorem Nums.mem {l : List Ru} {out : List UInt8} {f : Nat → Bool} {ns : List Nat} (h : Nums l out f ns) {i : Nat} : i ∈ ns ↔ i < l.length ∧ f i = true := by
  rw [h.eq, List.mem_filter, List.mem_range]
theorem Nums.len {l : List Ru} {out : List UInt8} {f : Nat → Bool} {ns : List Nat} (h : Nums l out f ns) : (part l ns).length = ns.length ∧ ns.length ≤ l.length := by
  refine ⟨by simp [part], ?_⟩
  rw [h.eq]
  simpa using List.length_filter_le f (List.range l.length)
theorem part_len (l : List Ru) (ns : List Nat) : (part l ns).length = ns.length := by simp [part]
theorem part_at (l : List Ru) (ns : List Nat) {j : Nat} (hj : j < ns.length) (hl : ns[j] < l.length) : (part l ns)[j]'(by rw [part_len]; exact hj) = l[ns[j]] := by
  simp only [part, List.getElem_map]
  exact Bf.getD_at hl
theorem Nums.at {l : List Ru} {out : List UInt8} {f : Nat → Bool} {ns : List Nat} (h : Nums l out f ns) {j : Nat} (hj : j < ns.length) : ns[j] < l.length ∧ f ns[j] = true := h.mem.1 (List.getElem_mem hj)
theorem Nums.nodup {l : List Ru} {out : List UInt8} {f : Nat → Bool} {ns : List Nat} (h : Nums l out f ns) : ns.Nodup := by
  rw [h.eq]; exact List.nodup_range.filter _
theorem Nums.inj {l : List Ru} {out : List UInt8} {f : Nat → Bool} {ns : List Nat} (h : Nums l out f ns) {i j : Nat} (hi : i < ns.length) (hj : j < ns.length) (e : ns[i] = ns[j]) : i = j := by
  have hp := List.pairwise_iff_getElem.1 h.nodup
  rcases Nat.lt_trichotomy i j with h1 | h1 | h1
  · exact absurd e (hp i j hi hj h1)
  · exact h1
  · exact absurd e.symm (hp j i hj hi h1)
theorem Nums.find {l : List Ru} {out : List UInt8} {f : Nat → Bool} {ns : List Nat} (h : Nums l out f ns) {i : Nat} (hi : i < l.length) (hf : f i = true) : ∃ j, ∃ hj : j < ns.length, ns[j] = i := by
  obtain ⟨j, hj, e⟩ := List.getElem_of_mem (h.mem.2 ⟨hi, hf⟩)
  exact ⟨j, hj, e⟩
theorem Nums.part_mem {l : List Ru} {out : List UInt8} {f : Nat → Bool} {ns : List Nat} (h : Nums l out f ns) {r : Ru} (hr : r ∈ part l ns) : r ∈ l := by
  obtain ⟨i, hi, e⟩ := List.mem_map.1 hr
  have := h.mem.1 hi
  rw [Bf.getD_at this.1] at e
  rw [← e]; exact List.getElem_mem this.1
theorem Nums.fault0 {l : List Ru} {out : List UInt8} {f : Nat → Bool} {ns : List Nat} (h : Nums l out f ns) : fault (part l ns) = (0, -1) := by
  obtain ⟨h40, hA⟩ := fault_ok h.fine
  have hlen := h.len
  have he : ∀ i, i < l.length → errAt l i = 0 := fun i hi => by
    have hf := h.fine
    unfold fault at hf
    rw [if_neg (by omega)] at hf
    cases hfi : first (errAt l) l.length with
    | none => exact first_none_zero hfi i hi
    | some k =>
      rw [hfi] at hf
      exact absurd hf (first_some_ne hfi)
  refine fault_none (by omega) fun j hj => ?_
  have hj' : j < ns.length := by omega
  have ha := h.at hj'
  have e0 := he _ ha.1
  rw [errAt_eq ha.1] at e0
  have er : l[ns[j]].err = 0 := by
    by_cases hz : l[ns[j]].err = 0
    · exact hz
    · rw [if_pos hz] at e0; exact absurd e0 hz
  rw [errAt_eq hj]
  have ep := part_at l ns hj' ha.1
  rw [ep, if_neg (by rw [er]; simp)]
  rw [if_neg]
  intro hm
  obtain ⟨r, hr, eo⟩ := List.mem_map.1 hm
  obtain ⟨q, hq, eq⟩ := List.mem_take_iff_getElem.1 hr
  have hq' : q < ns.length := by omega
  have hqa := h.at hq'
  rw [part_at l ns hq' hqa.1] at eq
  have := hA ns[q] ns[j] hqa.1 ha.1 (by rw [eq]; exact eo)
  have := h.inj hq' hj' this
  omega
theorem Nums.needs {l : List Ru} {out : List UInt8} {f : Nat → Bool} {ns : List Nat} (h : Nums l out f ns) {a b : Nat} (ha : a < ns.length) (hb : b < ns.length) : Ru.needs (part l ns) a b = Ru.needs l ns[a] ns[b] := by
  rw [needs_eq (by rw [part_len]; exact ha) (by rw [part_len]; exact hb), needs_eq (h.at ha).1 (h.at hb).1, part_at l ns ha (h.at ha).1, part_at l ns hb (h.at hb).1]
theorem Nums.walk {l : List Ru} {out : List UInt8} {f : Nat → Bool} {ns : List Nat} (h : Nums l out f ns) {a b t : Nat} (hw : Walk (part l ns) a b t) : Walk l (ns.getD a 0) (ns.getD b 0) t := by
  induction hw with
  | zero k => exact .zero _
  | step hn _ ih =>
    obtain ⟨h1, h2⟩ := needs_lt hn
    rw [part_len] at h1 h2
    rw [h.needs h1 h2] at hn
    refine .step ?_ ih
    rw [List.getD_eq_getElem?_getD, List.getD_eq_getElem?_getD, List.getElem?_eq_getElem h1, List.getElem?_eq_getElem h2]
    exact hn
theorem Nums.back {l : List Ru} {out : List UInt8} {f : Nat → Bool} {ns : List Nat} (h : Nums l out f ns) : ∀ {t i k : Nat}, Walk l i k t → ∀ j (hj : j < ns.length), ns[j] = i → ∃ q, ∃ hq : q < ns.length, ns[q] = k ∧ Walk (part l ns) j q t
  | 0, i, k, hw, j, hj, e => by cases hw; exact ⟨j, hj, e, .zero _⟩
  | t + 1, i, k, hw, j, hj, e => by
    obtain ⟨m, hn, hw'⟩ := hw.inv
    have hi := h.at hj
    rw [e] at hi
    have hm := h.need.closed i m hi.2 hn
    obtain ⟨q, hq, eq⟩ := h.find (needs_lt hn).2 hm
    obtain ⟨q', hq', e', hw2⟩ := h.back hw' q hq eq
    refine ⟨q', hq', e', .step ?_ hw2⟩
    rw [h.needs hj hq, e, eq]
    exact hn
theorem Nums.all {l : List Ru} {out : List UInt8} {f : Nat → Bool} {ns : List Nat} (h : Nums l out f ns) {g : Nat → Bool} (hg : Needed (part l ns) [out] g) {j : Nat} (hj : j < ns.length) : g j = true := by
  have key : ∀ i, i < l.length → f i = true → f i = true ∧ ∀ j (hj : j < ns.length), ns[j] = i → g j = true := by
    refine h.need.least (fun i => f i = true ∧ ∀ j (hj : j < ns.length), ns[j] = i → g j = true) (fun k hk => ⟨h.need.start k hk, fun j hj e => ?_⟩) (fun i k hi hn => ⟨h.need.closed i k hi.1 hn, fun j hj e => ?_⟩)
    · refine hg.start j ?_
      unfold base at hk ⊢
      have hl := (h.at hj).1
      rw [List.getElem?_eq_getElem (by rw [part_len]; exact hj), part_at l ns hj hl]
      subst e
      rw [List.getElem?_eq_getElem hl] at hk
      exact hk
    · obtain ⟨hil, hkl⟩ := needs_lt hn
      obtain ⟨q, hq, eq⟩ := h.find hil hi.1
      have := hi.2 q hq eq
      refine hg.closed q j this ?_
      rw [h.needs hq hj, e, eq]
      exact hn
  exact (key ns[j] (h.at hj).1 (h.at hj).2).2 j hj rfl
theorem Nums.needL {l : List Ru} {out : List UInt8} {f : Nat → Bool} {ns : List Nat} (h : Nums l out f ns) {i : Nat} (hi : i < l.length) : Bf.need l [out] i = f i := Bf.need_eq h.need hi
theorem Nums.needP {l : List Ru} {out : List UInt8} {f : Nat → Bool} {ns : List Nat} (h : Nums l out f ns) {j : Nat} (hj : j < ns.length) : Bf.need (part l ns) [out] j = true := by
  obtain ⟨g, hg⟩ := needed_is (part l ns) [out]
  rw [Bf.need_eq hg (by rw [part_len]; exact hj)]
  exact h.all hg hj
theorem need_closed (l : List Ru) (outs : List (List UInt8)) (i k : Nat) (hi : Bf.need l outs i = true) (hn : Ru.needs l i k = true) : Bf.need l outs k = true := by
  obtain ⟨g, hg⟩ := needed_is l outs
  obtain ⟨h1, h2⟩ := needs_lt hn
  rw [Bf.need_eq hg h1] at hi
  rw [Bf.need_eq hg h2]
  exact hg.closed i k hi hn
theorem need_lt {l : List Ru} {outs : List (List UInt8)} {i : Nat} (hi : Bf.need l outs i = true) : i < l.length := by
  refine Nat.lt_of_not_le fun h => ?_
  rw [Bf.need_out h] at hi
  cases hi
theorem Nums.order {l : List Ru} {out : List UInt8} {f : Nat → Bool} {ns : List Nat} (h : Nums l out f ns) : Ru.order (part l ns) (Bf.need (part l ns) [out]) = none ↔ Ru.order l (Bf.need l [out]) = none := by
  constructor
  · intro hn
    obtain ⟨j, t, hj, hw⟩ := order_none2 (need_closed (part l ns) [out]) hn
    have hjl := need_lt hj
    rw [part_len] at hjl
    cases ho : Ru.order l (Bf.need l [out]) with
    | none => rfl
    | some o =>
      exfalso
      obtain ⟨ht, hall⟩ := order_some ho
      have hw2 := h.walk hw
      have e : ns.getD j 0 = ns[j] := by rw [List.getD_eq_getElem?_getD, List.getElem?_eq_getElem hjl]; rfl
      rw [e] at hw2
      exact ht.none ns[j] t (hall _ (h.at hjl).1 (by rw [h.needL (h.at hjl).1]; exact (h.at hjl).2)) hw2
  · intro hn
    obtain ⟨i, t, hi, hw⟩ := order_none2 (need_closed l [out]) hn
    have hil := need_lt hi
    rw [h.needL hil] at hi
    obtain ⟨j, hj, e⟩ := h.find hil hi
    obtain ⟨q, hq, eq, hw2⟩ := h.back hw j hj e
    have : q = j := h.inj hq hj (by rw [eq, e])
    subst this
    cases ho : Ru.order (part l ns) (Bf.need (part l ns) [out]) with
    | none => rfl
    | some o =>
      exfalso
      obtain ⟨ht, hall⟩ := order_some ho
      exact ht.none q t (hall _ (by rw [part_len]; exact hj) (h.needP hj)) hw2
theorem Nums.mkr {l : List Ru} {out : List UInt8} {f : Nat → Bool} {ns : List Nat} (h : Nums l out f ns) {x : List UInt8} {i : Nat} (hm : Bf.mkr l x = some i) (hf : f i = true) : ∃ j, ∃ hj : j < ns.length, ns[j] = i ∧ Bf.mkr (part l ns) x = some j := by
  obtain ⟨hi, ei⟩ := Bf.mkr_of hm
  obtain ⟨j, hj, e⟩ := h.find hi hf
  obtain ⟨-, hA⟩ := fault_ok h.fine
  refine ⟨j, hj, e, ?_⟩
  unfold Bf.mkr
  rw [List.findIdx?_eq_some_iff_getElem]
  have hjp : j < (part l ns).length := by rw [part_len]; exact hj
  refine ⟨hjp, ?_, fun q hq => ?_⟩
  · rw [part_at l ns hj (h.at hj).1]
    subst e
    simpa using ei
  · have hq' : q < ns.length := by omega
    rw [part_at l ns hq' (h.at hq').1]
    have hql := (h.at hq').1
    have : l[ns[q]].out ≠ x := fun e2 => by
      have := hA ns[q] i (h.at hq').1 hi (by rw [e2, ei])
      have := h.inj hq' hj (by rw [this, e])
      omega
    simpa using this
theorem Nums.mkr_none {l : List Ru} {out : List UInt8} {f : Nat → Bool} {ns : List Nat} (h : Nums l out f ns) {x : List UInt8} (hm : Bf.mkr l x = none) : Bf.mkr (part l ns) x = none := by
  unfold Bf.mkr at hm ⊢
  rw [List.findIdx?_eq_none_iff] at hm ⊢
  exact fun r hr => hm r (h.part_mem hr)
theorem Nums.want {l : List Ru} {out : List UInt8} {f : Nat → Bool} {ns : List Nat} (h : Nums l out f ns) {fs fs' : Tf.Fs} (hs : (Ru.order l (Bf.need l [out])).isSome = true) (hfs : ∀ x, Leaf (part l ns) x → Tf.get fs x = Tf.get fs' x) (hex : ∃ x ∈ l, x.out = out) : Bf.want Af.actO fs l out = Bf.want Af.actO fs' (part l ns) out := by
  obtain ⟨o, ho⟩ := Option.isSome_iff_exists.1 hs
  obtain ⟨ht, hall⟩ := order_some ho
  obtain ⟨hnd, hlt⟩ := order_nodup ho
  have hch := order_ch ho
  cases ho' : Ru.order (part l ns) (Bf.need (part l ns) [out]) with
  | none => rw [h.order.1 ho'] at ho; cases ho
  | some o' =>
    obtain ⟨ht', hall'⟩ := order_some ho'
    obtain ⟨hnd', hlt'⟩ := order_nodup ho'
    have inF : ∀ i ∈ o, f i = true := fun i hi => by rw [← h.needL (hlt i hi)]; exact hch i hi
    obtain ⟨r, hr, er⟩ := hex
    obtain ⟨k, hk, ek⟩ := List.getElem_of_mem hr
    obtain ⟨-, hA⟩ := fault_ok h.fine
    have hm : Bf.mkr l out = some k := by
      unfold Bf.mkr
      rw [List.findIdx?_eq_some_iff_getElem]
      refine ⟨hk, by rw [ek]; simpa using er, fun q hq => ?_⟩
      have : l[q].out ≠ out := fun e2 => by
        have := hA q k (by omega) hk (by rw [e2, ek, er])
        omega
      simpa using this
    have hko : k ∈ o := hall k hk (by
      rw [h.needL hk]
      exact h.need.start k (by unfold base; rw [List.getElem?_eq_getElem hk, ek]; simp [er]))
    refine Bf.Wanted.part (Bf.want_is (act := Af.actO) (fs := fs) ht hnd hlt) (Bf.want_is (act := Af.actO) (fs := fs') ht' hnd' hlt') (r := fun i => o.idxOf i) (fun _ _ hi hn => (Bf.rank_of ht hi hn).2) (fun _ _ hi hn => (Bf.rank_of ht hi hn).1) (fun x i hx hi => ?_) (fun x i hi hN hx hmx => ?_) out k hm hko
    · obtain ⟨j, hj, e, hmj⟩ := h.mkr hx (inF i hi)
      refine ⟨j, hmj, hall' j (by rw [part_len]; exact hj) (h.needP hj), ?_⟩
      rw [Bf.getD_at (by rw [part_len]; exact hj), part_at l ns hj (h.at hj).1]
      subst e
      rw [Bf.getD_at (h.at hj).1]
    · have hmp := h.mkr_none hmx
      refine ⟨hmp, hfs x ⟨?_, fun z hz e => ?_⟩⟩
      · obtain ⟨j, hj, e⟩ := h.find hi (inF i hN)
        refine ⟨_, List.getElem_mem (show j < (part l ns).length by rw [part_len]; exact hj), ?_⟩
        rw [part_at l ns hj (h.at hj).1]
        subst e
        exact hx
      · unfold Bf.mkr at hmx
        rw [List.findIdx?_eq_none_iff] at hmx
        have := hmx z (h.part_mem hz)
        simp [e] at this
end Ru
namespace Tf
theorem get_ins {x : List UInt8 × List UInt8} {p : List UInt8} (h : x.1 ≠ p) : ∀ fs : Fs, get (ins x fs) p = get fs p
  | [] => by simp [ins, get, h]
  | y :: r => by
    unfold ins
    split
    · unfold get
      rw [List.find?_cons_of_neg (by simpa using h)]
    · unfold get
      by_cases e : y.1 = p
      · rw [List.find?_cons_of_pos (by simpa using e), List.find?_cons_of_pos (by simpa using e)]
      · rw [List.find?_cons_of_neg (by simpa using e), List.find?_cons_of_neg (by simpa using e)]
        exact get_ins h r
theorem get_del {q p : List UInt8} (h : q ≠ p) : ∀ fs : Fs, get (del fs q) p = get fs p
  | [] => rfl
  | y :: r => by
    have ih := get_del h r
    unfold get del at ih ⊢
    by_cases e : y.1 = q
    · rw [List.filter_cons_of_neg (by simpa using e), List.find?_cons_of_neg (by simp [e, h])]
      exact ih
    · rw [List.filter_cons_of_pos (by simpa using e)]
      by_cases e2 : y.1 = p
      · rw [List.find?_cons_of_pos (by simpa using e2), List.find?_cons_of_pos (by simpa using e2)]
      · rw [List.find?_cons_of_neg (by simpa using e2), List.find?_cons_of_neg (by simpa using e2)]
        exact ih
theorem get_putF {ok : List UInt8 → Bool} {fs : Fs} {q b p : List UInt8} (h : q ≠ p) : get (putF ok fs q b) p = get fs p := by
  unfold putF
  split
  · unfold put
    rw [get_ins h, get_del h]
  · rfl
end Tf
end Go.Proofs.YtmhipgompplkdaaGreatDoor
