import Derived.Test.YtflbofdpfgkmcaaGreatDoorOP35
import Derived.Test.YtflbofdpfgkmcaaGreatDoorOP20
import Derived.Test.YtflbofdpfgkmcaaGreatDoorOP31
import Derived.Test.YtflbofdpfgkmcaaGreatDoorOP33
namespace Go.Proofs.YtflbofdpfgkmcaaGreatDoor
open Go.RowKit Go.Shelf Go.Lib Go.Maps
namespace Ru
theorem orderF_ch {l : List Ru} {some : Nat → Bool} : ∀ {f : Nat} {o r : List Nat}, orderF l some f o = Option.some r → (∀ i ∈ o, some i = true) → ∀ i ∈ r, some i = true
  | 0, _, _, h, _ => by cases h
  | f + 1, o, r, h, hb => by
    unfold orderF at h
    split at h
    · split at h
      · cases h
      · rename_i i hi
        have hm := (nextTo_some hi).2
        simp only [may, Bool.and_eq_true] at hm
        refine orderF_ch h fun j hj => ?_
        rcases List.mem_append.1 hj with h1 | h1
        · exact hb j h1
        · rw [List.mem_singleton.1 h1]; exact hm.1.1
    · cases h
      exact hb
theorem order_ch {l : List Ru} {some : Nat → Bool} {o : List Nat} (h : order l some = Option.some o) : ∀ i ∈ o, some i = true := orderF_ch h (by simp)
theorem leftTo_congr2 {f g done : Nat → Bool} : ∀ {m : Nat}, (∀ k, k < m → f k = g k) → leftTo f done m = leftTo g done m
  | 0, _ => rfl
  | m + 1, h => by
    rw [leftTo_succ, leftTo_succ, leftTo_congr2 fun k hk => h k (by omega), h m (by omega)]
theorem nextTo_congr2 {l : List Ru} {f g done : Nat → Bool} : ∀ {m : Nat}, (∀ k, k < m → f k = g k) → nextTo l f done m = nextTo l g done m
  | 0, _ => rfl
  | m + 1, h => by
    have e : may l f done m = may l g done m := by unfold may; rw [h m (by omega)]
    rw [nextTo_succ, nextTo_succ, nextTo_congr2 fun k hk => h k (by omega), e]
theorem orderF_congr2 {l : List Ru} {f g : Nat → Bool} (h : ∀ k, k < l.length → f k = g k) : ∀ (n : Nat) (o : List Nat), orderF l f n o = orderF l g n o
  | 0, _ => rfl
  | n + 1, o => by
    unfold orderF
    rw [leftTo_congr2 h, nextTo_congr2 h]
    split
    · split
      · rfl
      · exact orderF_congr2 h n _
    · rfl
theorem order_congr2 {l : List Ru} {f g : Nat → Bool} (h : ∀ k, k < l.length → f k = g k) : order l f = order l g := orderF_congr2 h _ _
end Ru
theorem Mk.congrI {es : Nat → Addr} {W0 W : World} {dom dom' : Nat → Prop} {L : Lay} {ru : Nat → Ru} {ins ins' : Nat → List Inp} (h : Mk es W0 W dom L ru ins) (hd : ∀ k, dom k ↔ dom' k) (hi : ∀ k, dom k → ins k = ins' k) : Mk es W0 W dom' L ru ins' := by
  obtain rfl : dom = dom' := funext fun k => propext (hd k)
  have hS := h.steps
  exact ⟨h.base, ⟨hS.step, hS.inj, fun i hk => by rw [← hi i hk]; exact hS.insR i hk, hS.usR, fun i hk k hm => hS.insD i hk k (by rw [hi i hk]; exact hm), hS.usD⟩, h.low, h.sepU, h.sepI⟩
theorem Mk.notMap {es : Nat → Addr} {W0 W : World} {dom : Nat → Prop} {L : Lay} {ru : Nat → Ru} {ins : Nat → List Inp} (h : Mk es W0 W dom L ru ins) {b : Nat} (hb : ∃ a c, W.heap[b]? = some (.map a c)) : ¬ SBlk dom L b := by
  obtain ⟨a, c, e0⟩ := hb
  rintro ⟨k, hk, e | e | e⟩
  · rw [e, h.steps.step k hk] at e0
    cases e0
  · obtain ⟨_, e1⟩ := own_in (h.steps.insR k hk) e
    rw [e1] at e0
    cases e0
  · obtain ⟨_, e1⟩ := own_in (h.steps.usR k hk) e
    rw [e1] at e0
    cases e0
theorem Mk.turned {es : Nat → Addr} {W0 W W' : World} {dom : Nat → Prop} {L : Lay} {ru : Nat → Ru} {ins : Nat → List Inp} (h : Mk es W0 W dom L ru ins) {b : Nat} (hb : ∃ a c, W.heap[b]? = some (.map a c)) (hz : W0.heap.size ≤ b) (ht : W.mapTurned W' b) : Mk es W0 W' dom L ru ins := by
  have hn := h.notMap hb
  have hg := ht.grown
  refine ⟨h.base.grown hg h.base.size fun j e => by cases e; exact hz, h.steps.same fun j hj => hg.block j (h.steps.lt j hj) fun e => hn ?_, h.low, h.sepU, h.sepI⟩
  have : j = b := by simpa using e
  exact this ▸ hj
def mkD (l : List Ru) (ds : List Nat) (sp : Nat → Nat) (x : List UInt8) : Option Nat :=
  match Bf.mkr l x with
  | some j => if j ∈ ds then some (sp j) else none
  | none => none
structure OfS (es : Nat → Addr) (W0 : World) (l : List Ru) (fs : Tf.Fs) (ru : Nat → Ru) (bm mb : Nat) (ds : List Nat) (L : Lay) (wr : World) : Prop where
  made : Mk es W0 wr (fun k => k ∈ ds) L ru (fun k => (ru k).ins.map (inpOf l fs))
  smap : SMap wr bm ds.length (fun k => k ∈ ds) L.sp
  mmap : MMap wr mb ds.length (mkD l ds L.sp)
  us : ∀ k, k ∈ ds → ∀ j, j ∈ L.us k ↔ j ∈ ds ∧ Ru.needs l j k = true
  usl : ∀ k, k ∈ ds → (L.us k).length ≤ 12 * ds.length
  ne : bm ≠ mb
  lb : W0.heap.size ≤ bm
  lm : W0.heap.size ≤ mb
theorem OfS.start (es : Nat → Addr) (W0 : World) (l : List Ru) (fs : Tf.Fs) (ru : Nat → Ru) (L : Lay) : OfS es W0 l fs ru W0.heap.size (W0.heap.size + 1) [] L ((W0.alloc (.map #[] 0)).alloc (.map #[] 0)) := by
  have b1 : Below W0.heap.size W0 (W0.alloc (.map #[] 0)) := (Below.refl _ W0).alloc (Nat.le_refl _) _
  have b2 : Below (W0.alloc (.map #[] 0)).heap.size (W0.alloc (.map #[] 0)) ((W0.alloc (.map #[] 0)).alloc (.map #[] 0)) := (Below.refl _ _).alloc (Nat.le_refl _) _
  have hz : (W0.alloc (.map #[] 0)).heap.size = W0.heap.size + 1 := by simp
  refine ⟨⟨below_then b1 b2, ⟨by simp, by simp, by simp, by simp, by simp, by simp⟩, ?_, by simp, by simp⟩, ?_, ?_, by simp, by simp, by omega, by omega, by omega⟩
  · rintro j ⟨i, hi, _⟩
    cases hi
  · have := (SMap.made W0 L.sp).same (b2.block W0.heap.size (by omega))
    simpa using this
  · have := MMap.made (W0.alloc (.map #[] 0))
    rw [hz] at this
    have e : mkD l [] L.sp = fun _ => none := by
      funext x
      unfold mkD
      split <;> simp
    rw [e]
    exact this
theorem OfS.next {es : Nat → Addr} {W0 : World} {l : List Ru} {fs : Tf.Fs} {ru : Nat → Ru} {bm mb : Nat} {ds : List Nat} {L : Lay} {wr w2 : World} (h : OfS es W0 l fs ru bm mb ds L wr) (hru : ∀ k (hk : k < l.length), ru k = l[k]) (hA : Ru.Apart l) {i : Nat} (hi : i < l.length) (hid : i ∉ ds) (hio : (l[i]).out.length ≤ 1000000) (h12 : (l[i]).ins.length ≤ 12) (hil : i ≤ 1000000) (hself : Ru.needs l i i = false) (hds : ∀ k ∈ ds, k < l.length ∧ Ru.needs l k i = false) (hlen : ds.length < 1000000) {sb : Nat} {L' : Lay}
    (hN : NewS es W0 wr (fun k => k ∈ ds) L ru (fun k => (ru k).ins.map (inpOf l fs)) i sb ((ru i).ins.map (inpOf l fs)) ((ru i).ins.map (inpOf l fs)) L' w2) :
    ∃ w3, (Instr.mapUpdate 181 (.map (some bm)) (.int .i64 (i : Nat)) (Ptr sb)).run Tryz.prog w2 = .ok () w3 ∧ Below W0.heap.size W0 w3 ∧ ∃ w4, (Instr.mapUpdate 231 (.map (some mb)) (.string (ba (l[i]).out)) (Ptr sb)).run Tryz.prog w3 = .ok () w4 ∧ OfS es W0 l fs ru bm mb (ds ++ [i]) L' w4 := by
  have hml : ds.length < maxLen := by unfold maxLen; omega
  have hnb := h.made.notMap h.smap.isMap
  have hnm := h.made.notMap h.mmap.isMap
  have s2 := h.smap.same (hN.only.block bm h.smap.lt hnb)
  have m2 := h.mmap.same (hN.only.block mb h.mmap.lt hnm)
  obtain ⟨w3, r3, s3, t3⟩ := s2.laid hml i sb hil
  have m3 := m2.same (t3.grown.block mb m2.lt (by simpa using h.ne.symm))
  have k3 := hN.made.turned s2.isMap h.lb t3
  obtain ⟨w4, r4, m4, t4⟩ := m3.laid hml (l[i]).out hio sb
  have s4 := s3.same (t4.grown.block bm s3.lt (by simpa using h.ne))
  have k4 := k3.turned m3.isMap h.lm t4
  have hmem : ∀ k, (k ∈ ds ∨ k = i) ↔ k ∈ ds ++ [i] := fun k => by simp
  refine ⟨w3, r3, k3.base, w4, r4, ?_, ?_, ?_, ?_, ?_, h.ne, h.lb, h.lm⟩
  · refine k4.congrI hmem fun k hk => ?_
    by_cases e : k = i
    · subst e
      rw [updN_same]
    · rw [updN_other e]
  · have e : (fun k => k ∈ ds ∨ k = i) = fun k => k ∈ ds ++ [i] := funext fun k => propext (hmem k)
    rw [List.length_append, List.length_singleton, hN.sp, ← e]
    exact s4
  · have e : (fun y => if y = (l[i]).out then some sb else mkD l ds L.sp y) = mkD l (ds ++ [i]) L'.sp := by
      funext y
      by_cases hy : y = (l[i]).out
      · rw [if_pos hy]
        unfold mkD
        rw [hy, show Bf.mkr l (l[i]).out = some i from Ru.mkr_eq hA hi]
        simp only [List.mem_append, List.mem_singleton, or_true, if_true]
        rw [hN.sp, updN_same]
      · rw [if_neg hy]
        unfold mkD
        cases hm : Bf.mkr l y with
        | none => rfl
        | some j =>
          obtain ⟨hj, e1, _⟩ := Ru.mkr_some (show Ru.mkr l y = some j from hm)
          have hji : j ≠ i := fun e => hy (by subst e; exact e1.symm)
          simp only [List.mem_append, List.mem_singleton, hji, or_false]
          rw [hN.sp, updN_other hji]
    rw [List.length_append, List.length_singleton, ← e]
    exact m4
  · intro k hk j
    rcases List.mem_append.1 hk with hk | hk
    · rw [hN.us k hk, h.us k hk, List.mem_append, List.mem_singleton]
      have hin : Inp.rule k ∈ (ru i).ins.map (inpOf l fs) ↔ Ru.needs l i k = true := by
        have hkl := (hds k hk).1
        rw [Ru.needs_eq hi hkl, hru i hi, List.mem_map]
        constructor
        · rintro ⟨x, hx, e⟩
          unfold inpOf at e
          split at e
          · rename_i q hq
            obtain ⟨_, e1, _⟩ := Ru.mkr_some (show Ru.mkr l x = some q from hq)
            have : q = k := by simpa using e
            subst this
            rw [e1]
            simpa using hx
          · split at e <;> cases e
        · intro hx
          refine ⟨l[k].out, by simpa using hx, ?_⟩
          unfold inpOf
          rw [show Bf.mkr l l[k].out = some k from Ru.mkr_eq hA hkl]
      rw [hin]
      constructor
      · rintro (⟨h1, h2⟩ | ⟨h1, h2⟩)
        · exact ⟨.inl h1, h2⟩
        · exact ⟨.inr h1, by rw [h1]; exact h2⟩
      · rintro ⟨h1 | h1, h2⟩
        · exact .inl ⟨h1, h2⟩
        · exact .inr ⟨h1, by rw [h1] at h2; exact h2⟩
    · obtain rfl := List.mem_singleton.1 hk
      rw [hN.usi]
      constructor
      · intro h1; cases h1
      · rintro ⟨h1, h2⟩
        rcases List.mem_append.1 h1 with h1 | h1
        · rw [(hds j h1).2] at h2
          cases h2
        · rw [List.mem_singleton.1 h1, hself] at h2
          cases h2
  · intro k hk
    rw [List.length_append, List.length_singleton]
    rcases List.mem_append.1 hk with hk | hk
    · have h1 := hN.usl k hk
      have h2 := h.usl k hk
      rw [List.length_map, hru i hi] at h1
      omega
    · rw [List.mem_singleton.1 hk, hN.usi]
      simp
end Go.Proofs.YtflbofdpfgkmcaaGreatDoor
namespace Go.Proofs.YtflbofdpfgkmcaaGreatDoor
open Go.RowKit Go.Shelf Go.Lib Go.Maps
theorem nodup_inj {l : List Nat} (h : l.Nodup) {i j : Nat} (hi : i < l.length) (hj : j < l.length) (e : l[i] = l[j]) : i = j := by
  have hp := List.pairwise_iff_getElem.1 h
  rcases Nat.lt_trichotomy i j with h1 | h1 | h1
  · exact absurd e (hp i j hi hj h1)
  · exact h1
  · exact absurd e.symm (hp j i hj hi h1)
abbrev ruOf (l : List Ru) (k : Nat) : Ru := l.getD k ⟨[], [], [], []⟩
set_option maxRecDepth 100000 in
set_option maxHeartbeats 16000000 in
theorem stepsOf_calls {es : Nat → Addr} {W0 : World} {Bt tb : Nat} {fs : Tf.Fs} {o : Option Nat} (hT : TreeAt Bt W0 tb fs o) (lv : Value) (l : List Ru) (hrow : RRow W0 lv l) (hl : l.length ≤ 40) (hS : ∀ x ∈ l, x.Small) (hA : Ru.Apart l) (ov : Value) (ord : List Nat) (hord : NIRow W0 ov ord) (ht : Ru.Topo l ord) (hnd : ord.Nodup) (hol : ∀ i ∈ ord, i < l.length) :
    Calls Tryz.prog 106 #[Ptr tb, lv, ov] W0 fun e w' => ∃ bm mb L, e = .returned (.map (some bm)) ∧ OfS es W0 l fs (ruOf l) bm mb ord L w' := by
  have hlen : ord.length ≤ l.length := len_le hnd hol
  have hmm := @run_makeMap Tryz.prog
  have HT := hid1 hT
  have HS := hid1 hS
  have HA := hid1 hA
  have HTo := hid1 ht
  have HNd := hid1 hnd
  have HOl := hid1 hol
  have hru : ∀ k (hk : k < l.length), ruOf l k = l[k] := fun k hk => by simp [ruOf, hk]
  have HRu := hid1 hru
  obtain ⟨po, co, rfl, hoc⟩ := hord
  obtain ⟨pl, cl, rfl, hcl, hnl, hlc⟩ := hrow
  have HOc := hid1 hoc
  have HLc := hid1 hlc
  have zo : (ord.length : Int) ≤ 1000 := by omega
  have zl : (l.length : Int) ≤ 1000 := by omega
  have HS0 := hid1 (OfS.start es W0 l fs (ruOf l) ⟨fun _ => 0, fun _ => .slice none 0 0, fun _ => .slice none 0 0, fun _ => []⟩)
  clear hT hS hA ht hnd hol hoc hlc hru hnl hcl
  go_enter Tryz.func106, Tryz.ntmps106
  go_wp2
  go_loopw [16] (fun iv wr => ∃ (m : Nat) (L : Lay), m ≤ ord.length ∧ iv = .int .i64 m ∧ OfS es W0 l fs (ruOf l) W0.heap.size (W0.heap.size + 1) (ord.take m) L wr) (fun iv _ => ord.length - (intOf iv).toNat)
  case atStart => exact ⟨0, _, Nat.zero_le _, rfl, HS0.out⟩
  case round =>
    clear HS0
    obtain ⟨m, L, hm, rfl, hN⟩ := hrel
    have HN := hid1 hN
    clear hN
    have m0 : (0 : Int) ≤ (m : Int) := by omega
    by_cases hlt : m < ord.length
    · have m1 : (m : Int) < (ord.length : Int) := by omega
      obtain ⟨g1, o1, rfl, hg1, hc1⟩ := HOc.out (by intro e; rw [e] at hlt; simp at hlt)
      have d0 := (HN.out.made.base.cell (p := ⟨g1, o1 + m, none⟩) hg1).trans (hc1 m hlt)
      have hil : ord[m] < l.length := HOl.out _ (List.getElem_mem hlt)
      have hnot : ord[m] ∉ ord.take m := fun e => by
        obtain ⟨j, hj, ej⟩ := List.mem_take_iff_getElem.1 e
        have := nodup_inj HNd.out _ _ ej
        omega
      have htk : ord.take (m + 1) = ord.take m ++ [ord[m]] := List.take_succ_eq_append_getElem hlt
      have HTk := hid1 htk
      have HTm := hid1 fun k (hn : Ru.needs l ord[m] k = true) => HTo.out m hlt k hn
      have HBk : Hid (∀ k ∈ ord.take m, k < l.length ∧ Ru.needs l k ord[m] = false) := hid1 fun k hk => by
        obtain ⟨j, hj, ej⟩ := List.mem_take_iff_getElem.1 hk
        refine ⟨HOl.out k (List.mem_of_mem_take hk), ?_⟩
        rw [Bool.eq_false_iff]
        intro hn
        rw [← ej] at hn
        have h1 := HTo.out j (by omega) _ hn
        obtain ⟨j', hj', ej'⟩ := List.mem_take_iff_getElem.1 h1
        have := nodup_inj HNd.out _ _ ej'
        omega
      have hself : Ru.needs l ord[m] ord[m] = false := by
        rw [Bool.eq_false_iff]
        intro hn
        exact hnot (HTo.out m hlt _ hn)
      have hdl : (ord.take m).length = m := by simp; omega
      clear hc1 htk
      generalize ord[m] = i at *
      have i0 : (0 : Int) ≤ (i : Int) := by omega
      have i1 : (i : Int) < (l.length : Int) := by omega
      obtain ⟨g2, o2, rfl, hg2, hc2⟩ := HLc.out (by intro e; rw [e] at hil; simp at hil)
      obtain ⟨b0, b1, b2, u, b3, hu⟩ := hc2 i hil
      have hb := HN.out.made.base
      have c0 := cell_below' b0 hb
      have c1 := cell_below' b1 hb
      have c2 := cell_below' b2 hb
      have c3 := cell_below' b3 hb
      have hsm := HS.out _ (List.getElem_mem hil)
      have HNw := newStep_calls (es := es) (i := i) HN.out.made hnot HT.out u (by rw [HRu.out i hil]; exact hu) (by rw [HRu.out i hil]; exact hsm.many) (by rw [HRu.out i hil]; exact fun x hx => by have := hsm.ins x hx; omega) HN.out.mmap (inpOf l fs) (by
        rw [HRu.out i hil]
        intro x hx
        unfold inpOf mkD
        cases hmk : Bf.mkr l x with
        | some k =>
          obtain ⟨hk, e1, _⟩ := Ru.mkr_some (show Ru.mkr l x = some k from hmk)
          have hin := HTm.out k (by rw [Ru.needs_eq hil hk, e1]; simpa using hx)
          exact .inl ⟨k, rfl, hin, by simp only; rw [if_pos hin]⟩
        | none =>
          cases hg : Tf.get fs x with
          | some b => exact .inr (.inl ⟨rfl, b, rfl, rfl⟩)
          | none => exact .inr (.inr ⟨rfl, rfl, rfl⟩)) (fun k hk => by have := HN.out.usl k hk; omega)
      have HNx := hid1 fun w2 sb L' hN2 => HN.out.next (w2 := w2) (sb := sb) (L' := L') HRu.out HA.out hil hnot (by have := hsm.out; omega) hsm.many (by omega) hself HBk.out (by omega) hN2
      rw [HRu.out i hil] at HNw HNx
      have HNw := hid1 HNw
      obtain ⟨pu, cu, rfl, -⟩ := hu
      have HB0 := hid1 b0
      have HG2 := hid1 hg2
      clear hsm hb hc2 b0 b1 b2 b3 HLc HOc HN hnot hself HBk HTm hdl
      generalize hri : l[i] = r at *
      clear hri
      go_wp2_with fail
      refine HNw.out.mono ?_
      rintro e w2 ⟨sb, L', rfl, hsb, hN2⟩
      obtain ⟨w3, r3, b3, w4, r4, hN4⟩ := HNx.out w2 sb L' hN2
      have HN4 := hid1 hN4
      have e0 := cell_below' HB0.out b3
      clear HNw HNx hN2 hN4 b3
      go_wp2
      exact ⟨⟨m + 1, _, by omega, by go_num, by rw [HTk.out]; exact HN4.out⟩, by simp [intOf]; omega⟩
    · have m1 : (ord.length : Int) ≤ (m : Int) := by omega
      have HN2 : Hid (OfS es W0 l fs (ruOf l) W0.heap.size (W0.heap.size + 1) ord L wr) := hid1 (by
        have := HN.out
        rwa [List.take_of_length_le (by omega)] at this)
      clear HN HLc HOc
      go_wp2
      go_ret
      exact ⟨_, _, L, rfl, HN2.out⟩
end Go.Proofs.YtflbofdpfgkmcaaGreatDoor
namespace Go.Proofs.YtflbofdpfgkmcaaGreatDoor
open Go.RowKit Go.Shelf Go.Lib Go.Maps
def Inp.get (st : Nat → Bf.St) : Inp → Option (List UInt8)
  | .rule k => some (st k).out
  | .file b => some b
  | .gone => none
def gat (st : Nat → Bf.St) : List Inp → Option (List (List UInt8))
  | [] => some []
  | x :: r => match x.get st with
    | none => none
    | some b => (gat st r).map (b :: ·)
theorem gat_snoc (st : Nat → Bf.St) : ∀ (a : List Inp) (x : Inp) {o : List (List UInt8)}, gat st a = some o → gat st (a ++ [x]) = (x.get st).map fun b => o ++ [b]
  | [], x, o, h => by
    cases h
    show gat st [x] = _
    unfold gat gat
    cases x.get st <;> rfl
  | y :: r, x, o, h => by
    unfold gat at h
    rw [List.cons_append]
    unfold gat
    cases hy : y.get st with
    | none => rw [hy] at h; cases h
    | some b =>
      rw [hy] at h
      cases hr : gat st r with
      | none => rw [hr] at h; cases h
      | some q =>
        rw [hr] at h
        obtain rfl : b :: q = o := by simpa using h
        have := gat_snoc st r x hr
        simp only [this]
        cases x.get st <;> rfl
theorem gat_bad (st : Nat → Bf.St) : ∀ (a : List Inp) (r : List Inp), gat st (a ++ .gone :: r) = none
  | [], r => rfl
  | y :: a, r => by
    rw [List.cons_append]
    unfold gat
    cases y.get st with
    | none => rfl
    | some b => simp only [gat_bad st a r]; rfl
theorem gat_len (st : Nat → Bf.St) : ∀ {a : List Inp} {o : List (List UInt8)}, gat st a = some o → o.length = a.length
  | [], o, h => by cases h; rfl
  | y :: r, o, h => by
    unfold gat at h
    cases hy : y.get st with
    | none => rw [hy] at h; cases h
    | some b =>
      rw [hy] at h
      cases hr : gat st r with
      | none => rw [hr] at h; cases h
      | some q =>
        rw [hr] at h
        obtain rfl : b :: q = o := by simpa using h
        simp [gat_len st hr]
theorem get_inpOf (d : Bf.Bd) (x : List UInt8) : (inpOf d.l d.fs x).get d.st = d.bytes x := by
  unfold inpOf Bf.Bd.bytes
  cases Bf.mkr d.l x with
  | some k => rfl
  | none => cases Tf.get d.fs x <;> rfl
theorem gat_insOf (d : Bf.Bd) (i : Nat) : gat d.st (insOf d i) = d.ins i := by
  unfold insOf Bf.Bd.ins
  generalize (d.rule i).ins = l
  induction l with
  | nil => rfl
  | cons x r ih =>
    rw [List.map_cons]
    unfold gat Bf.inB
    rw [get_inpOf, ih]
    cases d.bytes x <;> rfl
set_option maxRecDepth 100000 in
set_option maxHeartbeats 8000000 in
theorem stgather_calls {W : World} {es : Nat → Addr} {dom : Nat → Prop} {L : Lay} {ru : Nat → Ru} {ins : Nat → List Inp} {st : Nat → Bf.St} (h : Steps W es dom L ru ins st) (i : Nat) (hi : dom i) (hl : (ins i).length ≤ 1000) :
    Calls Tryz.prog 159 #[Ptr (L.sp i)] W fun e w' => Below W.heap.size W w' ∧ ((gat st (ins i) = none ∧ e = .returned (.tuple #[.slice none 0 0, .bool false])) ∨ ∃ xs v, gat st (ins i) = some xs ∧ e = .returned (.tuple #[v, .bool true]) ∧ w'.ownsRow W.heap.size 9 1 v xs.length (xs.map sv)) := by
  have c2 := (h.at hi).c2
  obtain ⟨p, cap, e2, hin⟩ := BRow.of_owns (h.insR i hi)
  rw [e2] at c2
  have HI := hid1 hin
  have HSt := hid1 h
  have zl : ((ins i).length : Int) ≤ 1000 := by omega
  obtain ⟨i0, hti, hz0, hz1, hz2⟩ := info_parts Tryz.infoStr
  clear h hin e2
  go_enter Tryz.func159, Tryz.ntmps159
  go_wp2
  clear c2
  go_loopw [4, 12] (fun lv iv wr => ∃ (k : Nat) (xs : List (List UInt8)), k ≤ (ins i).length ∧ iv = .int .i64 k ∧ gat st ((ins i).take k) = some xs ∧ wr.ownsRow W.heap.size 9 1 lv xs.length (xs.map sv) ∧ Below W.heap.size W wr) (fun _ iv _ => (ins i).length - (intOf iv).toNat)
  case atStart => exact ⟨0, [], Nat.zero_le _, rfl, rfl, World.ownsRow_nil _ _ _ _, Below.refl _ _⟩
  case round =>
    obtain ⟨k, xs, hk, rfl, hg, hrow, hB⟩ := hrel
    have hxl := gat_len st hg
    have hxl2 : xs.length ≤ 1000 := by rw [hxl]; simp; omega
    have HG := hid1 hg
    have HRow := hid1 hrow
    clear hg hxl hrow
    have k0 : (0 : Int) ≤ (k : Int) := by omega
    by_cases hlt : k < (ins i).length
    · have k1 : (k : Int) < ((ins i).length : Int) := by omega
      obtain ⟨g, rfl, hgl, hc⟩ := HI.out (by intro e; rw [e] at hlt; simp at hlt)
      obtain ⟨u0, u1, u2⟩ := hc k hlt
      have d0 := cell_below' u0 hB
      have d1 := cell_below' u1 hB
      have d2 := cell_below' u2 hB
      have hT : (ins i).take (k + 1) = (ins i).take k ++ [(ins i)[k]] := List.take_succ_eq_append_getElem hlt
      have hBad : Hid ((ins i)[k] = .gone → gat st (ins i) = none) := hid1 fun e => by
        have := gat_bad st ((ins i).take k) ((ins i).drop (k + 1))
        rwa [← e, ← List.drop_eq_getElem_cons hlt, List.take_append_drop] at this
      have hmem : (ins i)[k] ∈ ins i := List.getElem_mem hlt
      have HS := hid1 (gat_snoc st _ (ins i)[k] HG.out)
      rw [← hT] at HS
      have hD := HSt.out.insD i hi
      clear hT hc u0 u1 u2 HI HG
      have hml : xs.length + 1 ≤ maxLen := by unfold maxLen; omega
      have hbz := hB.size
      generalize (ins i)[k] = y at *
      cases y with
      | rule j =>
        have hj := hD j hmem
        have c5 := ((HSt.out.below hB).at hj).c5
        have c5' : (wr.alloc (.cells #[Ptr (L.sp j), .string (ba []), .bool false] 235)).cell? ⟨L.sp j, 5, none⟩ = some (.string (ba (st j).out)) := cell_below' c5 ((Below.refl _ wr).alloc (Nat.le_refl _) _)
        have hB1 : Below W.heap.size W (wr.alloc (.cells #[Ptr (L.sp j), .string (ba []), .bool false] 235)) := hB.alloc hbz _
        have hrow1 := HRow.out.alloc (.cells #[Ptr (L.sp j), .string (ba []), .bool false] 235)
        have hjl := lt_of_cell c5
        simp only at hjl
        simp only [Inp.from, Inp.text, Inp.there] at d0 d1 d2
        simp only [Inp.get, Option.map_some] at HS
        clear hD hBad HRow hmem
        generalize (st j).out = o at *
        go_wp2_with (first
          | (at_builtin; refine wpList_append_own _ rfl _ _ 45 rfl W.heap.size 9 i0 (.string ⟨#[]⟩) 1 16 Tryz.underlying45 hti hz0 hz1 hz2 rfl (by decide) _ _ _ rfl (hrow1.alloc _) ⟨wr.heap.size + 1, 0, none⟩ 1 1 [sv o] rfl rfl (one_new _ _ _ _ (by simp)) (by simp [Value.oneCell']) hml (by omega) (by simp; omega) ?_; intro v' w4 hown' hgrow _)
          | go_in)
        exact ⟨⟨k + 1, xs ++ [o], by omega, by go_num, HS.out, by rw [List.length_append, List.map_append]; exact hown', below_appended hB1 (by simp; omega) hrow1 hgrow⟩, by simp [intOf]; omega⟩
      | file b =>
        have hB1 : Below W.heap.size W (wr.alloc (.cells #[.pointer none, .string (ba b), .bool true] 235)) := hB.alloc hbz _
        have hrow1 := HRow.out.alloc (.cells #[.pointer none, .string (ba b), .bool true] 235)
        simp only [Inp.from, Inp.text, Inp.there] at d0 d1 d2
        simp only [Inp.get, Option.map_some] at HS
        clear hD hBad HRow hmem
        go_wp2_with (first
          | (at_builtin; refine wpList_append_own _ rfl _ _ 45 rfl W.heap.size 9 i0 (.string ⟨#[]⟩) 1 16 Tryz.underlying45 hti hz0 hz1 hz2 rfl (by decide) _ _ _ rfl (hrow1.alloc _) ⟨wr.heap.size + 1, 0, none⟩ 1 1 [sv b] rfl rfl (one_new _ _ _ _ (by simp)) (by simp [Value.oneCell']) hml (by omega) (by simp; omega) ?_; intro v' w4 hown' hgrow _)
          | go_in)
        exact ⟨⟨k + 1, xs ++ [b], by omega, by go_num, HS.out, by rw [List.length_append, List.map_append]; exact hown', below_appended hB1 (by simp; omega) hrow1 hgrow⟩, by simp [intOf]; omega⟩
      | gone =>
        have hB1 : Below W.heap.size W (wr.alloc (.cells #[.pointer none, .string (ba []), .bool false] 235)) := hB.alloc hbz _
        have HN := hid1 (hBad.out rfl)
        simp only [Inp.from, Inp.text, Inp.there] at d0 d1 d2
        clear hD hBad HRow hmem HS
        go_wp2
        go_ret2
        exact ⟨hB1, .inl ⟨HN.out, rfl⟩⟩
    · have k1 : ((ins i).length : Int) ≤ (k : Int) := by omega
      have HG2 : Hid (gat st (ins i) = some xs) := hid1 (by
        have := HG.out
        rwa [List.take_of_length_le (by omega)] at this)
      obtain ⟨pv, cv, rfl⟩ := own_val HRow.out
      clear HG
      go_wp2
      go_ret2
      exact ⟨hB, .inr ⟨xs, _, HG2.out, rfl, HRow.out⟩⟩
end Go.Proofs.YtflbofdpfgkmcaaGreatDoor
