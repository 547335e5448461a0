import Derived.Test.YtmhipgompplkdaaGreatDoorWL36
import Derived.Test.YtmhipgompplkdaaGreatDoorWL41
import Derived.Test.YtmhipgompplkdaaGreatDoorWL37
import Derived.Test.YtmhipgompplkdaaGreatDoorWL21
import Derived.Test.YtmhipgompplkdaaGreatDoorWL20
import Derived.Test.YtmhipgompplkdaaGreatDoorWL31
import Derived.Test.YtmhipgompplkdaaGreatDoorWL32
import Derived.Test.YtmhipgompplkdaaGreatDoorWL07
import Derived.Shelf.Strings.BuilderK
import Derived.Lib.SmallJoins
import Derived.Lib.ItoaLen
import Derived.Sort.Grow
import Derived.Test.YtmhipgompplkdaaGreatDoorWL16
namespace Go.Proofs.YtmhipgompplkdaaGreatDoor
open Go.RowKit Go.Shelf Go.Lib Go.Maps
theorem lw_want : Bf.want Af.actO Lb.fs Lb.l [98] = ([88], 0) := by decide
theorem lw_get {es : Nat → Addr} {w : World} {s : List UInt8} {ev : Value} (h : OfTells es Lb.fs Lb.l [98] w s ev) : s = [88] ∧ ev = .nilIface := by
  rcases h with ⟨h1, _⟩ | ⟨_, h2, _⟩ | ⟨_, _, h3, _⟩ | ⟨_, _, _, h4, h5⟩
  · exact absurd Lb.fault0 h1
  · exact absurd rfl (h2 Lb.r (by simp))
  · have := Lb.order0
    rw [h3] at this
    cases this
  · rw [lw_want] at h4 h5
    exact ⟨h4, h5⟩
theorem lw_rows (w : World) :
    RRow ((w.alloc (.cells #[.string ⟨#[97]⟩] 9)).alloc (.cells #[.string ⟨#[98]⟩, .string ⟨#[117, 112, 112, 101, 114]⟩, .string ⟨#[]⟩, .slice (some ⟨w.heap.size, 0, none⟩) 1 1] 90)) (.slice (some ⟨w.heap.size + 1, 0, none⟩) 1 1) Lb.l ∧
    Below w.heap.size w ((w.alloc (.cells #[.string ⟨#[97]⟩] 9)).alloc (.cells #[.string ⟨#[98]⟩, .string ⟨#[117, 112, 112, 101, 114]⟩, .string ⟨#[]⟩, .slice (some ⟨w.heap.size, 0, none⟩) 1 1] 90)) := by
  obtain ⟨w1, h1⟩ : ∃ w1, w1 = w.alloc (.cells #[.string ⟨#[97]⟩] 9) := ⟨_, rfl⟩
  obtain ⟨w2, h2⟩ : ∃ w2, w2 = w1.alloc (.cells #[.string ⟨#[98]⟩, .string ⟨#[117, 112, 112, 101, 114]⟩, .string ⟨#[]⟩, .slice (some ⟨w.heap.size, 0, none⟩) 1 1] 90) := ⟨_, rfl⟩
  have z1 : w1.heap.size = w.heap.size + 1 := by rw [h1]; simp
  have z2 : w2.heap.size = w.heap.size + 2 := by rw [h2]; simp; omega
  have b1 : Below w.heap.size w w1 := by rw [h1]; exact (Below.refl _ w).alloc (Nat.le_refl _) _
  have b2 : Below w1.heap.size w1 w2 := by rw [h2]; exact (Below.refl _ w1).alloc (Nat.le_refl _) _
  have r1 : w1.heap[w.heap.size]? = some (.cells #[.string ⟨#[97]⟩] 9) := by rw [h1]; exact row_newW _ _
  have r2 : w2.heap[w.heap.size + 1]? = some (.cells #[.string ⟨#[98]⟩, .string ⟨#[117, 112, 112, 101, 114]⟩, .string ⟨#[]⟩, .slice (some ⟨w.heap.size, 0, none⟩) 1 1] 90) := by rw [h2, ← z1]; exact row_newW _ _
  have s1 := row_below r1 b2
  rw [← h1, ← h2]
  refine ⟨⟨_, _, rfl, Nat.le_refl _, (fun e => by cases e), fun _ => ⟨_, _, rfl, by omega, fun j hj => ?_⟩⟩, below_then b1 b2⟩
  obtain rfl : j = 0 := by simp at hj; omega
  exact ⟨cell_of_row (j := 0) r2 rfl, cell_of_row (j := 1) r2 rfl, cell_of_row (j := 2) r2 rfl, _, cell_of_row (j := 3) r2 rfl, ⟨_, _, rfl, Nat.le_refl _, (fun e => by cases e), fun _ => ⟨_, _, rfl, by omega, fun j hj => by
    obtain rfl : j = 0 := by simp at hj; omega
    exact cell_of_row (j := 0) s1 rfl⟩⟩⟩
set_option maxRecDepth 100000 in
set_option maxHeartbeats 16000000 in
theorem wanted_calls {es : Nat → Addr} {W : World} (hW : WantW W es) (hE : TErr W (erOf es)) :
    Calls Tryz.prog 75 #[] W fun e w' => e = .returned (.bool true) ∧ Below W.heap.size W w' := by
  have HW := hid1 hW
  have HE := hid1 hE
  have HT := hid1 (New_calls W)
  clear hW hE
  go_enter Tryz.func75, Tryz.ntmps75
  go_wp2_with fail
  refine HT.out.mono ?_
  rintro e w1 ⟨rfl, hT1, g1⟩
  have hp1 : pathB [97] = true := by rw [pathB_R]; decide
  have hcode : Tf.putCode pathB [] [97] [120] = 0 := by simp [Tf.putCode, hp1]; decide
  have hput : Tf.putF pathB [] [97] [120] = Lb.fs := by
    unfold Tf.putF
    rw [if_pos hcode]
    rfl
  have HP := PutK_calls hT1 (HE.out.below g1) (by simp) (by simp) [97] [120] (by simp)
  rw [hcode, hput, show erOf es 0 = Value.nilIface from rfl] at HP
  have HPt := hid1 HP
  clear HT hT1 HP hp1 hcode hput
  go_wp2_with fail
  refine HPt.out.mono ?_
  rintro e w3 ⟨rfl, ⟨o3, -, hT3⟩, g3, k3⟩
  have G3 : Below W.heap.size W w3 := g1.trans g3
  obtain ⟨hR5, g5⟩ := lw_rows w3
  have G5 := G3.trans (g5.mono G3.size)
  have HOf := hid1 (wOf_calls (HW.out.below G5) (hT3.below g5) (fun x b hb => by
    have := Bf.get_mem hb
    simp only [List.mem_singleton, Prod.mk.injEq] at this
    rw [this.2]; simp) _ Lb.l hR5 (by simp) lb_small [98] (by simp))
  clear HPt hT3 k3 hR5 g3 g1
  go_wp2_with fail
  refine HOf.out.mono ?_
  rintro e w6 ⟨s, ev, rfl, g6, hT6⟩
  obtain ⟨rfl, rfl⟩ := lw_get hT6
  have G6 := G5.trans (g6.mono G5.size)
  clear HOf hT6 g6
  go_wp2
  go_ret
  exact ⟨rfl, G6⟩
end Go.Proofs.YtmhipgompplkdaaGreatDoor
namespace Go.Proofs.YtmhipgompplkdaaGreatDoor
namespace Ru
inductive Rch (l : List Ru) (outs : List (List UInt8)) : Nat → Prop where
  | base {k : Nat} : base l outs k = true → Rch l outs k
  | step {i k : Nat} : Rch l outs i → needs l i k = true → Rch l outs k
open Classical in
theorem needed_is (l : List Ru) (outs : List (List UInt8)) : ∃ f, Needed l outs f := by
  refine ⟨fun k => decide (Rch l outs k), fun k hk => decide_eq_true (.base hk), fun i k hi hn => ?_, fun P h1 h2 k _ hk => ?_⟩
  · have hi' : decide (Rch l outs i) = true := hi
    exact decide_eq_true (.step (of_decide_eq_true hi') hn)
  · have hk' : decide (Rch l outs k) = true := hk
    have := of_decide_eq_true hk'
    induction this with
    | base hb => exact h1 _ hb
    | step h hn ih =>
      have hl := (needs_lt hn).1
      exact h2 _ _ (ih hl (decide_eq_true h) (decide_eq_true h)) hn
end Ru
end Go.Proofs.YtmhipgompplkdaaGreatDoor
namespace Go.Proofs.YtmhipgompplkdaaGreatDoor
namespace Bf
theorem Wanted.part {act : Act} {fs fs' : Tf.Fs} {l p : List Ru} {f g : List UInt8 → List UInt8 × Nat} {N N' : Nat → Prop} (hf : Wanted act fs l N f) (hg : Wanted act fs' p N' g) {r : Nat → Nat} (hr : ∀ i k, N i → Ru.needs l i k = true → r k < r i)
    (hcl : ∀ i k, N i → Ru.needs l i k = true → N k)
    (hp : ∀ x i, mkr l x = some i → N i → ∃ j, mkr p x = some j ∧ N' j ∧ p.getD j ⟨[], [], [], []⟩ = l.getD i ⟨[], [], [], []⟩)
    (hno : ∀ x i (hi : i < l.length), N i → x ∈ l[i].ins → mkr l x = none → mkr p x = none ∧ Tf.get fs x = Tf.get fs' x) : ∀ x i, mkr l x = some i → N i → f x = g x := by
  have main : ∀ n i, r i < n → N i → ∀ x, mkr l x = some i → f x = g x := by
    intro n
    induction n with
    | zero => intro i h; omega
    | succ n ih =>
      intro i hi hN x hx
      obtain ⟨j, hj, hNj, ej⟩ := hp x i hx hN
      rw [hf.rule x i hx hN, hg.rule x j hj hNj, ej]
      obtain ⟨hk, _⟩ := mkr_of hx
      rw [getD_at hk]
      refine wrule_congr fun y hy => ?_
      cases hm : mkr l y with
      | none =>
        obtain ⟨h1, h2⟩ := hno y i hk hN hy hm
        cases hb : Tf.get fs y with
        | none => rw [hf.lacks y hm hb, hg.lacks y h1 (h2 ▸ hb)]
        | some b => rw [hf.file y b hm hb, hg.file y b h1 (h2 ▸ hb)]
      | some q =>
        obtain ⟨hq, eq⟩ := mkr_of hm
        have hn : Ru.needs l i q = true := by
          rw [Ru.needs_eq hk hq, eq]
          exact decide_eq_true hy
        exact ih q (by have := hr i q hN hn; omega) (hcl i q hN hn) y hm
  exact fun x i hx hN => main _ i (Nat.lt_succ_self _) hN x hx
end Bf
end Go.Proofs.YtmhipgompplkdaaGreatDoor
namespace Go.Proofs.YtmhipgompplkdaaGreatDoor
namespace Ru
theorem orderF_none2 {l : List Ru} {some : Nat → Bool} (hs : ∀ i k, some i = true → needs l i k = true → some k = true) : ∀ {f : Nat} {o : List Nat}, orderF l some f o = none → o.Nodup → (∀ i ∈ o, i < l.length) → l.length < f + o.length → ∃ i t, some i = true ∧ Walk l i i (t + 1)
  | 0, o, _, hd, hb, hf => by have := len_le hd hb; omega
  | f + 1, o, h, hd, hb, hf => by
    unfold orderF at h
    split at h
    · rename_i hl
      split at h
      · rename_i hi
        simp only [leftTo, List.any_eq_true, Bool.and_eq_true, Bool.not_eq_true'] at hl
        obtain ⟨i, hil, hsi, hio⟩ := hl
        have hnext : ∀ i, i < l.length ∧ i ∉ o ∧ some i = true → ∃ k, (k < l.length ∧ k ∉ o ∧ some k = true) ∧ needs l i k = true := by
          rintro i ⟨hil, hio, hsi⟩
          have h0 := List.find?_eq_none.1 hi i (List.mem_range.2 hil)
          simp only [may, hsi, Bool.true_and, Bool.and_eq_true, isIn, Bool.not_eq_true', decide_eq_false_iff_not, hio, not_false_eq_true, true_and, freeTo, List.all_eq_true, Bool.or_eq_true] at h0
          simp only [Classical.not_forall] at h0
          obtain ⟨k, hk, hk2⟩ := h0
          simp only [not_or, decide_eq_true_eq] at hk2
          have hn : needs l i k = true := by simpa using hk2.2
          exact ⟨k, ⟨List.mem_range.1 hk, hk2.1, hs i k hsi hn⟩, hn⟩
        have hg : ∃ g : Nat → Nat, g 0 = i ∧ ∀ a, (g a < l.length ∧ g a ∉ o ∧ some (g a) = true) ∧ needs l (g a) (g (a + 1)) = true := by
          let nx : {i // i < l.length ∧ i ∉ o ∧ some i = true} → {i // i < l.length ∧ i ∉ o ∧ some i = true} := fun x => ⟨Classical.choose (hnext x.1 x.2), (Classical.choose_spec (hnext x.1 x.2)).1⟩
          let st : {i // i < l.length ∧ i ∉ o ∧ some i = true} := ⟨i, List.mem_range.1 hil, by simpa [isIn] using hio, hsi⟩
          refine ⟨fun a => (Nat.rec st (fun _ x => nx x) a : {i // i < l.length ∧ i ∉ o ∧ some i = true}).1, rfl, fun a => ⟨(Nat.rec st (fun _ x => nx x) a : {i // i < l.length ∧ i ∉ o ∧ some i = true}).2, ?_⟩⟩
          exact (Classical.choose_spec (hnext _ (Nat.rec st (fun _ x => nx x) a : {i // i < l.length ∧ i ∉ o ∧ some i = true}).2)).2
        obtain ⟨g, _, hgn⟩ := hg
        obtain ⟨a, b, hab, _, e⟩ := pigeon (n := l.length) (g := g) fun t _ => (hgn t).1.1
        have sub : ∀ (d a : Nat), Walk l (g a) (g (a + d)) d := by
          intro d
          induction d with
          | zero => intro a; exact .zero _
          | succ d ih =>
            intro a
            have := ih (a + 1)
            rw [show a + 1 + d = a + (d + 1) by omega] at this
            exact .step (hgn a).2 this
        have := sub (b - a) a
        rw [show a + (b - a) = b by omega, ← e] at this
        exact ⟨g a, b - a - 1, (hgn a).1.2.2, by rw [show b - a - 1 + 1 = b - a by omega]; exact this⟩
      · rename_i i hi
        obtain ⟨hil, hm⟩ := nextTo_some hi
        have hio : i ∉ o := by
          simp only [may, Bool.and_eq_true, Bool.not_eq_true', isIn, decide_eq_false_iff_not] at hm
          exact hm.1.2
        refine orderF_none2 hs h ?_ ?_ ?_
        · rw [List.nodup_append]
          exact ⟨hd, by simp, fun a ha b hb => by
            rw [List.mem_singleton.1 hb]
            rintro rfl
            exact hio ha⟩
        · intro j hj
          rcases List.mem_append.1 hj with h1 | h1
          · exact hb j h1
          · rw [List.mem_singleton.1 h1]; exact hil
        · rw [List.length_append, List.length_singleton]; omega
    · cases h
theorem order_none2 {l : List Ru} {some : Nat → Bool} (hs : ∀ i k, some i = true → needs l i k = true → some k = true) (h : order l some = none) : ∃ i t, some i = true ∧ Walk l i i (t + 1) :=
  orderF_none2 hs h List.nodup_nil (by simp) (by simp)
def part (l : List Ru) (ns : List Nat) : List Ru := ns.map fun i => l.getD i ⟨[], [], [], []⟩
structure Nums (l : List Ru) (out : List UInt8) (f : Nat → Bool) (ns : List Nat) : Prop where
  need : Needed l [out] f
  eq : ns = (List.range l.length).filter f
  fine : (fault l).1 = 0
theorem Nums.mem {l : List Ru} {out : List UInt8} {f : Nat → Bool} {ns : List Nat} (h : Nums l out f ns) {i : Nat} : i ∈ ns ↔ i < l.length ∧ f i = true := by
  rw [h.eq, List.mem_filter, List.mem_range]
theorem Nums.len {l : List Ru} {out : List UInt8} {f : Nat → Bool} {ns : List Nat} (h : Nums l out f ns) : (part l ns).length = ns.length ∧ ns.length ≤ l.length := by
  refine ⟨by simp [part], ?_⟩
  rw [h.eq]
  simpa using List.length_filter_le f (List.range l.length)
theorem part_len (l : List Ru) (ns : List Nat) : (part l ns).length = ns.length := by simp [part]
theorem part_at (l : List Ru) (ns : List Nat) {j : Nat} (hj : j < ns.length) (hl : ns[j] < l.length) : (part l ns)[j]'(by rw [part_len]; exact hj) = l[ns[j]] := by
  simp only [part, List.getElem_map]
  exact Bf.getD_at hl
theorem Nums.at {l : List Ru} {out : List UInt8} {f : Nat → Bool} {ns : List Nat} (h : Nums l out f ns) {j : Nat} (hj : j < ns.length) : ns[j] < l.length ∧ f ns[j] = true := h.mem.1 (List.getElem_mem hj)
theorem Nums.nodup {l : List Ru} {out : List UInt8} {f : Nat → Bool} {ns : List Nat} (h : Nums l out f ns) : ns.Nodup := by
  rw [h.eq]; exact List.nodup_range.filter _
theorem Nums.inj {l : List Ru} {out : List UInt8} {f : Nat → Bool} {ns : List Nat} (h : Nums l out f ns) {i j : Nat} (hi : i < ns.length) (hj : j < ns.length) (e : ns[i] = ns[j]) : i = j := by
  have hp := List.pairwise_iff_getElem.1 h.nodup
  rcases Nat.lt_trichotomy i j with h1 | h1 | h1
  · exact absurd e (hp i j hi hj h1)
  · exact h1
  · exact absurd e.symm (hp j i hj hi h1)
theorem Nums.find {l : List Ru} {out : List UInt8} {f : Nat → Bool} {ns : List Nat} (h : Nums l out f ns) {i : Nat} (hi : i < l.length) (hf : f i = true) : ∃ j, ∃ hj : j < ns.length, ns[j] = i := by
  obtain ⟨j, hj, e⟩ := List.getElem_of_mem (h.mem.2 ⟨hi, hf⟩)
  exact ⟨j, hj, e⟩
theorem Nums.part_mem {l : List Ru} {out : List UInt8} {f : Nat → Bool} {ns : List Nat} (h : Nums l out f ns) {r : Ru} (hr : r ∈ part l ns) : r ∈ l := by
  obtain ⟨i, hi, e⟩ := List.mem_map.1 hr
  have := h.mem.1 hi
  rw [Bf.getD_at this.1] at e
  rw [← e]; exact List.getElem_mem this.1
theorem Nums.fault0 {l : List Ru} {out : List UInt8} {f : Nat → Bool} {ns : List Nat} (h : Nums l out f ns) : fault (part l ns) = (0, -1) := by
  obtain ⟨h40, hA⟩ := fault_ok h.fine
  have hlen := h.len
  have he : ∀ i, i < l.length → errAt l i = 0 := fun i hi => by
    have hf := h.fine
    unfold fault at hf
    rw [if_neg (by omega)] at hf
    cases hfi : first (errAt l) l.length with
    | none => exact first_none_zero hfi i hi
    | some k =>
      rw [hfi] at hf
      exact absurd hf (first_some_ne hfi)
  refine fault_none (by omega) fun j hj => ?_
  have hj' : j < ns.length := by omega
  have ha := h.at hj'
  have e0 := he _ ha.1
  rw [errAt_eq ha.1] at e0
  have er : l[ns[j]].err = 0 := by
    by_cases hz : l[ns[j]].err = 0
    · exact hz
    · rw [if_pos hz] at e0; exact absurd e0 hz
  rw [errAt_eq hj]
  have ep := part_at l ns hj' ha.1
  rw [ep, if_neg (by rw [er]; simp)]
  rw [if_neg]
  intro hm
  obtain ⟨r, hr, eo⟩ := List.mem_map.1 hm
  obtain ⟨q, hq, eq⟩ := List.mem_take_iff_getElem.1 hr
  have hq' : q < ns.length := by omega
  have hqa := h.at hq'
  rw [part_at l ns hq' hqa.1] at eq
  have := hA ns[q] ns[j] hqa.1 ha.1 (by rw [eq]; exact eo)
  have := h.inj hq' hj' this
  omega
theorem Nums.needs {l : List Ru} {out : List UInt8} {f : Nat → Bool} {ns : List Nat} (h : Nums l out f ns) {a b : Nat} (ha : a < ns.length) (hb : b < ns.length) : Ru.needs (part l ns) a b = Ru.needs l ns[a] ns[b] := by
  rw [needs_eq (by rw [part_len]; exact ha) (by rw [part_len]; exact hb), needs_eq (h.at ha).1 (h.at hb).1, part_at l ns ha (h.at ha).1, part_at l ns hb (h.at hb).1]
theorem Nums.walk {l : List Ru} {out : List UInt8} {f : Nat → Bool} {ns : List Nat} (h : Nums l out f ns) {a b t : Nat} (hw : Walk (part l ns) a b t) : Walk l (ns.getD a 0) (ns.getD b 0) t := by
  induction hw with
  | zero k => exact .zero _
  | step hn _ ih =>
    obtain ⟨h1, h2⟩ := needs_lt hn
    rw [part_len] at h1 h2
    rw [h.needs h1 h2] at hn
    refine .step ?_ ih
    rw [List.getD_eq_getElem?_getD, List.getD_eq_getElem?_getD, List.getElem?_eq_getElem h1, List.getElem?_eq_getElem h2]
    exact hn
theorem Nums.back {l : List Ru} {out : List UInt8} {f : Nat → Bool} {ns : List Nat} (h : Nums l out f ns) : ∀ {t i k : Nat}, Walk l i k t → ∀ j (hj : j < ns.length), ns[j] = i → ∃ q, ∃ hq : q < ns.length, ns[q] = k ∧ Walk (part l ns) j q t
  | 0, i, k, hw, j, hj, e => by cases hw; exact ⟨j, hj, e, .zero _⟩
  | t + 1, i, k, hw, j, hj, e => by
    obtain ⟨m, hn, hw'⟩ := hw.inv
    have hi := h.at hj
    rw [e] at hi
    have hm := h.need.closed i m hi.2 hn
    obtain ⟨q, hq, eq⟩ := h.find (needs_lt hn).2 hm
    obtain ⟨q', hq', e', hw2⟩ := h.back hw' q hq eq
    refine ⟨q', hq', e', .step ?_ hw2⟩
    rw [h.needs hj hq, e, eq]
    exact hn
theorem Nums.all {l : List Ru} {out : List UInt8} {f : Nat → Bool} {ns : List Nat} (h : Nums l out f ns) {g : Nat → Bool} (hg : Needed (part l ns) [out] g) {j : Nat} (hj : j < ns.length) : g j = true := by
  have key : ∀ i, i < l.length → f i = true → f i = true ∧ ∀ j (hj : j < ns.length), ns[j] = i → g j = true := by
    refine h.need.least (fun i => f i = true ∧ ∀ j (hj : j < ns.length), ns[j] = i → g j = true) (fun k hk => ⟨h.need.start k hk, fun j hj e => ?_⟩) (fun i k hi hn => ⟨h.need.closed i k hi.1 hn, fun j hj e => ?_⟩)
    · refine hg.start j ?_
      unfold base at hk ⊢
      have hl := (h.at hj).1
      rw [List.getElem?_eq_getElem (by rw [part_len]; exact hj), part_at l ns hj hl]
      subst e
      rw [List.getElem?_eq_getElem hl] at hk
      exact hk
    · obtain ⟨hil, hkl⟩ := needs_lt hn
      obtain ⟨q, hq, eq⟩ := h.find hil hi.1
      have := hi.2 q hq eq
      refine hg.closed q j this ?_
      rw [h.needs hq hj, e, eq]
      exact hn
  exact (key ns[j] (h.at hj).1 (h.at hj).2).2 j hj rfl
theorem Nums.needL {l : List Ru} {out : List UInt8} {f : Nat → Bool} {ns : List Nat} (h : Nums l out f ns) {i : Nat} (hi : i < l.length) : Bf.need l [out] i = f i := Bf.need_eq h.need hi
theorem Nums.needP {l : List Ru} {out : List UInt8} {f : Nat → Bool} {ns : List Nat} (h : Nums l out f ns) {j : Nat} (hj : j < ns.length) : Bf.need (part l ns) [out] j = true := by
  obtain ⟨g, hg⟩ := needed_is (part l ns) [out]
  rw [Bf.need_eq hg (by rw [part_len]; exact hj)]
  exact h.all hg hj
theorem need_closed (l : List Ru) (outs : List (List UInt8)) (i k : Nat) (hi : Bf.need l outs i = true) (hn : Ru.needs l i k = true) : Bf.need l outs k = true := by
  obtain ⟨g, hg⟩ := needed_is l outs
  obtain ⟨h1, h2⟩ := needs_lt hn
  rw [Bf.need_eq hg h1] at hi
  rw [Bf.need_eq hg h2]
  exact hg.closed i k hi hn
theorem need_lt {l : List Ru} {outs : List (List UInt8)} {i : Nat} (hi : Bf.need l outs i = true) : i < l.length := by
  refine Nat.lt_of_not_le fun h => ?_
  rw [Bf.need_out h] at hi
  cases hi
theorem Nums.order {l : List Ru} {out : List UInt8} {f : Nat → Bool} {ns : List Nat} (h : Nums l out f ns) : Ru.order (part l ns) (Bf.need (part l ns) [out]) = none ↔ Ru.order l (Bf.need l [out]) = none := by
  constructor
  · intro hn
    obtain ⟨j, t, hj, hw⟩ := order_none2 (need_closed (part l ns) [out]) hn
    have hjl := need_lt hj
    rw [part_len] at hjl
    cases ho : Ru.order l (Bf.need l [out]) with
    | none => rfl
    | some o =>
      exfalso
      obtain ⟨ht, hall⟩ := order_some ho
      have hw2 := h.walk hw
      have e : ns.getD j 0 = ns[j] := by rw [List.getD_eq_getElem?_getD, List.getElem?_eq_getElem hjl]; rfl
      rw [e] at hw2
      exact ht.none ns[j] t (hall _ (h.at hjl).1 (by rw [h.needL (h.at hjl).1]; exact (h.at hjl).2)) hw2
  · intro hn
    obtain ⟨i, t, hi, hw⟩ := order_none2 (need_closed l [out]) hn
    have hil := need_lt hi
    rw [h.needL hil] at hi
    obtain ⟨j, hj, e⟩ := h.find hil hi
    obtain ⟨q, hq, eq, hw2⟩ := h.back hw j hj e
    have : q = j := h.inj hq hj (by rw [eq, e])
    subst this
    cases ho : Ru.order (part l ns) (Bf.need (part l ns) [out]) with
    | none => rfl
    | some o =>
      exfalso
      obtain ⟨ht, hall⟩ := order_some ho
      exact ht.none q t (hall _ (by rw [part_len]; exact hj) (h.needP hj)) hw2
theorem Nums.mkr {l : List Ru} {out : List UInt8} {f : Nat → Bool} {ns : List Nat} (h : Nums l out f ns) {x : List UInt8} {i : Nat} (hm : Bf.mkr l x = some i) (hf : f i = true) : ∃ j, ∃ hj : j < ns.length, ns[j] = i ∧ Bf.mkr (part l ns) x = some j := by
  obtain ⟨hi, ei⟩ := Bf.mkr_of hm
  obtain ⟨j, hj, e⟩ := h.find hi hf
  obtain ⟨-, hA⟩ := fault_ok h.fine
  refine ⟨j, hj, e, ?_⟩
  unfold Bf.mkr
  rw [List.findIdx?_eq_some_iff_getElem]
  have hjp : j < (part l ns).length := by rw [part_len]; exact hj
  refine ⟨hjp, ?_, fun q hq => ?_⟩
  · rw [part_at l ns hj (h.at hj).1]
    subst e
    simpa using ei
  · have hq' : q < ns.length := by omega
    rw [part_at l ns hq' (h.at hq').1]
    have hql := (h.at hq').1
    have : l[ns[q]].out ≠ x := fun e2 => by
      have := hA ns[q] i (h.at hq').1 hi (by rw [e2, ei])
      have := h.inj hq' hj (by rw [this, e])
      omega
    simpa using this
theorem Nums.mkr_none {l : List Ru} {out : List UInt8} {f : Nat → Bool} {ns : List Nat} (h : Nums l out f ns) {x : List UInt8} (hm : Bf.mkr l x = none) : Bf.mkr (part l ns) x = none := by
  unfold Bf.mkr at hm ⊢
  rw [List.findIdx?_eq_none_iff] at hm ⊢
  exact fun r hr => hm r (h.part_mem hr)
theorem Nums.want {l : List Ru} {out : List UInt8} {f : Nat → Bool} {ns : List Nat} (h : Nums l out f ns) {fs fs' : Tf.Fs} (hs : (Ru.order l (Bf.need l [out])).isSome = true) (hfs : ∀ x, Leaf (part l ns) x → Tf.get fs x = Tf.get fs' x) (hex : ∃ x ∈ l, x.out = out) : Bf.want Af.actO fs l out = Bf.want Af.actO fs' (part l ns) out := by
  obtain ⟨o, ho⟩ := Option.isSome_iff_exists.1 hs
  obtain ⟨ht, hall⟩ := order_some ho
  obtain ⟨hnd, hlt⟩ := order_nodup ho
  have hch := order_ch ho
  cases ho' : Ru.order (part l ns) (Bf.need (part l ns) [out]) with
  | none => rw [h.order.1 ho'] at ho; cases ho
  | some o' =>
    obtain ⟨ht', hall'⟩ := order_some ho'
    obtain ⟨hnd', hlt'⟩ := order_nodup ho'
    have inF : ∀ i ∈ o, f i = true := fun i hi => by rw [← h.needL (hlt i hi)]; exact hch i hi
    obtain ⟨r, hr, er⟩ := hex
    obtain ⟨k, hk, ek⟩ := List.getElem_of_mem hr
    obtain ⟨-, hA⟩ := fault_ok h.fine
    have hm : Bf.mkr l out = some k := by
      unfold Bf.mkr
      rw [List.findIdx?_eq_some_iff_getElem]
      refine ⟨hk, by rw [ek]; simpa using er, fun q hq => ?_⟩
      have : l[q].out ≠ out := fun e2 => by
        have := hA q k (by omega) hk (by rw [e2, ek, er])
        omega
      simpa using this
    have hko : k ∈ o := hall k hk (by
      rw [h.needL hk]
      exact h.need.start k (by unfold base; rw [List.getElem?_eq_getElem hk, ek]; simp [er]))
    refine Bf.Wanted.part (Bf.want_is (act := Af.actO) (fs := fs) ht hnd hlt) (Bf.want_is (act := Af.actO) (fs := fs') ht' hnd' hlt') (r := fun i => o.idxOf i) (fun _ _ hi hn => (Bf.rank_of ht hi hn).2) (fun _ _ hi hn => (Bf.rank_of ht hi hn).1) (fun x i hx hi => ?_) (fun x i hi hN hx hmx => ?_) out k hm hko
    · obtain ⟨j, hj, e, hmj⟩ := h.mkr hx (inF i hi)
      refine ⟨j, hmj, hall' j (by rw [part_len]; exact hj) (h.needP hj), ?_⟩
      rw [Bf.getD_at (by rw [part_len]; exact hj), part_at l ns hj (h.at hj).1]
      subst e
      rw [Bf.getD_at (h.at hj).1]
    · have hmp := h.mkr_none hmx
      refine ⟨hmp, hfs x ⟨?_, fun z hz e => ?_⟩⟩
      · obtain ⟨j, hj, e⟩ := h.find hi (inF i hN)
        refine ⟨_, List.getElem_mem (show j < (part l ns).length by rw [part_len]; exact hj), ?_⟩
        rw [part_at l ns hj (h.at hj).1]
        subst e
        exact hx
      · unfold Bf.mkr at hmx
        rw [List.findIdx?_eq_none_iff] at hmx
        have := hmx z (h.part_mem hz)
        simp [e] at this
end Ru
namespace Tf
theorem get_ins {x : List UInt8 × List UInt8} {p : List UInt8} (h : x.1 ≠ p) : ∀ fs : Fs, get (ins x fs) p = get fs p
  | [] => by simp [ins, get, h]
  | y :: r => by
    unfold ins
    split
    · unfold get
      rw [List.find?_cons_of_neg (by simpa using h)]
    · unfold get
      by_cases e : y.1 = p
      · rw [List.find?_cons_of_pos (by simpa using e), List.find?_cons_of_pos (by simpa using e)]
      · rw [List.find?_cons_of_neg (by simpa using e), List.find?_cons_of_neg (by simpa using e)]
        exact get_ins h r
theorem get_del {q p : List UInt8} (h : q ≠ p) : ∀ fs : Fs, get (del fs q) p = get fs p
  | [] => rfl
  | y :: r => by
    have ih := get_del h r
    unfold get del at ih ⊢
    by_cases e : y.1 = q
    · rw [List.filter_cons_of_neg (by simpa using e), List.find?_cons_of_neg (by simp [e, h])]
      exact ih
    · rw [List.filter_cons_of_pos (by simpa using e)]
      by_cases e2 : y.1 = p
      · rw [List.find?_cons_of_pos (by simpa using e2), List.find?_cons_of_pos (by simpa using e2)]
      · rw [List.find?_cons_of_neg (by simpa using e2), List.find?_cons_of_neg (by simpa using e2)]
        exact ih
theorem get_putF {ok : List UInt8 → Bool} {fs : Fs} {q b p : List UInt8} (h : q ≠ p) : get (putF ok fs q b) p = get fs p := by
  unfold putF
  split
  · unfold put
    rw [get_ins h, get_del h]
  · rfl
end Tf
end Go.Proofs.YtmhipgompplkdaaGreatDoor
namespace Go.Proofs.YtmhipgompplkdaaGreatDoor
open Go.RowKit Go.Shelf Go.Lib Go.Maps
open Tf (Fs)
theorem ba_extract (t : List UInt8) (a b : Nat) : (ba t).extract a b = ba ((t.drop a).take (b - a)) := ba_eq (by rw [← Lib.toList_data, Lib.extract_toList])
theorem pair_new (w : World) (x y : Value) (t : TypeId) : (w.alloc (.cells #[x, y] t)).heap[w.heap.size]? = some (.cells #[x, y] t (0, 0)) := (MapKept.heap_alloc w _).1
end Go.Proofs.YtmhipgompplkdaaGreatDoor
