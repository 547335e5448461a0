import Derived.Test.YtgdjgohiaffejaaGreatDoorYF36
import Derived.Test.YtgdjgohiaffejaaGreatDoorYF19
import Derived.Test.YtgdjgohiaffejaaGreatDoorYF37
import Derived.Test.YtgdjgohiaffejaaGreatDoorYF34
import Derived.Test.YtgdjgohiaffejaaGreatDoorYF09
import Derived.OneCell
import Derived.Deep.RegionHeld3
import Derived.Test.YtgdjgohiaffejaaGreatDoorYF16
namespace Go.Proofs.YtgdjgohiaffejaaGreatDoor
open Go.RowKit Go.Shelf Go.Lib Go.Maps
structure WantW (w : World) (es : Nat → Addr) : Prop where
  g : GraphW w es
  shape : w.cell? ⟨1, 0, Option.none⟩ = some (erOf es 3)
  none : w.cell? ⟨2, 0, Option.none⟩ = some (erOf es 6)
theorem WantW.below {w w' : World} {es : Nat → Addr} (h : WantW w es) (hb : Below w.heap.size w w') : WantW w' es := ⟨h.g.below hb, cell_below' h.shape hb, cell_below' h.none hb⟩
theorem WantW.ask {w : World} {es : Nat → Addr} (h : WantW w es) : AskE w es := ⟨h.g.s.a, h.none⟩
def OfTells (es : Nat → Addr) (fs : Tf.Fs) (l : List Ru) (out : List UInt8) (w : World) (s : List UInt8) (ev : Value) : Prop :=
  ((Ru.fault l).1 ≠ 0 ∧ s = [] ∧ ErrV w es ev (Ru.fault l)) ∨
  ((Ru.fault l).1 = 0 ∧ (∀ x ∈ l, x.out ≠ out) ∧ s = [] ∧ ev = erOf es 6) ∨
  ((Ru.fault l).1 = 0 ∧ (∃ x ∈ l, x.out = out) ∧ Ru.order l (Bf.need l [out]) = none ∧ s = [] ∧ ev = erOf es 9) ∨
  ((Ru.fault l).1 = 0 ∧ (∃ x ∈ l, x.out = out) ∧ (Ru.order l (Bf.need l [out])).isSome = true ∧ s = (Bf.want Af.actO fs l out).1 ∧ ev = erOf es (Bf.want Af.actO fs l out).2)
theorem OfTells.val {es : Nat → Addr} {fs : Tf.Fs} {l : List Ru} {out : List UInt8} {w : World} {s : List UInt8} {ev : Value} (h : OfTells es fs l out w s ev) : (∃ t u, ev = .iface t u) ∨ ev = .nilIface := by
  have he : ∀ c, (∃ t u, erOf es c = .iface t u) ∨ erOf es c = .nilIface := fun c => by
    cases c with
    | zero => exact .inr rfl
    | succ m => exact .inl ⟨_, _, rfl⟩
  rcases h with ⟨h1, _, h3⟩ | ⟨_, _, _, rfl⟩ | ⟨_, _, _, _, rfl⟩ | ⟨_, _, _, _, rfl⟩
  · exact .inl (h3.some h1)
  · exact he 6
  · exact he 9
  · exact he _
set_option maxRecDepth 100000 in
set_option maxHeartbeats 4000000 in
theorem containsI_of {W : World} {nb : Nat} {v : Value} {ll : List Nat} (hc : W.cell? ⟨nb, 0, none⟩ = some v) (hrow : NIRow W v ll) (hl : ll.length ≤ 1000) (x : Nat) : Calls Tryz.prog 132 #[nv x, .pointer (some ⟨nb, 0, none⟩)] W fun e w' => e = .returned (.bool (decide (x ∈ ll))) ∧ Below W.heap.size W w' := by
  have HC := hid1 (slContainsI_calls v ll x hrow (by omega))
  obtain ⟨p, c, rfl, -⟩ := hrow
  go_enter Tryz.func132, Tryz.ntmps132
  go_wp2_with fail
  refine HC.out.mono ?_
  rintro e w1 ⟨rfl, rfl⟩
  clear HC
  go_wp2
  go_ret
  exact ⟨rfl, Below.refl _ _⟩
set_option maxRecDepth 100000 in
set_option maxHeartbeats 4000000 in
theorem ofOrder_calls {es : Nat → Addr} {V : World} (hG : GraphW V es) (lv : Value) (l : List Ru) (hrow : RRow V lv l) (hl : l.length ≤ 1000) (hS : ∀ x ∈ l, x.Small) (nb : Nat) (v : Value) (ll : List Nat) (hc : V.cell? ⟨nb, 0, none⟩ = some v) (hr : NIRow V v ll) (hll : ll.length ≤ 1000) (hcl : ∀ i k, i ∈ ll → Ru.needs l i k = true → k ∈ ll) :
    Calls Tryz.prog 112 #[lv, .func (.func 132) #[] #[.pointer (some ⟨nb, 0, none⟩)]] V fun e w' => ∃ u ev, e = .returned (.tuple #[u, ev]) ∧ Below V.heap.size V w' ∧ SomeTells es l (fun k => decide (k ∈ ll)) w' u ev :=
  grOrderOf_calls hG lv l hrow hl hS 132 #[.pointer (some ⟨nb, 0, none⟩)] (enters_of Tryz.func132 (by kernel_rfl) rfl) (fun k => decide (k ∈ ll)) (hid1 fun i k hi hk => by
    simp only [decide_eq_true_eq] at hi ⊢
    exact hcl i k hi hk) (hid1 fun x W' _ gW => containsI_of (cell_below' hc gW) (hr.below gW) hll x)
set_option maxRecDepth 100000 in
set_option maxHeartbeats 16000000 in
theorem wOf_calls {es : Nat → Addr} {W : World} (hW : WantW W es) {Bt tb : Nat} {fs : Tf.Fs} {o : Option Nat} (hT : TreeAt Bt W tb fs o) (hby : ∀ x b, Tf.get fs x = some b → b.length ≤ 2000) (lv : Value) (l : List Ru) (hrow : RRow W lv l) (hl : l.length ≤ 1000) (hS : ∀ x ∈ l, x.Small) (out : List UInt8) (hout : out.length ≤ 1000) :
    Calls Tryz.prog 64 #[Ptr tb, lv, .string (ba out)] W fun e w' => ∃ s ev, e = .returned (.tuple #[.string (ba s), ev]) ∧ Below W.heap.size W w' ∧ OfTells es fs l out w' s ev := by
  have HSh := hid1 (ruSheet_calls hW.g.s l (by omega) lv hrow hS)
  have HNd := hid1 fun (V : World) (g : Below W.heap.size W V) (ov : Value) (hov : XRow V ov [out]) => gNeeds_calls (hW.g.s.below g) (cell_below' hW.none g) lv l (hrow.below g) hl hS ov [out] hov (by simp)
  have HOf := hid1 fun (V : World) (g : Below W.heap.size W V) => ofOrder_calls (hW.g.below g) lv l (hrow.below g) hl hS
  have HAk := hid1 fun (V : World) (g : Below W.heap.size W V) (h40 : l.length ≤ 40) (hA : ∀ i j (hi : i < l.length) (hj : j < l.length), l[i].out = l[j].out → i = j) => wAsker_calls (es := es) (hW.ask.below g) ⟨_, _, hT.below g⟩ hby lv (hrow.below g) h40 hS hA
  have hN := hW.none
  obtain ⟨pl, cl, rfl, -⟩ := hrow
  clear hW hT hS hby
  go_enter Tryz.func64, Tryz.ntmps64
  go_wp2_with fail
  refine HSh.out.mono ?_
  rintro e w1 ⟨u1, rfl, g1, hE⟩
  clear HSh
  by_cases hf : (Ru.fault l).1 = 0
  · obtain ⟨h40, hA⟩ := Ru.fault_ok hf
    have hu1 : u1 = .nilIface := by
      rcases hE with ⟨_, h, _⟩ | ⟨pb, m, _, _, h, _⟩
      · rw [h, hf]; rfl
      · rw [hf] at h; cases h
    subst hu1
    have HFt := hid1 hf
    have HAp : Hid (∀ i j (hi : i < l.length) (hj : j < l.length), l[i].out = l[j].out → i = j) := hid1 hA
    have gA : Below w1.heap.size w1 (w1.alloc (.cells #[.string (ba out)] 9)) := (Below.refl _ w1).alloc (Nat.le_refl _) _
    have G2 := below_then g1 gA
    have HX : Hid (XRow (w1.alloc (.cells #[.string (ba out)] 9)) (.slice (some ⟨w1.heap.size, 0, none⟩) 1 1) [out]) := hid1 ⟨_, 1, rfl, by simp, (fun h => by cases h), fun _ => ⟨_, 0, rfl, by simp, fun j hj => by
      obtain rfl : j = 0 := by simpa using hj
      exact cell_of_row (j := 0) (row_newW w1 _) rfl⟩⟩
    have HN1 := hid1 (HNd.out _ G2 _ HX.out)
    clear hE hf hA HNd HX
    go_wp2_with fail
    refine HN1.out.mono ?_
    rintro e w2 ⟨u2, ev, rfl, g2, hT1⟩
    have G3 := below_then G2 g2
    clear HN1
    rcases hT1 with ⟨hf, _⟩ | ⟨hf, k, hk, h1, h2, hE, pn, cn, rfl⟩ | ⟨hf, h1, rfl, f, hN0, hrw⟩
    · exact absurd HFt.out hf
    · obtain rfl : k = 0 := by simpa using hk
      have HP : Hid ((Ru.fault l).1 = 0 ∧ (∀ x ∈ l, x.out ≠ out)) := hid1 ⟨HFt.out, fun x hx => h1 x hx⟩
      obtain ⟨t, x, rfl⟩ := hE.some (by simp)
      have gB : Below w2.heap.size w2 (w2.alloc (.cells #[.slice pn 0 cn] 68)) := (Below.refl _ w2).alloc (Nat.le_refl _) _
      have G4 := below_then G3 gB
      have n4 := cell_below' hN G4
      clear hf hE h1 h2 HOf HAk
      go_wp2
      go_region
      go_wp2
      go_ret2
      exact ⟨_, _, rfl, below_draws G4 1, .inr (.inl ⟨HP.out.1, HP.out.2, rfl, rfl⟩)⟩
    · have HR1 := hid1 hrw
      obtain ⟨pn, cn, rfl, -⟩ := hrw
      have gB : Below w2.heap.size w2 (w2.alloc (.cells #[.slice pn ((List.range l.length).filter f).length cn] 68)) := (Below.refl _ w2).alloc (Nat.le_refl _) _
      have G4 := below_then G3 gB
      have hfl : ((List.range l.length).filter f).length ≤ 40 := Nat.le_trans (by simpa using List.length_filter_le f (List.range l.length)) h40
      have hch : ∀ k, k < l.length → (decide (k ∈ (List.range l.length).filter f)) = Bf.need l [out] k := fun k hk => by
        rw [Bf.need_eq hN0 hk]
        simp [hk]
      have HCh := hid1 (Ru.order_congr2 hch)
      have HO := hid1 (HOf.out _ G4 w2.heap.size _ _ (by simp) (HR1.out.below gB) (by omega) fun i k hi hk => by
        simp only [List.mem_filter, List.mem_range] at hi ⊢
        exact ⟨(Ru.needs_lt hk).2, hN0.closed i k hi.2 hk⟩)
      unfold SomeTells at HO
      rw [HCh.out] at HO
      have HEx : Hid (∃ x ∈ l, x.out = out) := hid1 (h1 0 (by simp))
      have HN := hid1 hN0
      clear hf h1 hN0 HOf HCh hch HR1
      go_wp2_with fail
      refine HO.out.mono ?_
      rintro e w3 ⟨u3, ev3, rfl, g3, hT3⟩
      have G5 := below_then G4 g3
      clear HO
      rcases hT3 with ⟨h0, -⟩ | ⟨-, hnone, rfl, pn3, cn3, rfl⟩ | ⟨-, ord, hsome, rfl, hr3⟩
      · exact absurd HFt.out h0
      · have HP : Hid (OfTells es fs l out w3 [] (erOf es 9)) := hid1 (.inr (.inr (.inl ⟨HFt.out, HEx.out, hnone, rfl, rfl⟩)))
        clear hnone HAk
        obtain ⟨t9, x9, e9⟩ : ∃ t x, erOf es 9 = .iface t x := ⟨_, _, rfl⟩
        rw [e9] at HP ⊢
        clear e9
        go_wp2
        go_ret2
        exact ⟨_, _, rfl, G5, HP.out⟩
      · obtain ⟨ht, hall⟩ := Ru.order_some hsome
        obtain ⟨hnd, hlt⟩ := Ru.order_nodup hsome
        have HSome : Hid ((Ru.order l (Bf.need l [out])).isSome = true) := hid1 (by rw [hsome]; rfl)
        have HIn : Hid (∀ i, Bf.mkr l out = some i → i ∈ ord) := hid1 fun i hi => by
          obtain ⟨hk, ek⟩ := Bf.mkr_of hi
          refine hall i hk ?_
          rw [Bf.need_eq HN.out hk]
          exact HN.out.start i (by unfold Ru.base; rw [List.getElem?_eq_getElem hk]; simp [ek])
        have HA3 := hid1 (HAk.out w3 G5 h40 HAp.out)
        have HAsk : Hid (∀ uv L W', AskB es tb fs l uv w3 → Asks es tb fs l uv w3 L W' → Calls Tryz.prog 196 (#[.string (ba out)] ++ L.caps) W' fun e w' => e = .returned (.tuple #[.string (ba (Bf.want Af.actO fs l out).1), erOf es (Bf.want Af.actO fs l out).2]) ∧ Asks es tb fs l uv w3 L w' ∧ Only (fun j => j = L.dm) W' w') := hid1 fun uv L W' hB hAs => ask_tells hB ht hnd hlt out hout HIn.out W' hAs
        obtain ⟨p3, c3, rfl, -⟩ := hr3
        clear HAk ht hall hnd hlt hsome HIn HN
        go_wp2_with fail
        refine HA3.out.mono ?_
        rintro e w4 ⟨uv, L, hB4, rfl, hA4⟩
        have HT := hid1 (HAsk.out uv L w4 hB4 hA4)
        have G6 := below_then G5 hA4.base
        have hnew := hA4.new
        have eg := wAsk1_enters
        have HEr : Hid (OfTells es fs l out w4 (Bf.want Af.actO fs l out).1 (erOf es (Bf.want Af.actO fs l out).2)) := hid1 (.inr (.inr (.inr ⟨HFt.out, HEx.out, HSome.out, rfl, rfl⟩)))
        have hz5 := G5.size
        clear HA3 HAsk hB4 hA4
        generalize Bf.want Af.actO fs l out = r at *
        go_wp2_with fail
        refine HT.out.mono ?_
        rintro e w5 ⟨rfl, hA5, hO5⟩
        have G7 : Below W.heap.size W w5 := G6.trans (hO5.below (fun j hj => by rw [hj]; omega) G6.size)
        clear HT hA5 hO5
        go_wp2
        go_ret2
        refine ⟨_, _, rfl, G7, ?_⟩
        rcases HEr.out with h | h | h | h
        · exact absurd HFt.out h.1
        · exact .inr (.inl h)
        · exact .inr (.inr (.inl h))
        · exact .inr (.inr (.inr h))
  · have HP : Hid (OfTells es fs l out w1 [] u1) := hid1 (.inl ⟨hf, rfl, hE⟩)
    obtain ⟨t, x, rfl⟩ := hE.some hf
    clear hf hE HOf HAk HNd
    go_wp2
    go_ret2
    exact ⟨_, _, rfl, g1, HP.out⟩
end Go.Proofs.YtgdjgohiaffejaaGreatDoor
namespace Go.Proofs.YtgdjgohiaffejaaGreatDoor
open Go.RowKit Go.Shelf Go.Lib Go.Maps
open Tf (Fs)
structure Kept (S : Nat → Prop) (w w' : World) : Prop where
  size : w.heap.size ≤ w'.heap.size
  block : ∀ j, j < w.heap.size → ¬ S j → w'.heap[j]? = w.heap[j]?
theorem Kept.of {S : Nat → Prop} {w w' : World} (h : Below w.heap.size w w') : Kept S w w' := ⟨h.size, fun j hj _ => h.block j hj⟩
theorem Kept.refl (S : Nat → Prop) (w : World) : Kept S w w := ⟨Nat.le_refl _, fun _ _ _ => rfl⟩
theorem Kept.trans {S : Nat → Prop} {a b c : World} (h : Kept S a b) (g : Kept S b c) : Kept S a c :=
  ⟨Nat.le_trans h.size g.size, fun j hj hs => (g.block j (Nat.lt_of_lt_of_le hj h.size) hs).trans (h.block j hj hs)⟩
theorem Kept.alloc {S : Nat → Prop} {a b : World} (h : Kept S a b) (o : Obj) : Kept S a (b.alloc o) := h.trans (.of ((Below.refl _ b).alloc (Nat.le_refl _) o))
theorem Kept.drew {S : Nat → Prop} {a b : World} (h : Kept S a b) : Kept S a b.drew := h.trans (.of (Below.refl _ b).drew)
theorem Kept.setCell {S : Nat → Prop} {a b : World} (h : Kept S a b) {p : Addr} (hp : S p.block) (v : Value) : Kept S a (b.setCell p v) := by
  refine h.trans ⟨by simp, fun j _ hs => Below.heap_setCell b p v j fun e => hs (e ▸ hp)⟩
theorem Kept.grown {S : Nat → Prop} {a b c : World} {o : Option Nat} (h : Kept S a b) (hg : b.grownBy c o) (ho : ∀ j, o = some j → S j) : Kept S a c :=
  h.trans ⟨hg.size, fun j hj hs => hg.block j hj fun e => hs (ho j e.symm)⟩
theorem Kept.cell {S : Nat → Prop} {w w' : World} (h : Kept S w w') {a : Addr} {u : Value} (hc : w.cell? a = some u) (hs : ¬ S a.block) : w'.cell? a = some u :=
  (World.cell?_of_block (h.block a.block (lt_of_cell hc) hs)).trans hc
def tS (tb : Nat) (o : Option Nat) : Nat → Prop := fun j => j = tb ∨ o = some j
theorem TreeAt.kept {B : Nat} {w w' : World} {tb : Nat} {fs : Fs} {o : Option Nat} {S : Nat → Prop} (h : TreeAt B w tb fs o) (hk : Kept S w w') (h1 : ¬ S tb) (h2 : ∀ j, o = some j → ¬ S j) : TreeAt B w' tb fs o := by
  have hbk := hk.block tb h.lt h1
  refine ⟨h.low, (World.cell?_of_block (a := ⟨tb, 0, none⟩) hbk).trans h.cell, (World.frozen?_of_block (a := ⟨tb, 0, none⟩) hbk).trans h.free, ?_⟩
  cases o with
  | none => exact h.isMap
  | some bm =>
    refine ⟨h.isMap.1, h.isMap.2.1, ?_⟩
    have hm := h.isMap.2.2
    have hlt := hm.lt
    obtain ⟨es, clock, e1, F, hs, hD⟩ := hm
    exact ⟨es, clock, (hk.block bm hlt (h2 bm rfl)).trans e1, F, hs, hD⟩
def OldNew (w : World) (o o' : Option Nat) : Prop := o' = o ∨ ∃ j, o' = some j ∧ w.heap.size ≤ j
set_option maxRecDepth 100000 in
set_option maxHeartbeats 2000000 in
theorem PutK_some {B : Nat} {w : World} {tb : Nat} {fs : Fs} {bm : Nat} (h : TreeAt B w tb fs (some bm)) (p b : List UInt8) (hp : p.length ≤ 1000000) (hfew : fs.length ≤ 1000)
    (HM : Hid (Calls Tryz.prog 99 #[Ptr tb, .string (ba p), .string (ba b)] w fun e w' => e = .returned .nilIface ∧ Below w.heap.size w w')) :
    Calls Tryz.prog 21 #[Ptr tb, .string (ba p), .string (ba b)] w fun e w' => e = .returned .nilIface ∧ (TreeAt B w' tb (Tf.put fs p b) (some bm)) ∧ Below B w w' ∧ Kept (tS tb (some bm)) w w' := by
  have hlt := h.lt
  go_enter Tryz.func21, Tryz.ntmps21
  go_wp2_with fail
  refine HM.out.mono ?_
  rintro e w1 ⟨rfl, g1⟩
  have h1 := h.below g1
  have hc := h1.cell
  have hm := h1.isMap.2.2
  have hq := eq_someMap bm
  go_wp2_with (first
    | (at_mapUpdate; refine wpList_mapUpdate_in _ rfl _ _ _ 163 rfl 9 167 klaw Tryz.underlying163 fileElem bm fs.length (Tf.datum fs) rfl hm (by unfold maxLen; omega) _ _ _ rfl rfl (kkey p hp) _ [] (fileElem_mk b) ?_; intro w2 hown2 hturn2; go_frame)
    | go_in)
  go_wp2
  go_ret
  rw [Tf.datum_put] at hown2
  have hne : some tb ≠ some bm := fun e => h.isMap.2.1 (Option.some.inj e).symm
  have hbk := hturn2.grown.block tb h1.lt hne
  refine ⟨rfl, ⟨h.low, (World.cell?_of_block (a := ⟨tb, 0, none⟩) hbk).trans hc, (World.frozen?_of_block (a := ⟨tb, 0, none⟩) hbk).trans h1.free, h.isMap.1, h.isMap.2.1, ownsMap_tight hown2⟩, ?_⟩
  exact ⟨below_turned (g1.mono (by have := h.low; omega)) (by have := h.low; have := g1.size; omega) h.isMap.1 hturn2, (Kept.of g1).grown hturn2.grown fun j e => .inr (by rw [e])⟩
set_option maxRecDepth 100000 in
set_option maxHeartbeats 2000000 in
theorem PutK_none {B : Nat} {w : World} {tb : Nat} {fs : Fs} (h : TreeAt B w tb fs none) (p b : List UInt8) (hp : p.length ≤ 1000000)
    (HM : Hid (Calls Tryz.prog 99 #[Ptr tb, .string (ba p), .string (ba b)] w fun e w' => e = .returned .nilIface ∧ Below w.heap.size w w')) :
    Calls Tryz.prog 21 #[Ptr tb, .string (ba p), .string (ba b)] w fun e w' => e = .returned .nilIface ∧ (∃ bm, w.heap.size ≤ bm ∧ TreeAt B w' tb (Tf.put fs p b) (some bm)) ∧ Below B w w' ∧ Kept (tS tb none) w w' := by
  have hlt := h.lt
  obtain rfl : fs = [] := h.isMap
  have hmm := @run_makeMap Tryz.prog
  go_enter Tryz.func21, Tryz.ntmps21
  go_wp2_with fail
  refine HM.out.mono ?_
  rintro e w1 ⟨rfl, g1⟩
  have h1 := h.below g1
  have hc := h1.cell
  have hf := h1.free
  have hq := eq_noMap
  have htb := h1.lt
  have eS : (w1.setCell ⟨tb, 0, none⟩ (.map (some w1.heap.size))).heap.size = w1.heap.size := by simp
  have gA : Below w1.heap.size (w1.setCell ⟨tb, 0, none⟩ (.map (some w1.heap.size))) ((w1.setCell ⟨tb, 0, none⟩ (.map (some w1.heap.size))).alloc (.map #[] 0)) := (Below.refl _ _).alloc (by simp) _
  have hcS : ((w1.setCell ⟨tb, 0, none⟩ (.map (some w1.heap.size))).alloc (.map #[] 0)).cell? ⟨tb, 0, none⟩ = some (.map (some w1.heap.size)) :=
    (gA.cell (p := ⟨tb, 0, none⟩) htb).trans (World.cell?_setCell_same' _ _ _ (by rw [hc]; rfl))
  have hfS : Hid (((w1.setCell ⟨tb, 0, none⟩ (.map (some w1.heap.size))).alloc (.map #[] 0)).frozen? ⟨tb, 0, none⟩ = false) :=
    (gA.frozen (p := ⟨tb, 0, none⟩) htb).trans (by rw [World.frozen?_setCell]; exact hf)
  have Hm0 : Hid (((w1.setCell ⟨tb, 0, none⟩ (.map (some w1.heap.size))).alloc (.map #[] 0)).ownsMap Tryz.prog 9 fileElem w1.heap.size 0 (Tf.datum [])) := by
    have := World.ownsMap_made (w1.setCell ⟨tb, 0, none⟩ (.map (some w1.heap.size))) Tryz.prog 9 fileElem
    rw [eS] at this
    exact this
  have gS : Hid (Below B w ((w1.setCell ⟨tb, 0, none⟩ (.map (some w1.heap.size))).alloc (.map #[] 0))) := ((g1.mono (by have := h.low; omega)).setCell (p := ⟨tb, 0, none⟩) h.low _).alloc (by rw [eS]; have := h.low; have := g1.size; omega) _
  have gK : Hid (Kept (tS tb none) w ((w1.setCell ⟨tb, 0, none⟩ (.map (some w1.heap.size))).alloc (.map #[] 0))) := ((Kept.of g1).setCell (p := ⟨tb, 0, none⟩) (.inl rfl) _).alloc _
  have hw1 : Hid (w.heap.size ≤ w1.heap.size) := g1.size
  clear eS gA
  go_wp2_with (first
    | (at_mapUpdate; refine wpList_mapUpdate_in _ rfl _ _ _ 163 rfl 9 167 klaw Tryz.underlying163 fileElem w1.heap.size 0 (Tf.datum []) rfl Hm0.out (by unfold maxLen; omega) _ _ _ rfl rfl (kkey p hp) _ [] (fileElem_mk b) ?_; intro w2 hown2 hturn2; go_frame)
    | go_in)
  go_wp2
  go_ret
  rw [Tf.datum_put] at hown2
  have hne : some tb ≠ some w1.heap.size := fun e => by have := Option.some.inj e; omega
  have hbk := hturn2.grown.block tb (by simp; omega) hne
  refine ⟨rfl, ⟨w1.heap.size, hw1.out, h.low, (World.cell?_of_block (a := ⟨tb, 0, none⟩) hbk).trans hcS, (World.frozen?_of_block (a := ⟨tb, 0, none⟩) hbk).trans hfS.out, by have := h.low; omega, by omega, ownsMap_tight hown2⟩, ?_⟩
  refine ⟨below_turned gS.out (by have := h.low; simp; omega) (by have := h.low; omega) hturn2, ⟨Nat.le_trans gK.out.size hturn2.grown.size, fun j hj hs => ?_⟩⟩
  exact (hturn2.grown.block j (Nat.lt_of_lt_of_le hj gK.out.size) fun e => by have := Option.some.inj e; have := hw1.out; omega).trans (gK.out.block j hj hs)
theorem PutK_calls {B : Nat} {w : World} {tb : Nat} {fs : Fs} {o : Option Nat} {es : Nat → Value} (h : TreeAt B w tb fs o) (hE : TErr w es) (hlen : ∀ f ∈ fs, f.1.length ≤ 1000000) (hfew : fs.length ≤ 1000) (p b : List UInt8) (hp : p.length ≤ 1000000) :
    Calls Tryz.prog 21 #[Ptr tb, .string (ba p), .string (ba b)] w fun e w' => e = .returned (es (Tf.putCode pathB fs p b)) ∧ (∃ o', OldNew w o o' ∧ TreeAt B w' tb (Tf.putF pathB fs p b) o') ∧ Below B w w' ∧ Kept (tS tb o) w w' := by
  have HM := mayPut_calls h hE hlen hfew p b hp
  have hBw : B ≤ w.heap.size := by have := h.low; have := h.lt; omega
  cases hc : Tf.putCode pathB fs p b with
  | zero =>
    rw [hc, hE.nil] at HM
    rw [hE.nil, show Tf.putF pathB fs p b = Tf.put fs p b by simp [Tf.putF, hc]]
    cases o with
    | none => exact (PutK_none h p b hp HM).mono fun e w' ⟨h1, ⟨bm, hb, h2⟩, h3⟩ => ⟨h1, ⟨_, .inr ⟨bm, rfl, hb⟩, h2⟩, h3⟩
    | some bm => exact (PutK_some h p b hp hfew HM).mono fun e w' ⟨h1, h2, h3⟩ => ⟨h1, ⟨_, .inl rfl, h2⟩, h3⟩
  | succ k =>
    obtain ⟨t, u, e⟩ := hE.faces k
    rw [hc, e] at HM
    rw [e, show Tf.putF pathB fs p b = fs by simp [Tf.putF, hc]]
    exact (Put_no h p b t u HM).mono fun e w' ⟨h1, h2⟩ => ⟨h1, ⟨_, .inl rfl, h.below h2⟩, h2.mono hBw, .of h2⟩
set_option maxRecDepth 100000 in
set_option maxHeartbeats 2000000 in
theorem RemoveK_yes {B : Nat} {w : World} {tb : Nat} {fs : Fs} {bm : Nat} (h : TreeAt B w tb fs (some bm)) (p : List UInt8) (hp : p.length ≤ 1000000) (ht : Tf.hasP fs p = true) :
    Calls Tryz.prog 23 #[Ptr tb, .string (ba p)] w fun e w' => e = .returned .nilIface ∧ TreeAt B w' tb (Tf.del fs p) (some bm) ∧ Below B w w' ∧ Kept (tS tb (some bm)) w w' := by
  have hl := look_tree h p hp
  rw [ht] at hl
  have HA : Hid (Calls Tryz.prog 102 #[Ptr tb] w fun e w' => e = .returned (.map (some bm)) ∧ w' = w) := all_calls tb (some bm) w h.cell
  generalize (Tf.get fs p).getD [] = x at *
  have hc := h.cell
  have g1 : Below w.heap.size w (w.alloc (.cells #[.string (ba x)] 167)) := (Below.refl _ w).alloc (Nat.le_refl _) _
  have h1 := h.below g1
  have hc1 := h1.cell
  have hm := h1.isMap.2.2
  have hBw : B ≤ w.heap.size := by have := h.low; have := h.lt; omega
  clear ht
  go_enter Tryz.func23, Tryz.ntmps23
  go_wp2_with fail
  refine HA.out.mono ?_
  rintro e w' ⟨rfl, rfl⟩
  go_wp2_with (first
    | (at_delete; refine wpList_delete_own _ rfl _ _ 163 9 rfl 167 klaw Tryz.underlying163 fileElem bm fs.length (Tf.datum fs) rfl hm _ _ rfl (kkey p hp) ?_; intro w2 hown2 hturn2; go_frame)
    | go_in)
  go_wp2
  go_ret
  rw [Tf.datum_del] at hown2
  have hne : some tb ≠ some bm := fun e => h.isMap.2.1 (Option.some.inj e).symm
  have hbk := hturn2.grown.block tb h1.lt hne
  refine ⟨rfl, ⟨h.low, (World.cell?_of_block (a := ⟨tb, 0, none⟩) hbk).trans hc1, (World.frozen?_of_block (a := ⟨tb, 0, none⟩) hbk).trans h1.free, h.isMap.1, h.isMap.2.1, ownsMap_tight hown2⟩, ?_⟩
  exact ⟨below_turned (g1.mono hBw) (by have := g1.size; omega) h.isMap.1 hturn2, (Kept.of g1).grown hturn2.grown fun j e => .inr (by rw [e])⟩
theorem RemoveK_calls {B : Nat} {w : World} {tb : Nat} {fs : Fs} {o : Option Nat} {es : Nat → Value} (h : TreeAt B w tb fs o) (hE : TErr w es) (p : List UInt8) (hp : p.length ≤ 1000000) :
    Calls Tryz.prog 23 #[Ptr tb, .string (ba p)] w fun e w' => e = .returned (es (if Tf.hasP fs p then 0 else 6)) ∧ (∃ o', OldNew w o o' ∧ TreeAt B w' tb (Tf.del fs p) o') ∧ Below B w w' ∧ Kept (tS tb o) w w' := by
  have hBw : B ≤ w.heap.size := by have := h.low; have := h.lt; omega
  cases ht : Tf.hasP fs p with
  | true =>
    cases o with
    | none =>
      obtain rfl : fs = [] := h.isMap
      simp [Tf.hasP] at ht
    | some bm =>
      simp only [if_true, hE.nil]
      exact (RemoveK_yes h p hp ht).mono fun e w' ⟨h1, h2, h3⟩ => ⟨h1, ⟨_, .inl rfl, h2⟩, h3⟩
  | false =>
    simp only [Bool.false_eq_true, if_false]
    rw [Tf.del_none ht]
    exact (Remove_no h hE p hp ht).mono fun e w' ⟨h1, h2⟩ => ⟨h1, ⟨_, .inl rfl, h.below h2⟩, h2.mono hBw, .of h2⟩
end Go.Proofs.YtgdjgohiaffejaaGreatDoor
namespace Go.Proofs.YtgdjgohiaffejaaGreatDoor
open Go.RowKit Go.Shelf Go.Lib Go.Maps
open Tf (Fs)
theorem entCells_app (a b : Fs) : entCells (a ++ b) = entCells a ++ entCells b := by simp [entCells]
structure Made (B : Nat) (w w' : World) (tb : Nat) (v : Value) (l : Fs) : Prop where
  row : w'.ownsRow B 51 2 v l.length (entCells l)
  new : ∀ g, v.ownBlock = some g → w.heap.size ≤ g
  below : Below w.heap.size w w'
theorem Made.start (B : Nat) (w : World) (tb : Nat) : Made B w w tb (.slice none 0 0) [] := ⟨World.ownsRow_nil _ _ _ _, (fun _ h => by cases h), Below.refl _ _⟩
theorem Made.cell {B : Nat} {w w' : World} {tb : Nat} {v : Value} {l : Fs} (h : Made B w w' tb v l) {a : Addr} {u : Value} (hc : w.cell? a = some u) : w'.cell? a = some u := cell_below' hc h.below
theorem Made.more {B : Nat} {w w1 w2 : World} {tb : Nat} {v v' : Value} {l m : Fs} {row : Option Nat} (h : Made B w w1 tb v l) (o : w2.ownsRow B 51 2 v' (l.length + m.length) (entCells l ++ entCells m)) (gr : w1.grownBy w2 row) (hrow : row = v.ownBlock) (loc : v'.ownBlock = v.ownBlock ∨ v'.ownBlock = some w1.heap.size) : Made B w w2 tb v' (l ++ m) := by
  subst hrow
  refine ⟨by rw [entCells_app, List.length_append]; exact o, fun g hg => ?_, h.below.grown gr h.below.size h.new⟩
  rcases loc with e | e
  · exact h.new g (e ▸ hg)
  · rw [e] at hg; cases hg; exact h.below.size
theorem Made.shape {B : Nat} {w w' : World} {tb : Nat} {v : Value} {l : Fs} (h : Made B w w' tb v l) (hne : l ≠ []) (N : Nat) (hN : l.length = N) : ∃ g c, v = .slice (some ⟨g, 0, none⟩) N c := by
  subst hN
  rcases h.row.2 with ⟨_, h0⟩ | ⟨g, c, cur, rfl, _⟩
  · exact absurd (List.length_eq_zero_iff.1 h0) hne
  · exact ⟨g, c, rfl⟩
theorem Made.alloc {B : Nat} {w w1 : World} {tb : Nat} {v : Value} {l : Fs} (h : Made B w w1 tb v l) (o : Obj) : Made B w (w1.alloc o) tb v l := ⟨h.row.alloc o, h.new, h.below.alloc h.below.size o⟩
end Go.Proofs.YtgdjgohiaffejaaGreatDoor
namespace Go.Proofs.YtgdjgohiaffejaaGreatDoor
open Go.RowKit Go.Shelf Go.Lib Go.Maps
open Tf (Fs)
theorem ownsRow_kept {w w' : World} {base : Nat} {e : TypeId} {size : Nat} {v : Value} {n : Nat} {xs : List Value} {S : Nat → Prop} (h : w.ownsRow base e size v n xs) (hk : Kept S w w') (hs : ∀ j, v.ownBlock = some j → ¬ S j) : w'.ownsRow base e size v n xs := by
  obtain ⟨h0, h1⟩ := h
  refine ⟨h0, h1.imp id ?_⟩
  rintro ⟨g, cap, cur, rfl, e2, e3, e4⟩
  exact ⟨g, cap, cur, rfl, e2, (hk.block g (Array.getElem?_eq_some_iff.1 e3).1 (hs g rfl)).trans e3, e4⟩
theorem RTreeAt.kept {B : Nat} {w w' : World} {tb : Nat} {fs : Fs} {v : Value} {S : Nat → Prop} (h : RTreeAt B w tb fs v) (hk : Kept S w w') (h1 : ¬ S tb) (h2 : ∀ j, v.ownBlock = some j → ¬ S j) : RTreeAt B w' tb fs v := by
  have hbk := hk.block tb h.lt h1
  exact ⟨h.low, (World.cell?_of_block (a := ⟨tb, 0, none⟩) hbk).trans h.cell, (World.frozen?_of_block (a := ⟨tb, 0, none⟩) hbk).trans h.free, ownsRow_kept h.row hk h2, h.apart, h.nil⟩
end Go.Proofs.YtgdjgohiaffejaaGreatDoor
namespace Go.Proofs.YtgdjgohiaffejaaGreatDoor
open Go.RowKit Go.Shelf Go.Lib Go.Maps
open Tf (Fs)
structure Both (B : Nat) (w : World) (T M : Nat) (fs : Fs) (o : Option Nat) (v : Value) : Prop where
  t : TreeAt B w T fs o
  m : RTreeAt B w M fs v
  well : Tf.Well pathB fs
  tm : T ≠ M
  om : o ≠ some M
  vt : v.ownBlock ≠ some T
  ov : ∀ j, o = some j → v.ownBlock ≠ some j
theorem Both.below {B : Nat} {w w' : World} {T M : Nat} {fs : Fs} {o : Option Nat} {v : Value} (h : Both B w T M fs o v) (hb : Below w.heap.size w w') : Both B w' T M fs o v :=
  ⟨h.t.below hb, h.m.below hb, h.well, h.tm, h.om, h.vt, h.ov⟩
end Go.Proofs.YtgdjgohiaffejaaGreatDoor
namespace Go.Proofs.YtgdjgohiaffejaaGreatDoor
open Go.RowKit Go.Shelf Go.Lib
open Tf (Fs)
def FIRow (w : World) (v : Value) (l : Fs) : Prop :=
  ∃ p cap, v = .slice p l.length cap ∧ (l ≠ [] → ∃ g o, p = some ⟨g, o, none⟩ ∧ g < w.heap.size ∧ ∀ j (hj : j < l.length), w.cell? ⟨g, o + j * 2, none⟩ = some (.string (ba l[j].1)) ∧ w.cell? ⟨g, o + j * 2 + 1, none⟩ = some (.string (ba l[j].2)))
theorem FIRow.below {w w' : World} {v : Value} {l : Fs} (h : FIRow w v l) (hb : Below w.heap.size w w') : FIRow w' v l := by
  obtain ⟨p, cap, e, h1⟩ := h
  refine ⟨p, cap, e, fun hl => ?_⟩
  obtain ⟨g, o, e, hg, hc⟩ := h1 hl
  exact ⟨g, o, e, Nat.lt_of_lt_of_le hg hb.size, fun j hj => ⟨cell_below' (hc j hj).1 hb, cell_below' (hc j hj).2 hb⟩⟩
structure ShortF (l : Fs) : Prop where
  few : l.length ≤ 30
  path : ∀ f ∈ l, f.1.length ≤ 100
  bytes : ∀ f ∈ l, f.2.length ≤ 4000
set_option maxRecDepth 100000 in
set_option maxHeartbeats 8000000 in
theorem longFiles_calls {w : World} (v : Value) (l : Fs) (hrow : FIRow w v l) :
    Calls Tryz.prog 58 #[v] w fun e w' => ∃ b, e = .returned (.bool b) ∧ w' = w ∧ (b = true ∨ ShortF l) := by
  obtain ⟨p, cap, rfl, hin⟩ := hrow
  have HI := hid1 hin
  clear hin
  by_cases h30 : 30 < l.length
  · have z : (30 : Int) < (l.length : Int) := by omega
    go_enter Tryz.func58, Tryz.ntmps58
    go_wp2
    go_ret
    exact ⟨true, rfl, rfl, .inl rfl⟩
  · have z : (l.length : Int) ≤ (30 : Int) := by omega
    go_enter Tryz.func58, Tryz.ntmps58
    go_wp2
    go_loopw [3, 4] (fun nv' iv wr => ∃ (k n : Nat), k ≤ l.length ∧ iv = .int .i64 k ∧ nv' = .int .i64 n ∧ n ≤ 4000 ∧ (∀ j (hj : j < l.length), j < k → l[j].1.length ≤ 100 ∧ l[j].2.length ≤ 4000) ∧ w = wr) (fun _ iv _ => l.length - (intOf iv).toNat)
    case atStart => exact ⟨0, 0, Nat.zero_le _, rfl, rfl, Nat.zero_le _, fun j _ h => by omega, rfl⟩
    case round =>
      obtain ⟨k, n, hk, rfl, rfl, hn, hs, rfl⟩ := hrel
      have HS := hid1 hs
      clear hs
      have k0 : (0 : Int) ≤ (k : Int) := by omega
      have zn : (n : Int) ≤ 4000 := by omega
      have zn0 : (0 : Int) ≤ (n : Int) := by omega
      by_cases hlt : k < l.length
      · have k1 : (k : Int) < (l.length : Int) := by omega
        obtain ⟨g, o, rfl, hg, hc⟩ := HI.out (by intro e; rw [e] at hlt; simp at hlt)
        have d0 := (hc k hlt).1
        have d1 := (hc k hlt).2
        have HNx : Hid (l[k].1.length ≤ 100 → l[k].2.length ≤ 4000 → ∀ j (hj : j < l.length), j < k + 1 → l[j].1.length ≤ 100 ∧ l[j].2.length ≤ 4000) := hid1 fun h1 h2 j hj hjk => by
          by_cases e : j = k
          · subst e; exact ⟨h1, h2⟩
          · exact HS.out j hj (by omega)
        clear hc HI HS
        generalize l[k] = y at *
        obtain ⟨y1, y2⟩ := y
        simp only at d0 d1 HNx
        by_cases h1 : 4000 < y2.length
        · have z1 : (4000 : Int) < (y2.length : Int) := by omega
          go_wp2
          go_ret
          exact ⟨true, rfl, rfl, .inl rfl⟩
        · have z1 : (y2.length : Int) ≤ (4000 : Int) := by omega
          by_cases h2 : 100 < y1.length
          · have z2 : (100 : Int) < (y1.length : Int) := by omega
            go_wp2
            go_ret
            exact ⟨true, rfl, rfl, .inl rfl⟩
          · have z2 : (y1.length : Int) ≤ (100 : Int) := by omega
            by_cases h3 : 4000 < n + y2.length
            · have z3 : (4000 : Int) < (n : Int) + (y2.length : Int) := by omega
              go_wp2
              go_ret
              exact ⟨true, rfl, rfl, .inl rfl⟩
            · have z3 : (n : Int) + (y2.length : Int) ≤ (4000 : Int) := by omega
              have HQ := hid1 (HNx.out (by omega) (by omega))
              clear HNx
              go_wp2
              exact ⟨⟨k + 1, n + y2.length, by omega, by go_num, by go_num, by omega, HQ.out, trivial⟩, by simp [intOf]; omega⟩
      · have k1 : (l.length : Int) ≤ (k : Int) := by omega
        have HQ : Hid (ShortF l) := hid1 ⟨by omega, fun f hf => by
          obtain ⟨j, hj, rfl⟩ := List.getElem_of_mem hf
          exact (HS.out j hj (by omega)).1, fun f hf => by
          obtain ⟨j, hj, rfl⟩ := List.getElem_of_mem hf
          exact (HS.out j hj (by omega)).2⟩
        clear HS HI
        go_wp2
        go_ret
        exact ⟨false, rfl, rfl, .inr HQ.out⟩
theorem Tf.putF_mem {fs : Fs} {p b : List UInt8} {f : List UInt8 × List UInt8} (h : f ∈ Tf.putF pathB fs p b) : f ∈ fs ∨ f = (p, b) := by
  unfold Tf.putF at h
  split at h
  · rcases Tf.mem_put.1 h with h1 | h1
    · exact .inr h1
    · exact .inl h1.1
  · exact .inl h
end Go.Proofs.YtgdjgohiaffejaaGreatDoor
namespace Go.Proofs.YtgdjgohiaffejaaGreatDoor
open Go.RowKit Go.Shelf Go.Lib
set_option maxRecDepth 100000 in
set_option maxHeartbeats 8000000 in
theorem LongRules_any {w : World} (v : Value) (l : List Ru) (many : Nat) (hmany : many ≤ 40) (hrow : RRow w v l) :
    Calls Tryz.prog 40 #[v, .int .i64 many] w fun e w' => ∃ r : Int, e = .returned (.int .i64 r) ∧ w' = w ∧ (r = 1 ∨ (r = 0 ∧ (l.length ≤ many ∨ l.length = 41) ∧ ∀ x ∈ l, x.Small)) := by
  obtain ⟨p, cap, rfl, hcap, hnn, hin⟩ := hrow
  have HI := hid1 hin
  clear hin hnn
  have zM : (many : Int) ≤ 40 := by omega
  by_cases hm : l.length ≤ many ∨ l.length = 41
  · have HM := hid1 hm
    have hm' : (l.length : Int) ≤ (many : Int) ∨ ((many : Int) < (l.length : Int) ∧ ((l.length : Int) != 41) = false) := by
      rcases hm with h | h
      · exact .inl (by omega)
      · exact .inr ⟨by omega, by simp [h]⟩
    have hl : l.length ≤ 41 := by omega
    have zl : (l.length : Int) ≤ 41 := by omega
    clear hm
    rcases hm' with hm' | ⟨hm', hm2⟩
    all_goals
      go_enter Tryz.func40, Tryz.ntmps40
      go_wp2
      go_loopw [5] (fun i wr => ∃ k : Nat, k ≤ l.length ∧ i = .int .i64 k ∧ (∀ j (hj : j < l.length), j < k → l[j].Small) ∧ w = wr) (fun i _ => l.length - (intOf i).toNat)
      case atStart => exact ⟨0, Nat.zero_le _, rfl, fun j hj h => by omega, rfl⟩
      case round =>
        obtain ⟨k, hk, rfl, hz, rfl⟩ := hrel
        have HZ := hid1 hz
        clear hz
        have c0 : (0 : Int) ≤ (k : Int) := by omega
        by_cases hlt : k < l.length
        · have c1 : (k : Int) < (l.length : Int) := by omega
          obtain ⟨g', o, rfl, hg, hcur⟩ := HI.out (by intro e; rw [e] at hlt; simp at hlt)
          obtain ⟨u0, u1, u2, u, u3, ux⟩ := hcur k hlt
          have HT := hid1 (LongTexts_any u l[k].ins 12 300 (by omega) (by omega) ux.irow)
          have HN : Hid (l[k].Small → ∀ j (hj : j < l.length), j < k + 1 → l[j].Small) := hid1 fun hs j hj hjk => by
            rcases Nat.lt_or_ge j k with h | h
            · exact HZ.out j hj h
            · obtain rfl : j = k := by omega
              exact hs
          have HU := hid1 ux
          clear hcur HI HZ ux
          generalize l[k] = y at *
          obtain ⟨p3, cap3, rfl, _⟩ := HU.out
          by_cases h1 : 100 < y.out.length
          · have z1 : (100 : Int) < (y.out.length : Int) := by omega
            clear HT HN
            go_wp2
            go_ret
            exact ⟨1, rfl, rfl, .inl rfl⟩
          by_cases h2 : 60 < y.kind.length
          · have z1 : (y.out.length : Int) ≤ (100 : Int) := by omega
            have z2 : (60 : Int) < (y.kind.length : Int) := by omega
            clear HT HN
            go_wp2
            go_ret
            exact ⟨1, rfl, rfl, .inl rfl⟩
          by_cases h3 : 150 < y.word.length
          · have z1 : (y.out.length : Int) ≤ (100 : Int) := by omega
            have z2 : (y.kind.length : Int) ≤ (60 : Int) := by omega
            have z3 : (150 : Int) < (y.word.length : Int) := by omega
            clear HT HN
            go_wp2
            go_ret
            exact ⟨1, rfl, rfl, .inl rfl⟩
          have z1 : (y.out.length : Int) ≤ (100 : Int) := by omega
          have z2 : (y.kind.length : Int) ≤ (60 : Int) := by omega
          have z3 : (y.word.length : Int) ≤ (150 : Int) := by omega
          go_wp2_with fail
          refine HT.out.mono ?_
          rintro e w1 ⟨r, rfl, rfl, rfl | ⟨rfl, hy1, hy2⟩⟩
          · clear HT HN
            go_wp2
            go_ret
            exact ⟨1, rfl, rfl, .inl rfl⟩
          · have HNN := hid1 (HN.out ⟨by omega, by omega, by omega, hy1, hy2⟩)
            clear HT HN hy2
            go_wp2
            exact ⟨⟨k + 1, by omega, by go_num, HNN.out, trivial⟩, by simp [intOf]; omega⟩
        · have c1 : (l.length : Int) ≤ (k : Int) := by omega
          have HN : Hid (∀ x ∈ l, x.Small) := hid1 fun x hx => by
            obtain ⟨j, hj, rfl⟩ := List.getElem_of_mem hx
            exact HZ.out j hj (by omega)
          clear HI HZ
          go_wp2
          go_ret
          exact ⟨0, rfl, rfl, .inr ⟨rfl, HM.out, HN.out⟩⟩
  · have z1 : (many : Int) < (l.length : Int) := by omega
    have z2 : ((l.length : Int) != 41) = true := by simp; omega
    clear hm HI
    go_enter Tryz.func40, Tryz.ntmps40
    go_wp2
    go_ret
    exact ⟨1, rfl, rfl, .inl rfl⟩
end Go.Proofs.YtgdjgohiaffejaaGreatDoor
