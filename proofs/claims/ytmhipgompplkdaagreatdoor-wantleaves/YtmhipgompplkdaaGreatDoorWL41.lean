import Derived.Test.YtmhipgompplkdaaGreatDoorWL39
import Derived.Test.YtmhipgompplkdaaGreatDoorWL21
import Derived.Test.YtmhipgompplkdaaGreatDoorWL31
import Derived.Test.YtmhipgompplkdaaGreatDoorWL29
import Derived.Test.YtmhipgompplkdaaGreatDoorWL40
namespace Go.Proofs.YtmhipgompplkdaaGreatDoor
open Go.RowKit Go.Shelf Go.Lib Go.Maps
structure WantW (w : World) (es : Nat → Addr) : Prop where
  g : GraphW w es
  shape : w.cell? ⟨1, 0, Option.none⟩ = some (erOf es 3)
  none : w.cell? ⟨2, 0, Option.none⟩ = some (erOf es 6)
theorem WantW.below {w w' : World} {es : Nat → Addr} (h : WantW w es) (hb : Below w.heap.size w w') : WantW w' es := ⟨h.g.below hb, cell_below' h.shape hb, cell_below' h.none hb⟩
theorem WantW.ask {w : World} {es : Nat → Addr} (h : WantW w es) : AskE w es := ⟨h.g.s.a, h.none⟩
def OfTells (es : Nat → Addr) (fs : Tf.Fs) (l : List Ru) (out : List UInt8) (w : World) (s : List UInt8) (ev : Value) : Prop :=
  ((Ru.fault l).1 ≠ 0 ∧ s = [] ∧ ErrV w es ev (Ru.fault l)) ∨
  ((Ru.fault l).1 = 0 ∧ (∀ x ∈ l, x.out ≠ out) ∧ s = [] ∧ ev = erOf es 6) ∨
  ((Ru.fault l).1 = 0 ∧ (∃ x ∈ l, x.out = out) ∧ Ru.order l (Bf.need l [out]) = none ∧ s = [] ∧ ev = erOf es 9) ∨
  ((Ru.fault l).1 = 0 ∧ (∃ x ∈ l, x.out = out) ∧ (Ru.order l (Bf.need l [out])).isSome = true ∧ s = (Bf.want Af.actO fs l out).1 ∧ ev = erOf es (Bf.want Af.actO fs l out).2)
theorem OfTells.val {es : Nat → Addr} {fs : Tf.Fs} {l : List Ru} {out : List UInt8} {w : World} {s : List UInt8} {ev : Value} (h : OfTells es fs l out w s ev) : (∃ t u, ev = .iface t u) ∨ ev = .nilIface := by
  have he : ∀ c, (∃ t u, erOf es c = .iface t u) ∨ erOf es c = .nilIface := fun c => by
    cases c with
    | zero => exact .inr rfl
    | succ m => exact .inl ⟨_, _, rfl⟩
  rcases h with ⟨h1, _, h3⟩ | ⟨_, _, _, rfl⟩ | ⟨_, _, _, _, rfl⟩ | ⟨_, _, _, _, rfl⟩
  · exact .inl (h3.some h1)
  · exact he 6
  · exact he 9
  · exact he _
set_option maxRecDepth 100000 in
set_option maxHeartbeats 4000000 in
theorem containsI_of {W : World} {nb : Nat} {v : Value} {ll : List Nat} (hc : W.cell? ⟨nb, 0, none⟩ = some v) (hrow : NIRow W v ll) (hl : ll.length ≤ 1000) (x : Nat) : Calls Tryz.prog 121 #[nv x, .pointer (some ⟨nb, 0, none⟩)] W fun e w' => e = .returned (.bool (decide (x ∈ ll))) ∧ Below W.heap.size W w' := by
  have HC := hid1 (slContainsI_calls v ll x hrow (by omega))
  obtain ⟨p, c, rfl, -⟩ := hrow
  go_enter Tryz.func121, Tryz.ntmps121
  go_wp2_with fail
  refine HC.out.mono ?_
  rintro e w1 ⟨rfl, rfl⟩
  clear HC
  go_wp2
  go_ret
  exact ⟨rfl, Below.refl _ _⟩
set_option maxRecDepth 100000 in
set_option maxHeartbeats 4000000 in
theorem ofOrder_calls {es : Nat → Addr} {V : World} (hG : GraphW V es) (lv : Value) (l : List Ru) (hrow : RRow V lv l) (hl : l.length ≤ 1000) (hS : ∀ x ∈ l, x.Small) (nb : Nat) (v : Value) (ll : List Nat) (hc : V.cell? ⟨nb, 0, none⟩ = some v) (hr : NIRow V v ll) (hll : ll.length ≤ 1000) (hcl : ∀ i k, i ∈ ll → Ru.needs l i k = true → k ∈ ll) :
    Calls Tryz.prog 102 #[lv, .func (.func 121) #[] #[.pointer (some ⟨nb, 0, none⟩)]] V fun e w' => ∃ u ev, e = .returned (.tuple #[u, ev]) ∧ Below V.heap.size V w' ∧ SomeTells es l (fun k => decide (k ∈ ll)) w' u ev :=
  grOrderOf_calls hG lv l hrow hl hS 121 #[.pointer (some ⟨nb, 0, none⟩)] (enters_of Tryz.func121 (by kernel_rfl) rfl) (fun k => decide (k ∈ ll)) (hid1 fun i k hi hk => by
    simp only [decide_eq_true_eq] at hi ⊢
    exact hcl i k hi hk) (hid1 fun x W' _ gW => containsI_of (cell_below' hc gW) (hr.below gW) hll x)
set_option maxRecDepth 100000 in
set_option maxHeartbeats 16000000 in
theorem wOf_calls {es : Nat → Addr} {W : World} (hW : WantW W es) {Bt tb : Nat} {fs : Tf.Fs} {o : Option Nat} (hT : TreeAt Bt W tb fs o) (hby : ∀ x b, Tf.get fs x = some b → b.length ≤ 2000) (lv : Value) (l : List Ru) (hrow : RRow W lv l) (hl : l.length ≤ 1000) (hS : ∀ x ∈ l, x.Small) (out : List UInt8) (hout : out.length ≤ 1000) :
    Calls Tryz.prog 63 #[Ptr tb, lv, .string (ba out)] W fun e w' => ∃ s ev, e = .returned (.tuple #[.string (ba s), ev]) ∧ Below W.heap.size W w' ∧ OfTells es fs l out w' s ev := by
  have HSh := hid1 (ruSheet_calls hW.g.s l (by omega) lv hrow hS)
  have HNd := hid1 fun (V : World) (g : Below W.heap.size W V) (ov : Value) (hov : XRow V ov [out]) => gNeeds_calls (hW.g.s.below g) (cell_below' hW.none g) lv l (hrow.below g) hl hS ov [out] hov (by simp)
  have HOf := hid1 fun (V : World) (g : Below W.heap.size W V) => ofOrder_calls (hW.g.below g) lv l (hrow.below g) hl hS
  have HAk := hid1 fun (V : World) (g : Below W.heap.size W V) (h40 : l.length ≤ 40) (hA : ∀ i j (hi : i < l.length) (hj : j < l.length), l[i].out = l[j].out → i = j) => wAsker_calls (es := es) (hW.ask.below g) ⟨_, _, hT.below g⟩ hby lv (hrow.below g) h40 hS hA
  have hN := hW.none
  obtain ⟨pl, cl, rfl, -⟩ := hrow
  clear hW hT hS hby
  go_enter Tryz.func63, Tryz.ntmps63
  go_wp2_with fail
  refine HSh.out.mono ?_
  rintro e w1 ⟨u1, rfl, g1, hE⟩
  clear HSh
  by_cases hf : (Ru.fault l).1 = 0
  · obtain ⟨h40, hA⟩ := Ru.fault_ok hf
    have hu1 : u1 = .nilIface := by
      rcases hE with ⟨_, h, _⟩ | ⟨pb, m, _, _, h, _⟩
      · rw [h, hf]; rfl
      · rw [hf] at h; cases h
    subst hu1
    have HFt := hid1 hf
    have HAp : Hid (∀ i j (hi : i < l.length) (hj : j < l.length), l[i].out = l[j].out → i = j) := hid1 hA
    have gA : Below w1.heap.size w1 (w1.alloc (.cells #[.string (ba out)] 9)) := (Below.refl _ w1).alloc (Nat.le_refl _) _
    have G2 := below_then g1 gA
    have HX : Hid (XRow (w1.alloc (.cells #[.string (ba out)] 9)) (.slice (some ⟨w1.heap.size, 0, none⟩) 1 1) [out]) := hid1 ⟨_, 1, rfl, by simp, (fun h => by cases h), fun _ => ⟨_, 0, rfl, by simp, fun j hj => by
      obtain rfl : j = 0 := by simpa using hj
      exact cell_of_row (j := 0) (row_newW w1 _) rfl⟩⟩
    have HN1 := hid1 (HNd.out _ G2 _ HX.out)
    clear hE hf hA HNd HX
    go_wp2_with fail
    refine HN1.out.mono ?_
    rintro e w2 ⟨u2, ev, rfl, g2, hT1⟩
    have G3 := below_then G2 g2
    clear HN1
    rcases hT1 with ⟨hf, _⟩ | ⟨hf, k, hk, h1, h2, hE, pn, cn, rfl⟩ | ⟨hf, h1, rfl, f, hN0, hrw⟩
    · exact absurd HFt.out hf
    · obtain rfl : k = 0 := by simpa using hk
      have HP : Hid ((Ru.fault l).1 = 0 ∧ (∀ x ∈ l, x.out ≠ out)) := hid1 ⟨HFt.out, fun x hx => h1 x hx⟩
      obtain ⟨t, x, rfl⟩ := hE.some (by simp)
      have gB : Below w2.heap.size w2 (w2.alloc (.cells #[.slice pn 0 cn] 68)) := (Below.refl _ w2).alloc (Nat.le_refl _) _
      have G4 := below_then G3 gB
      have n4 := cell_below' hN G4
      clear hf hE h1 h2 HOf HAk
      go_wp2
      go_region
      go_wp2
      go_ret2
      exact ⟨_, _, rfl, below_draws G4 1, .inr (.inl ⟨HP.out.1, HP.out.2, rfl, rfl⟩)⟩
    · have HR1 := hid1 hrw
      obtain ⟨pn, cn, rfl, -⟩ := hrw
      have gB : Below w2.heap.size w2 (w2.alloc (.cells #[.slice pn ((List.range l.length).filter f).length cn] 68)) := (Below.refl _ w2).alloc (Nat.le_refl _) _
      have G4 := below_then G3 gB
      have hfl : ((List.range l.length).filter f).length ≤ 40 := Nat.le_trans (by simpa using List.length_filter_le f (List.range l.length)) h40
      have hch : ∀ k, k < l.length → (decide (k ∈ (List.range l.length).filter f)) = Bf.need l [out] k := fun k hk => by
        rw [Bf.need_eq hN0 hk]
        simp [hk]
      have HCh := hid1 (Ru.order_congr2 hch)
      have HO := hid1 (HOf.out _ G4 w2.heap.size _ _ (by simp) (HR1.out.below gB) (by omega) fun i k hi hk => by
        simp only [List.mem_filter, List.mem_range] at hi ⊢
        exact ⟨(Ru.needs_lt hk).2, hN0.closed i k hi.2 hk⟩)
      unfold SomeTells at HO
      rw [HCh.out] at HO
      have HEx : Hid (∃ x ∈ l, x.out = out) := hid1 (h1 0 (by simp))
      have HN := hid1 hN0
      clear hf h1 hN0 HOf HCh hch HR1
      go_wp2_with fail
      refine HO.out.mono ?_
      rintro e w3 ⟨u3, ev3, rfl, g3, hT3⟩
      have G5 := below_then G4 g3
      clear HO
      rcases hT3 with ⟨h0, -⟩ | ⟨-, hnone, rfl, pn3, cn3, rfl⟩ | ⟨-, ord, hsome, rfl, hr3⟩
      · exact absurd HFt.out h0
      · have HP : Hid (OfTells es fs l out w3 [] (erOf es 9)) := hid1 (.inr (.inr (.inl ⟨HFt.out, HEx.out, hnone, rfl, rfl⟩)))
        clear hnone HAk
        obtain ⟨t9, x9, e9⟩ : ∃ t x, erOf es 9 = .iface t x := ⟨_, _, rfl⟩
        rw [e9] at HP ⊢
        clear e9
        go_wp2
        go_ret2
        exact ⟨_, _, rfl, G5, HP.out⟩
      · obtain ⟨ht, hall⟩ := Ru.order_some hsome
        obtain ⟨hnd, hlt⟩ := Ru.order_nodup hsome
        have HSome : Hid ((Ru.order l (Bf.need l [out])).isSome = true) := hid1 (by rw [hsome]; rfl)
        have HIn : Hid (∀ i, Bf.mkr l out = some i → i ∈ ord) := hid1 fun i hi => by
          obtain ⟨hk, ek⟩ := Bf.mkr_of hi
          refine hall i hk ?_
          rw [Bf.need_eq HN.out hk]
          exact HN.out.start i (by unfold Ru.base; rw [List.getElem?_eq_getElem hk]; simp [ek])
        have HA3 := hid1 (HAk.out w3 G5 h40 HAp.out)
        have HAsk : Hid (∀ uv L W', AskB es tb fs l uv w3 → Asks es tb fs l uv w3 L W' → Calls Tryz.prog 180 (#[.string (ba out)] ++ L.caps) W' fun e w' => e = .returned (.tuple #[.string (ba (Bf.want Af.actO fs l out).1), erOf es (Bf.want Af.actO fs l out).2]) ∧ Asks es tb fs l uv w3 L w' ∧ Only (fun j => j = L.dm) W' w') := hid1 fun uv L W' hB hAs => ask_tells hB ht hnd hlt out hout HIn.out W' hAs
        obtain ⟨p3, c3, rfl, -⟩ := hr3
        clear HAk ht hall hnd hlt hsome HIn HN
        go_wp2_with fail
        refine HA3.out.mono ?_
        rintro e w4 ⟨uv, L, hB4, rfl, hA4⟩
        have HT := hid1 (HAsk.out uv L w4 hB4 hA4)
        have G6 := below_then G5 hA4.base
        have hnew := hA4.new
        have eg := wAsk1_enters
        have HEr : Hid (OfTells es fs l out w4 (Bf.want Af.actO fs l out).1 (erOf es (Bf.want Af.actO fs l out).2)) := hid1 (.inr (.inr (.inr ⟨HFt.out, HEx.out, HSome.out, rfl, rfl⟩)))
        have hz5 := G5.size
        clear HA3 HAsk hB4 hA4
        generalize Bf.want Af.actO fs l out = r at *
        go_wp2_with fail
        refine HT.out.mono ?_
        rintro e w5 ⟨rfl, hA5, hO5⟩
        have G7 : Below W.heap.size W w5 := G6.trans (hO5.below (fun j hj => by rw [hj]; omega) G6.size)
        clear HT hA5 hO5
        go_wp2
        go_ret2
        refine ⟨_, _, rfl, G7, ?_⟩
        rcases HEr.out with h | h | h | h
        · exact absurd HFt.out h.1
        · exact .inr (.inl h)
        · exact .inr (.inr (.inl h))
        · exact .inr (.inr (.inr h))
  · have HP : Hid (OfTells es fs l out w1 [] u1) := hid1 (.inl ⟨hf, rfl, hE⟩)
    obtain ⟨t, x, rfl⟩ := hE.some hf
    clear hf hE HOf HAk HNd
    go_wp2
    go_ret2
    exact ⟨_, _, rfl, g1, HP.out⟩
end Go.Proofs.YtmhipgompplkdaaGreatDoor
