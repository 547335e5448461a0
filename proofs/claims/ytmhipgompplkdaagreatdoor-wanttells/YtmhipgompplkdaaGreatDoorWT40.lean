import Derived.Test.YtmhipgompplkdaaGreatDoorWT39
import Derived.Test.YtmhipgompplkdaaGreatDoorWT36
namespace Go.Proofs.YtmhipgompplkdaaGreatDoor
open Go.RowKit Go.Shelf Go.Lib Go.Maps
def AllTells (es : Nat → Addr) (fs : Tf.Fs) (l : List Ru) (n : Nat) (w : World) (av ev : Value) : Prop :=
  ((Ru.fault l).1 ≠ 0 ∧ av = .pointer none ∧ ErrV w es ev (Ru.fault l)) ∨
  ((Ru.fault l).1 = 0 ∧ Ru.order l allB1 = none ∧ av = .pointer none ∧ ev = erOf es 9) ∨
  ((Ru.fault l).1 = 0 ∧ ∃ o ab oo, Ru.order l allB1 = some o ∧ av = Ptr ab ∧ ev = .nilIface ∧ TreeAt n w ab (Bf.allW fs l o) oo)
set_option maxRecDepth 100000 in
set_option maxHeartbeats 16000000 in
theorem wAll_calls {es : Nat → Addr} {W : World} (hW : WantW W es) (hE : TErr W (erOf es)) {Bt tb : Nat} {fs : Tf.Fs} {o : Option Nat} (hT : TreeAt Bt W tb fs o) (hw : Tf.Well pathB fs) (hlen : ∀ f ∈ fs, f.1.length ≤ 1000) (lv : Value) (l : List Ru) (hrow : RRow W lv l) (hl : l.length ≤ 1000) (hS : ∀ x ∈ l, x.Small) :
    Calls Tryz.prog 78 #[Ptr tb, lv] W fun e w' => ∃ av ev, e = .returned (.tuple #[av, ev]) ∧ Below W.heap.size W w' ∧ AllTells es fs l W.heap.size w' av ev := by
  have hby : ∀ x b, Tf.get fs x = some b → b.length ≤ 2000 := fun x b hb => (hw.each _ (Bf.get_mem hb)).2
  have HOd := hid1 (gOrder_calls hW.g lv l hrow hl hS)
  have HAk := hid1 fun (V : World) (g : Below W.heap.size W V) (h40 : l.length ≤ 40) (hA : ∀ i j (hi : i < l.length) (hj : j < l.length), l[i].out = l[j].out → i = j) => wAsker_calls (es := es) (hW.ask.below g) ⟨_, _, hT.below g⟩ hby lv (hrow.below g) h40 hS hA
  have HCp := hid1 fun (V : World) (g : Below W.heap.size W V) => wCopy_calls (hE.below g) (hT.below g) hw hlen
  have HE := hid1 hE
  have HWl := hid1 hw
  have HLn := hid1 hlen
  have HS := hid1 hS
  obtain ⟨pl, cl, rfl, hcl, hnl, hlc⟩ := hrow
  have HLc := hid1 hlc
  clear hW hT hS hby hE hw hlen hcl hnl hlc
  go_enter Tryz.func78, Tryz.ntmps78
  go_wp2_with fail
  refine HOd.out.mono ?_
  rintro e w1 ⟨u1, ev, rfl, g1, hT1⟩
  clear HOd
  rcases hT1 with ⟨hf, hE, pn, cn, rfl⟩ | ⟨hf, hnone, rfl, pn, cn, rfl⟩ | ⟨hf, ord, hsome, rfl, hr1⟩
  · have HP : Hid (AllTells es fs l W.heap.size w1 (.pointer none) ev) := hid1 (.inl ⟨hf, rfl, hE⟩)
    obtain ⟨t, x, rfl⟩ := hE.some hf
    clear hf hE HAk HCp HLc
    go_wp2
    go_ret2
    exact ⟨_, _, rfl, g1, HP.out⟩
  · have HP : Hid (AllTells es fs l W.heap.size w1 (.pointer none) (erOf es 9)) := hid1 (.inr (.inl ⟨hf, hnone, rfl, rfl⟩))
    obtain ⟨t9, x9, e9⟩ : ∃ t x, erOf es 9 = .iface t x := ⟨_, _, rfl⟩
    rw [e9] at HP ⊢
    clear hf hnone HAk HCp HLc e9
    go_wp2
    go_ret2
    exact ⟨_, _, rfl, g1, HP.out⟩
  · obtain ⟨h40, hA⟩ := Ru.fault_ok hf
    obtain ⟨ht, hall⟩ := Ru.order_some hsome
    obtain ⟨hnd, hlt⟩ := Ru.order_nodup hsome
    have hol : ord.length ≤ l.length := Bf.order_len hnd hlt
    have HFt := hid1 hf
    have HSm := hid1 hsome
    have HLt := hid1 hlt
    have HAsk : Hid (∀ uv L, AskB es tb fs l uv w1 → ∀ i ∈ ord, ∀ hi : i < l.length, AskTells es tb fs l uv w1 L l[i].out) := hid1 fun uv L hB i hi hil => ask_tells hB ht hnd hlt l[i].out (by have := (HS.out _ (List.getElem_mem hil)).out; omega) fun j hj => by
      obtain ⟨hk, ek⟩ := Bf.mkr_of hj
      have := hA j i hk hil ek
      rw [this]; exact hi
    obtain ⟨po, co, rfl, hoc⟩ := hr1
    have HOc := hid1 hoc
    have zo : (ord.length : Int) ≤ 40 := by omega
    have zl : (l.length : Int) ≤ 40 := by omega
    have HA1 := hid1 (HAk.out w1 g1 h40 hA)
    clear HAk hoc ht hall hnd hlt hf hsome hA
    go_wp2_with fail
    refine HA1.out.mono ?_
    rintro e w2 ⟨uv, L, hB2, rfl, hA2⟩
    have HA2 := hid1 hA2
    have hd2 := hA2.lt
    have hz12 := hA2.base.size
    have G2 := below_then g1 hA2.base
    have HTl := hid1 (HAsk.out uv L hB2)
    have HC2 := hid1 (HCp.out w2 G2)
    clear HA1 HAsk HCp hB2 hA2
    go_wp2_with fail
    refine HC2.out.mono ?_
    rintro e w3 ⟨cb, o3, rfl, hT3, g3⟩
    have HT3 := hid1 hT3
    have HA3 := hid1 (HA2.out.below g3)
    have G3 := below_then G2 g3
    have eg := wAsk1_enters
    clear HC2 hT3
    go_wp2
    go_loopw [32] (fun iv wr => ∃ (k : Nat) (oo : Option Nat), k ≤ ord.length ∧ iv = .int .i64 k ∧ Asks es tb fs l uv w1 L wr ∧ TreeAt w2.heap.size wr cb (Bf.allW fs l (ord.take k)) oo) (fun iv _ => ord.length - (intOf iv).toNat)
    case atStart => exact ⟨0, o3, Nat.zero_le _, rfl, HA3.out, HT3.out⟩
    case round =>
      clear HA3 HT3
      obtain ⟨k, oo, hk, rfl, hAs, hTr⟩ := hrel
      have k0 : (0 : Int) ≤ (k : Int) := by omega
      have HAs := hid1 hAs
      have HTr := hid1 hTr
      have hz := hAs.base.size
      have gW : Below W.heap.size W wr := below_then g1 hAs.base
      by_cases hklt : k < ord.length
      · have k1 : (k : Int) < (ord.length : Int) := by omega
        obtain ⟨g, oi, rfl, hg, hc⟩ := HOc.out (by intro e; rw [e] at hklt; simp at hklt)
        have d0 := (hAs.base.cell (p := ⟨g, oi + k, none⟩) hg).trans (hc k hklt)
        have hil : ord[k] < l.length := HLt.out _ (List.getElem_mem hklt)
        have HTk := hid1 (HTl.out ord[k] (List.getElem_mem hklt) hil wr hAs)
        have htk : ord.take (k + 1) = ord.take k ++ [ord[k]] := List.take_succ_eq_append_getElem hklt
        have HSn : Hid (Bf.allW fs l (ord.take (k + 1)) = Bf.allS fs l (Bf.allW fs l (ord.take k)) ord[k]) := hid1 (by rw [htk, Bf.allW_snoc])
        clear hc htk HOc hAs hTr HTl HLt
        generalize ord[k] = i at *
        have i0 : (0 : Int) ≤ (i : Int) := by omega
        have i1 : (i : Int) < (l.length : Int) := by omega
        obtain ⟨g2, o2, rfl, hg2, hc2⟩ := HLc.out (by intro e; rw [e] at hil; simp at hil)
        have b0 := (hc2 i hil).1
        have c0 := cell_below' b0 gW
        have HB0 := hid1 b0
        have hsm := HS.out _ (List.getElem_mem hil)
        have hout := hsm.out
        unfold Bf.allS at HSn
        rw [Bf.getD_at hil] at HSn
        clear HLc hc2 b0 hsm
        generalize l[i].out = x at *
        have HPt := hid1 fun (V : World) (oo' : Option Nat) (gV : Below W.heap.size W V) (hTV : TreeAt w2.heap.size V cb (Bf.allW fs l (ord.take k)) oo') (b : List UInt8) => PutK_calls hTV (HE.out.below gV) (fun f hf => by have := Bf.allW_len HS.out HLn.out (ord.take k) f hf; omega) (by have := (Bf.allW_well HWl.out (ord.take k) (l := l) (fs := fs)).few; omega) x b (by omega)
        obtain ⟨b, c, hbc⟩ : ∃ b c, Bf.want Af.actO fs l x = (b, c) := ⟨_, _, rfl⟩
        rw [hbc] at HTk HSn
        clear hbc
        simp only at HTk HSn
        cases c with
        | zero =>
          rw [erOf_zero] at HTk
          rw [if_pos rfl] at HSn
          go_wp2_with fail
          refine HTk.out.mono ?_
          rintro e w4 ⟨rfl, hA4, hO4⟩
          have hT4 : TreeAt w2.heap.size w4 cb (Bf.allW fs l (ord.take k)) oo := HTr.out.kept ⟨hO4.size, hO4.block⟩ (fun e => by have := HTr.out.low; omega) (fun j ej e => by have := HTr.out.lowM ej; omega)
          have g4 : Below W.heap.size W w4 := below_then g1 hA4.base
          have c4 := cell_below' HB0.out g4
          have HP4 := hid1 (HPt.out w4 oo g4 hT4 b)
          have HA4 := hid1 hA4
          clear HTk HPt hT4 hA4 hO4 HTr
          go_wp2_with fail
          refine HP4.out.mono ?_
          rintro e w5 ⟨rfl, ⟨o5, _, hT5⟩, hb5, _⟩
          have HA5 := hid1 (HA2.out.after HA4.out hb5)
          have HT5 : Hid (TreeAt w2.heap.size w5 cb (Bf.allW fs l (ord.take (k + 1))) o5) := hid1 (by rw [HSn.out]; exact hT5)
          clear HP4 hT5 hb5
          go_wp2
          exact ⟨⟨k + 1, o5, by omega, by go_num, HA5.out, HT5.out⟩, by simp [intOf]; omega⟩
        | succ m =>
          obtain ⟨t, u, et⟩ : ∃ t u, erOf es (m + 1) = .iface t u := ⟨_, _, rfl⟩
          rw [et] at HTk
          rw [if_neg (by omega)] at HSn
          clear HPt et
          go_wp2_with fail
          refine HTk.out.mono ?_
          rintro e w4 ⟨rfl, hA4, hO4⟩
          have HT4 : Hid (TreeAt w2.heap.size w4 cb (Bf.allW fs l (ord.take (k + 1))) oo) := hid1 (by
            rw [HSn.out]
            exact HTr.out.kept ⟨hO4.size, hO4.block⟩ (fun e => by have := HTr.out.low; omega) (fun j ej e => by have := HTr.out.lowM ej; omega))
          have HA4 := hid1 hA4
          clear HTk hA4 hO4 HTr
          go_wp2
          exact ⟨⟨k + 1, oo, by omega, by go_num, HA4.out, HT4.out⟩, by simp [intOf]; omega⟩
      · have k1 : (ord.length : Int) ≤ (k : Int) := by omega
        have HP : Hid (AllTells es fs l W.heap.size wr (Ptr cb) .nilIface) := hid1 (.inr (.inr ⟨HFt.out, ord, cb, oo, HSm.out, rfl, rfl, by
          rw [List.take_of_length_le (by omega)] at hTr
          exact hTr.mono G2.size⟩))
        clear hAs hTr HOc HLc HTl
        go_wp2
        go_ret2
        exact ⟨_, _, rfl, gW, HP.out⟩
end Go.Proofs.YtmhipgompplkdaaGreatDoor
