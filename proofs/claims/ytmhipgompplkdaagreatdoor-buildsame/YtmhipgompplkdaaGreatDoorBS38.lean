import Derived.Test.YtmhipgompplkdaaGreatDoorBS37
import Derived.Test.YtmhipgompplkdaaGreatDoorBS29
import Derived.Test.YtmhipgompplkdaaGreatDoorBS20
import Derived.Test.YtmhipgompplkdaaGreatDoorBS23
namespace Go.Proofs.YtmhipgompplkdaaGreatDoor
open Go.RowKit Go.Shelf Go.Lib Go.Maps
set_option maxRecDepth 100000 in
set_option maxHeartbeats 8000000 in
theorem wFile_calls {W : World} {es : Nat → Addr} {B tb : Nat} {fs : Tf.Fs} {o : Option Nat} (hT : TreeAt B W tb fs o) (hE : AskE W es) (x : List UInt8) (hx : x.length ≤ 1000) :
    Calls Tryz.prog 181 #[Ptr tb, .string (ba x)] W fun e w' => e = .returned (.tuple #[.string (ba ((Tf.get fs x).getD [])), erOf es (if (Tf.get fs x).isSome = true then 0 else 6)]) ∧ Below W.heap.size W w' := by
  have HG := hid1 (Get_calls hT x (by omega))
  have hN := hE.none
  clear hE hT
  rw [hasW_get] at HG
  cases hg : Tf.get fs x with
  | none =>
    rw [hg] at HG
    simp only [Option.getD_none, Option.isSome_none] at HG ⊢
    clear hg
    go_enter Tryz.func181, Tryz.ntmps181
    go_wp2_with fail
    refine HG.out.mono ?_
    rintro e w1 ⟨rfl, g1⟩
    have n1 := cell_below' hN g1
    clear HG
    go_wp2
    go_region
    go_wp2
    go_ret2
    exact ⟨rfl, g1.drew⟩
  | some b =>
    rw [hg] at HG
    simp only [Option.getD_some, Option.isSome_some] at HG ⊢
    clear hg
    go_enter Tryz.func181, Tryz.ntmps181
    go_wp2_with fail
    refine HG.out.mono ?_
    rintro e w1 ⟨rfl, g1⟩
    clear HG
    go_wp2
    go_ret2
    exact ⟨rfl, g1⟩
def AskTells (es : Nat → Addr) (tb : Nat) (fs : Tf.Fs) (l : List Ru) (uv : Nat → Value) (W0 : World) (L : AskL) (x : List UInt8) : Prop :=
  ∀ V, Asks es tb fs l uv W0 L V → Calls Tryz.prog 180 (#[.string (ba x)] ++ L.caps) V fun e w' => e = .returned (.tuple #[.string (ba (Bf.want Af.actO fs l x).1), erOf es (Bf.want Af.actO fs l x).2]) ∧ Asks es tb fs l uv W0 L w' ∧ Only (fun j => j = L.dm) V w'
theorem wAsk1_enters : ∀ args w, (callFunc 180 args).run Tryz.prog w = .ok (.enter 180 args) w := enters_of Tryz.func180 (by kernel_rfl) rfl
set_option maxRecDepth 100000 in
set_option maxHeartbeats 16000000 in
theorem wRun_calls {es : Nat → Addr} {tb : Nat} {fs : Tf.Fs} {l : List Ru} {uv : Nat → Value} {W0 W : World} {L : AskL} (hB : AskB es tb fs l uv W0) (h : Asks es tb fs l uv W0 L W) (i : Nat) (hi : i < l.length) (HF : Hid (∀ x ∈ l[i].ins, AskTells es tb fs l uv W0 L x)) :
    Calls Tryz.prog 182 #[ruV l[i] (uv i), L.fn] W fun e w' => e = .returned (.tuple #[.string (ba (Bf.wrule Af.actO (Bf.want Af.actO fs l) l[i]).1), erOf es (Bf.wrule Af.actO (Bf.want Af.actO fs l) l[i]).2]) ∧ Asks es tb fs l uv W0 L w' ∧ Only (fun j => j = L.dm) W w' := by
  have hX := hB.ins i hi
  have hsm := hB.small _ (List.getElem_mem hi)
  have HE := hid1 hB.e
  have HL : Hid (∀ x, (Bf.want Af.actO fs l x).1.length ≤ 2000) := hid1 fun x => Bf.want_len hB.bytes x _
  have HA := hid1 h
  have hd := h.lt
  have eg := wAsk1_enters
  obtain ⟨i0, hti, hz0, hz1, hz2⟩ := info_parts Tryz.infoStr
  have hkl := hsm.kind
  have hwl := hsm.word
  have hil := hsm.many
  clear hB h hsm
  generalize hf : Bf.want Af.actO fs l = f at *
  generalize hr : l[i] = r at *
  obtain ⟨y, hy⟩ : ∃ y, Bf.wrule Af.actO f r = y := ⟨_, rfl⟩
  rw [hy]
  unfold Bf.wrule at hy
  have HY := hid1 hy
  clear hy
  obtain ⟨p, cap, eu, hcap, hnil, hin⟩ := hX
  rw [eu]
  have HIn := hid1 hin
  clear hin eu hr
  have zl : (r.ins.length : Int) ≤ 12 := by omega
  have bA : Below W.heap.size W (W.alloc (.cells #[.string (ba r.out), .string (ba r.kind), .string (ba r.word), .slice p r.ins.length cap] 90)) := (Below.refl _ W).alloc (Nat.le_refl _) _
  have HA1 := hid1 (HA.out.below bA)
  have HO1 : Hid (Only (fun j => j = L.dm) W (W.alloc (.cells #[.string (ba r.out), .string (ba r.kind), .string (ba r.word), .slice p r.ins.length cap] 90))) := hid1 (Only.of bA)
  have rr := row_newW W (.cells #[.string (ba r.out), .string (ba r.kind), .string (ba r.word), .slice p r.ins.length cap] 90)
  have HRR := hid1 rr
  have k1 := cell_of_row (j := 1) rr rfl
  have k2 := cell_of_row (j := 2) rr rfl
  have k3 := cell_of_row (j := 3) rr rfl
  clear HA bA rr
  go_enter Tryz.func182, Tryz.ntmps182
  go_wp2
  generalize hW1 : W.alloc (.cells #[.string (ba r.out), .string (ba r.kind), .string (ba r.word), .slice p r.ins.length cap] 90) = W1 at *
  have hz1' : W1.heap.size = W.heap.size + 1 := by rw [← hW1]; simp
  clear hW1
  go_loopw [6, 14] (fun lv iv wr => ∃ (k : Nat) (xs : List (List UInt8)), k ≤ r.ins.length ∧ iv = .int .i64 k ∧ Bf.winB f (r.ins.take k) = (xs, 0) ∧ wr.ownsRow W1.heap.size 9 1 lv xs.length (xs.map sv) ∧ Asks es tb fs l uv W0 L wr ∧ Only (fun j => j = L.dm) W1 wr) (fun _ iv _ => r.ins.length - (intOf iv).toNat)
  case atStart => exact ⟨0, [], Nat.zero_le _, rfl, rfl, World.ownsRow_nil _ _ _ _, HA1.out, ⟨rfl, rfl, rfl, Nat.le_refl _, fun _ _ _ => rfl⟩⟩
  case round =>
    obtain ⟨k, xs, hk, rfl, hg, hrow, hA, hO⟩ := hrel
    have hxl := Bf.winB_len f hg
    have hxl2 : xs.length ≤ 12 := by rw [hxl]; simp; omega
    have HG := hid1 hg
    have HRow := hid1 hrow
    have HAs := hid1 hA
    have HOn := hid1 hO
    have k0 : (0 : Int) ≤ (k : Int) := by omega
    clear hg hxl hrow
    by_cases hlt : k < r.ins.length
    · have k1' : (k : Int) < (r.ins.length : Int) := by omega
      obtain ⟨g, o, rfl, hgl, hc⟩ := HIn.out (by intro e; rw [e] at hlt; simp at hlt)
      have d0 := (hA.base.cell (p := ⟨g, o + k, none⟩) hgl).trans (hc k hlt)
      have hmem : r.ins[k] ∈ r.ins := List.getElem_mem hlt
      have HT := hid1 (HF.out r.ins[k] hmem wr hA)
      have htk : r.ins.take (k + 1) = r.ins.take k ++ [r.ins[k]] := List.take_succ_eq_append_getElem hlt
      have HSn : Hid ((f r.ins[k]).2 = 0 → Bf.winB f (r.ins.take (k + 1)) = (xs ++ [(f r.ins[k]).1], 0)) := hid1 fun h0 => by
        rw [htk]; exact Bf.winB_snoc f _ _ HG.out h0
      have HSt : Hid ((f r.ins[k]).2 ≠ 0 → (Bf.winB f r.ins).2 = (f r.ins[k]).2) := hid1 fun h0 => by
        have := Bf.winB_stop f (r.ins.take k) r.ins[k] (r.ins.drop (k + 1)) HG.out h0
        rwa [← List.drop_eq_getElem_cons hlt, List.take_append_drop] at this
      rw [hf] at HT
      clear hc hA hO htk hmem HIn HF HG HL hcap hnil
      generalize r.ins[k] = x at *
      obtain ⟨b, c, hbc⟩ : ∃ b c, f x = (b, c) := ⟨_, _, rfl⟩
      rw [hbc] at HT HSn HSt
      clear hbc
      simp only at HT HSn HSt
      cases c with
      | zero =>
        have HT0 : Hid (erOf es 0 = .nilIface) := hid1 rfl
        rw [HT0.out] at HT
        have HS := hid1 (HSn.out rfl)
        clear HSn HSt HT0
        go_wp2_with fail
        refine HT.out.mono ?_
        rintro e w3 ⟨rfl, hA3, hO3⟩
        have hrow3 : w3.ownsRow W1.heap.size 9 1 u6 xs.length (xs.map sv) := own_same HRow.out fun j hj => hO3.block j (own_lt HRow.out _ hj.symm).2 fun e => by have := (own_lt HRow.out _ hj.symm).1; omega
        have HA3 := hid1 hA3
        have hB3 : Only (fun j => j = L.dm) W1 w3 := HOn.out.trans hO3 fun j hj => .inl hj
        have hml : xs.length + 1 ≤ maxLen := by unfold maxLen; omega
        have hz3 := hB3.size
        have HB3 := hid1 hB3
        clear HT hA3 hO3 HRow hB3 HAs HOn
        go_wp2_with (first
          | (at_builtin; refine wpList_append_own _ rfl _ _ 45 rfl W1.heap.size 9 i0 (.string ⟨#[]⟩) 1 16 Tryz.underlying45 hti hz0 hz1 hz2 rfl (by decide) _ _ _ rfl (hrow3.alloc _) ⟨w3.heap.size, 0, none⟩ 1 1 [sv b] rfl rfl (one_new _ _ _ _ (by simp)) (by simp [Value.oneCell']) hml (by omega) (by simp; omega) ?_; intro v' w4 hown' hgrow _)
          | go_in)
        have hb4 : Below W1.heap.size w3 w4 := below_appended (Below.refl _ w3) hz3 hrow3 hgrow
        exact ⟨⟨k + 1, xs ++ [b], by omega, by go_num, HS.out, by rw [List.length_append, List.map_append]; exact hown', HA1.out.after HA3.out hb4, HB3.out.then hb4⟩, by simp [intOf]; omega⟩
      | succ m =>
        have HS := hid1 (HSt.out (by omega))
        obtain ⟨t, u, et⟩ : ∃ t u, erOf es (m + 1) = .iface t u := ⟨_, _, rfl⟩
        rw [et] at HT
        have HP : Hid (Ending.returned (.tuple #[.string (ba []), .iface t u]) = Ending.returned (.tuple #[.string (ba y.1), erOf es y.2])) := hid1 (by
          have h1 := HY.out
          rw [if_neg (by rw [HS.out]; omega), HS.out] at h1
          rw [← h1, et])
        clear HSn HSt et
        go_wp2_with fail
        refine HT.out.mono ?_
        rintro e w3 ⟨rfl, hA3, hO3⟩
        have HB3 := hid1 (HOn.out.trans hO3 fun j hj => .inl hj)
        have HA3 := hid1 hA3
        clear HT hA3 hO3
        go_wp2
        go_ret2
        exact ⟨HP.out, HA3.out, HO1.out.trans HB3.out fun j hj => .inl hj⟩
    · have k1' : (r.ins.length : Int) ≤ (k : Int) := by omega
      have HG2 : Hid (Bf.winB f r.ins = (xs, 0)) := hid1 (by
        have := HG.out
        rwa [List.take_of_length_le (by omega)] at this)
      have hxs : ∀ y ∈ xs, y.length ≤ 3000 := fun y hy => by
        have := Bf.winB_all f (fun z => z.length ≤ 2000) HL.out HG2.out y hy
        omega
      have hya : y = Af.actO r.kind r.word xs := by
        have h1 := HY.out
        rw [HG2.out, if_pos rfl] at h1
        exact h1.symm
      have HRn := hid1 (Run_any (HE.out.a.stays hA.base) r.kind r.word (by omega) u6 xs (TRow.of_owns HRow.out) hxs)
      have e1 := hO.cell k1 (by simp only; omega)
      have e2 := hO.cell k2 (by simp only; omega)
      obtain ⟨pv, cv, rfl⟩ := own_val HRow.out
      clear HG HL HE HF HIn hxs HRow hA hO
      rw [← hya] at HRn
      clear hya HY
      go_wp2_with fail
      refine HRn.out.mono ?_
      rintro e w3 ⟨rfl, g3⟩
      have HP : Hid (Asks es tb fs l uv W0 L w3 ∧ Only (fun j => j = L.dm) W w3) := hid1 ⟨HAs.out.below g3, HO1.out.trans (HOn.out.trans (Only.of g3) fun j hj => .inl hj) fun j hj => .inl hj⟩
      clear HRn
      go_wp2
      go_ret2
      exact ⟨rfl, HP.out.1, HP.out.2⟩
end Go.Proofs.YtmhipgompplkdaaGreatDoor
