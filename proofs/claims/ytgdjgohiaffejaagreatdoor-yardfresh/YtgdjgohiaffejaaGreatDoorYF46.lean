import Derived.Test.YtgdjgohiaffejaaGreatDoorYF43
import Derived.Test.YtgdjgohiaffejaaGreatDoorYF38
import Derived.Test.YtgdjgohiaffejaaGreatDoorYF45
import Derived.Test.YtgdjgohiaffejaaGreatDoorYF34
namespace Go.Proofs.YtgdjgohiaffejaaGreatDoor
open Go.RowKit Go.Shelf Go.Lib
theorem parts_slash : ∀ x : List UInt8, ∃ a b, Kf.parts (x ++ [47]) = a :: b ∧ [] ∈ b
  | [] => ⟨[], [[]], by simp [Kf.parts], by simp⟩
  | c :: r => by
    obtain ⟨a, b, e, h⟩ := parts_slash r
    rw [List.cons_append]
    unfold Kf.parts
    by_cases hc : c = 47
    · rw [if_pos hc]
      exact ⟨[], _, rfl, by rw [e]; exact List.mem_cons_of_mem _ h⟩
    · rw [if_neg hc, e]
      exact ⟨c :: a, b, rfl, h⟩
theorem path_slash (x : List UInt8) : pathB (x ++ [47]) = false := by
  obtain ⟨a, b, e, h⟩ := parts_slash x
  unfold pathB allB
  rw [e, Bool.and_eq_false_iff]
  right
  rw [List.all_eq_false]
  exact ⟨[], List.mem_cons_of_mem _ h, by simp [nameK, ba]⟩
theorem above_no {a p : List UInt8} (hp : pathB p = true) (h : ¬ (a.length + 1 < p.length ∧ p.take (a.length + 1) = a ++ [47])) : Tf.above a p = false := by
  cases hab : Tf.above a p with
  | false => rfl
  | true =>
    exfalso
    unfold Tf.above Lib.hasPrefix at hab
    obtain ⟨t, rfl⟩ := List.isPrefixOf_iff_prefix.1 hab
    cases t with
    | nil =>
      rw [List.append_nil, path_slash] at hp
      cases hp
    | cons c t =>
      refine h ⟨by simp, ?_⟩
      rw [List.take_append_of_le_length (by simp)]
      rw [List.take_of_length_le (by simp)]
theorem out_path {l : List Ru} (hf : (Ru.fault l).1 = 0) {i : Nat} (hi : i < l.length) : pathB l[i].out = true := by
  obtain ⟨h40, -⟩ := Ru.fault_ok hf
  have he : Ru.errAt l i = 0 := by
    unfold Ru.fault at hf
    rw [if_neg (by omega)] at hf
    cases hfi : Ru.first (Ru.errAt l) l.length with
    | none => exact Ru.first_none_zero hfi i hi
    | some k =>
      rw [hfi] at hf
      exact absurd hf (Ru.first_some_ne hfi)
  rw [Ru.errAt_eq hi] at he
  have her : l[i].err = 0 := by
    by_cases hz : l[i].err = 0
    · exact hz
    · rw [if_pos hz] at he; exact absurd he hz
  unfold Ru.err at her
  cases hpb : pathB l[i].out with
  | true => rfl
  | false => rw [if_pos hpb] at her; cases her
def FFRow (w : World) (v : Value) (l : List Tf.Fs) : Prop :=
  ∃ p cap, v = .slice p l.length cap ∧ (l ≠ [] → ∃ g o, p = some ⟨g, o, none⟩ ∧ g < w.heap.size ∧ ∀ j (hj : j < l.length), ∃ u, w.cell? ⟨g, o + j, none⟩ = some u ∧ FIRow w u l[j])
theorem FFRow.below {w w' : World} {v : Value} {l : List Tf.Fs} (h : FFRow w v l) (hb : Below w.heap.size w w') : FFRow w' v l := by
  obtain ⟨p, cap, e, h1⟩ := h
  refine ⟨p, cap, e, fun hl => ?_⟩
  obtain ⟨g, o, e, hg, hc⟩ := h1 hl
  refine ⟨g, o, e, Nat.lt_of_lt_of_le hg hb.size, fun j hj => ?_⟩
  obtain ⟨u, h2, h3⟩ := hc j hj
  exact ⟨u, cell_below' h2 hb, h3.below hb⟩
end Go.Proofs.YtgdjgohiaffejaaGreatDoor
namespace Go.Proofs.YtgdjgohiaffejaaGreatDoor
open Go.RowKit Go.Shelf Go.Lib
variable {es : Nat → Addr} {At : (Nat → Prop) → World → Value → Nat → Cf.Ens → Prop} {BAt : (Nat → Prop) → World → Value → Value → Bf.Bd → Prop}
theorem make_fine (HC : Caches0 es At) (HB : Builds es Af.actO At BAt) {B : Nat} {V : World} {yb : Nat} {L : YL} {y : Bf.Yd} {l : List Ru} {m : Nat} (h : YdAt At B V yb L y) (hY : YBase B V es) (hf : Bf.YFine l m y) (hk : SheetOk l) :
    Calls Tryz.prog 84 #[Ptr yb, .slice none 0 0] V fun e w' => e = .returned (.tuple #[countV (y.made []).1, .nilIface]) ∧ Below B V w' ∧ (∀ j, j < V.heap.size → j ≠ L.ob → L.o2 ≠ some j → ¬ L.SC j → w'.heap[j]? = V.heap[j]?) ∧ ∃ L', YdAt At B w' yb L' (y.makeP []) :=
  (yMake_calls HC HB h hY (hf.ok hk) (.slice none 0 0) [] (XRow.nil _) (by simp) (fun p hp => by simp at hp)).mono fun _ _ ⟨h1, h2, h3, L', _, _, h4⟩ => ⟨h1, h2, h3, L', h4⟩
theorem text_fine {B : Nat} {V : World} {tb : Nat} {fs : Tf.Fs} {o : Option Nat} (h : TreeAt B V tb fs o) (hP : Pow V) (hw : Tf.Well pathB fs) :
    Calls Tryz.prog 18 #[Ptr tb] V fun e w' => e = .returned (.string (ba (Tf.textT fs))) ∧ Below V.heap.size V w' :=
  Text_calls h hP hw.rises (by have := hw.few; omega) fun f hf => ⟨by have := well_len hw f hf; omega, (hw.each f hf).2⟩
theorem stale_fine (HC : Caches0 es At) {B : Nat} {V : World} {yb : Nat} {L : YL} {y : Bf.Yd} {l : List Ru} {m : Nat} (h : YdAt At B V yb L (y.makeP [])) (hY : YBase B V es) (hf : Bf.YFine l m y) (hk : SheetOk l) (hl : Bf.Flat l) :
    Calls Tryz.prog 85 #[Ptr yb] V fun e w' => ∃ p c, e = .returned (.slice p 0 c) ∧ Below V.heap.size V w' := by
  have h1 := hf.make hk hl
  refine (yStale_calls HC h hY.want h1.1.fs (by rw [h1.1.hl]; exact hk)).mono ?_
  rintro e w' ⟨u, rfl, hr, g⟩
  rw [h1.1.hl, show (y.makeP []).fs = y.fs from rfl, h1.2] at hr
  obtain ⟨p, c, rfl, -⟩ := hr
  exact ⟨p, c, rfl, g⟩
theorem take_cmp (xi xk : List UInt8) : (((ba xk).extract 0 (xi.length + 1)).toList == (ba xi ++ { data := #[47] }).toList) = (xk.take (xi.length + 1) == xi ++ [47]) := by
  rw [ba_extract, show (ByteArray.mk #[47]) = ba [47] from rfl, ba_append, ba_toList, ba_toList]
  simp
theorem fine_new {l : List Ru} {m : Nat} (h1 : 1 ≤ m) (h2 : m ≤ 100) {fs : Tf.Fs} (hw : Tf.Well pathB fs) : Bf.YFine l m ⟨fs, [], l, some (m, [])⟩ := ⟨rfl, hw, Ly.wellnil, fun f hf => by simp at hf, ⟨_, rfl⟩, ⟨h1, h2, Cf.Ok.nil m, by simp⟩, fun e he => by simp at he⟩
set_option maxRecDepth 100000 in
set_option maxHeartbeats 64000000 in
theorem YardFresh_calls (HB : Builds es Af.actO At BAt) (HC : Caches0 es At) {W : World} (hW : BuildW W es) (hE : TErr W (erOf es)) (vl : Value) (l : List Ru) (hR : RRow W vl l) (ve : Value) (el : List Tf.Fs) (hEd : FFRow W ve el) :
    Calls Tryz.prog 12 #[vl, ve] W fun e w' => e = .returned (.bool true) ∧ Below W.heap.size W w' := by
  have HYd := hid1 (yarded_calls HB HC hW hE)
  have HLr := hid1 fun V (g : Below W.heap.size W V) => LongRules_any (w := V) vl l 12 (by omega) (hR.below g)
  have HOr := hid1 fun V (g : Below W.heap.size W V) (hl : l.length ≤ 1000) (h12 : ∀ x ∈ l, x.ins.length ≤ 12) => OwnRules_calls (w := V) vl l hl (hR.below g) h12
  have HBase := hid1 fun V (g : Below W.heap.size W V) => YBase.of (es := es) (hW.below g) (hE.below g)
  have HPw := hid1 fun V (g : Below W.heap.size W V) => (hW.below g).g.s.a.aw.pow
  have HCs := hid1 HC
  have HBs := hid1 HB
  obtain ⟨pl, cl, rfl, hcl, hnl, hlc⟩ := hR
  have HLc := hid1 hlc
  obtain ⟨pe, ce, rfl, hec⟩ := hEd
  have HEc := hid1 hec
  clear HB HC hW hE hlc hnl hec
  go_enter Tryz.func12, Tryz.ntmps12
  go_wp2_with fail
  refine HYd.out.mono ?_
  rintro e w1 ⟨rfl, g1⟩
  have HL2 := hid1 (HLr.out w1 g1)
  clear HYd HLr
  go_wp2_with fail
  refine HL2.out.mono ?_
  rintro e w' ⟨r, rfl, hw', hr⟩
  subst hw'
  clear HL2
  rcases hr with rfl | ⟨rfl, hlen, hsm⟩
  · clear HOr HBase HPw
    go_wp2
    go_ret
    exact ⟨rfl, g1⟩
  by_cases h6 : 6 < el.length
  · have z6 : (6 : Int) < (el.length : Int) := by omega
    clear HOr HBase HPw
    go_wp2
    go_ret
    exact ⟨rfl, g1⟩
  have z6 : (el.length : Int) ≤ 6 := by omega
  have HN := hid1 (yNew_calls HCs.out w' 100 (by omega) (by omega))
  have HSm := hid1 hsm
  have hl41 : l.length ≤ 41 := by omega
  have HY1 := hid1 (HBase.out w' g1)
  clear h6 hsm hlen
  generalize w' = w1 at *
  go_wp2_with fail
  refine HN.out.mono ?_
  rintro e w2 ⟨yb, L2, rfl, g2, hy2⟩
  have G2 := below_then g1 g2
  have HO2 := hid1 (HOr.out w2 G2 (by omega) (fun x hx => (HSm.out x hx).many))
  have HY2 := hid1 hy2
  have z2 := g2.size
  clear HN hy2
  go_wp2_with fail
  refine HO2.out.mono ?_
  rintro e w3 ⟨v3, rfl, hR3, g3⟩
  have G13 := below_then g2 g3
  have HRl := hid1 (yRules_calls HCs.out (HY2.out.below HCs.out g3) (HY1.out.trans G13).build.w.g v3 l hR3 (by omega) HSm.out)
  obtain ⟨p3, c3, rfl, -⟩ := hR3
  clear HO2 HY2 G2 g2 g3 z2
  go_wp2_with fail
  refine HRl.out.mono ?_
  rintro e w4 ⟨ev, rfl, g4, hcase⟩
  have G14 := G13.trans g4
  have GW4 := below_then g1 G14
  clear HRl g4 G13
  rcases hcase with ⟨⟨t, u, rfl⟩, -, -⟩ | ⟨rfl, hf0, hos, L4, -, -, hy4⟩
  · clear HOr HBase HPw
    go_wp2
    go_ret
    exact ⟨rfl, GW4⟩
  have hk : SheetOk l := ⟨hf0, hos, HSm.out⟩
  have hl12 : l.length ≤ 40 := hk.len
  have zl : (l.length : Int) ≤ 40 := by omega
  have zcl : (l.length : Int) ≤ (cl : Int) := by omega
  have HK := hid1 hk
  have HY4 := hid1 hy4
  have z14 := G14.size
  clear hf0 hos hy4 hk HSm hl41
  have HSl : Hid (∀ i (hi : i < l.length), l[i].out.length ≤ 100) := hid1 fun i hi => (HK.out.small _ (List.getElem_mem hi)).out
  go_wp2
  go_loopw [8] (fun iv wr => ∃ i : Nat, i ≤ l.length ∧ iv = .int .i64 i ∧ w4 = wr ∧ ∀ i' k (hi' : i' < l.length) (hk : k < l.length), i' < i → Tf.above l[i'].out l[k].out = false) (fun iv _ => l.length - (intOf iv).toNat)
  case atStart => exact ⟨0, Nat.zero_le _, rfl, rfl, fun i' k _ _ h => by omega⟩
  case round =>
    obtain ⟨i, hi, rfl, rfl, hfl⟩ := hrel
    have HFl := hid1 hfl
    clear hfl
    have i0 : (0 : Int) ≤ (i : Int) := by omega
    by_cases hlt : i < l.length
    · have i1 : (i : Int) < (l.length : Int) := by omega
      obtain ⟨g, o, rfl, hg, hc⟩ := HLc.out (by intro e; rw [e] at hlt; simp at hlt)
      have ci := cell_below' (hc i hlt).1 GW4
      have HCk : Hid (∀ k (hk : k < l.length), w4.cell? ⟨g, o + k * 4, none⟩ = some (.string (ba l[k].out))) := hid1 fun k hk => cell_below' (hc k hk).1 GW4
      have hxi := HSl.out i hlt
      have HNo : Hid (∀ k (hk : k < l.length), ¬ (l[i].out.length + 1 < l[k].out.length ∧ l[k].out.take (l[i].out.length + 1) = l[i].out ++ [47]) → Tf.above l[i].out l[k].out = false) := hid1 fun k hk h => above_no (out_path HK.out.fine hk) h
      have HNx : Hid ((∀ k' (hk' : k' < l.length), k' < l.length → Tf.above l[i].out l[k'].out = false) → ∀ i' k (hi' : i' < l.length) (hk : k < l.length), i' < i + 1 → Tf.above l[i'].out l[k].out = false) := hid1 fun h i' k hi' hk hlt' => by
        by_cases e : i' = i
        · subst e; exact h k hk hk
        · exact HFl.out i' k hi' hk (by omega)
      clear hc HFl
      generalize hxo : l[i].out = xi at *
      go_wp2
      go_loopw [9] (fun kv wr => ∃ k : Nat, k ≤ l.length ∧ kv = .int .i64 k ∧ w4 = wr ∧ ∀ k' (hk' : k' < l.length), k' < k → Tf.above xi l[k'].out = false) (fun kv _ => l.length - (intOf kv).toNat)
      case atStart => exact ⟨0, Nat.zero_le _, rfl, rfl, fun k' _ h => by omega⟩
      case round =>
        obtain ⟨k, hk, rfl, rfl, hfk⟩ := hrel
        have HFk := hid1 hfk
        clear hfk
        have k0 : (0 : Int) ≤ (k : Int) := by omega
        by_cases hlk : k < l.length
        · have k1 : (k : Int) < (l.length : Int) := by omega
          have ck := HCk.out k hlk
          have hxk := HSl.out k hlk
          have HNk := hid1 (HNo.out k hlk)
          have HNn : Hid (Tf.above xi l[k].out = false → ∀ k' (hk' : k' < l.length), k' < k + 1 → Tf.above xi l[k'].out = false) := hid1 fun h k' hk' hlt' => by
            by_cases e : k' = k
            · subst e; exact h
            · exact HFk.out k' hk' (by omega)
          clear HFk HCk HNo
          generalize l[k].out = xk at *
          clear HOr HBase HPw HEc HY4 HNx HLc HSl
          by_cases hln : xi.length + 1 < xk.length
          · have zn : (xi.length : Int) + 1 < (xk.length : Int) := by omega
            have hcm := take_cmp xi xk
            by_cases htk : xk.take (xi.length + 1) = xi ++ [47]
            · rw [beq_iff_eq.2 htk] at hcm
              clear HNk HNn htk
              go_wp2
              go_ret
              exact ⟨rfl, GW4⟩
            · have HQ := hid1 (HNn.out (HNk.out fun h => htk h.2))
              rw [beq_eq_false_iff_ne.2 htk] at hcm
              clear HNk HNn htk
              go_wp2
              exact ⟨⟨k + 1, by omega, by go_num, by trivial, HQ.out⟩, by simp [intOf]; omega⟩
          · have zn : (xk.length : Int) ≤ (xi.length : Int) + 1 := by omega
            have HQ := hid1 (HNn.out (HNk.out fun h => hln h.1))
            clear HNk HNn
            go_wp2
            exact ⟨⟨k + 1, by omega, by go_num, by trivial, HQ.out⟩, by simp [intOf]; omega⟩
        · have k1 : (l.length : Int) ≤ (k : Int) := by omega
          obtain rfl : k = l.length := by omega
          have HQ := hid1 (HNx.out HFk.out)
          clear HFk HNx
          go_wp2
          exact ⟨⟨i + 1, by omega, by go_num, by trivial, HQ.out⟩, by simp [intOf]; omega⟩
    · have i1 : (l.length : Int) ≤ (i : Int) := by omega
      have hfl : Bf.Flat l := fun i' k hi' hk => HFl.out i' k hi' hk (by omega)
      have HFt := hid1 hfl
      clear hfl HFl HLc HSl
      have HFn := hid1 (fine_new (l := l) (m := 100) (by omega) (by omega) Ly.wellnil)
      go_wp2
      go_loopw [11] (fun iv wr => ∃ (i : Nat) (L : YL) (y : Bf.Yd), i ≤ el.length ∧ iv = .int .i64 i ∧ YdAt At w1.heap.size wr yb L y ∧ Bf.YFine l 100 y ∧ Below w1.heap.size w1 wr) (fun iv _ => el.length - (intOf iv).toNat)
      case atStart => exact ⟨0, L4, _, Nat.zero_le _, rfl, HY4.out, HFn.out, G14⟩
      case round =>
        clear HY4 HFn i0 i1
        obtain ⟨i, L, y, hi, rfl, hy, hf, hB⟩ := hrel
        have HY := hid1 hy
        have HF := hid1 hf
        clear hy hf
        have i0 : (0 : Int) ≤ (i : Int) := by omega
        by_cases hlt : i < el.length
        · have i1 : (i : Int) < (el.length : Int) := by omega
          obtain ⟨ge, oe, rfl, hge, hce⟩ := HEc.out (by intro e; rw [e] at hlt; simp at hlt)
          obtain ⟨ue, he, hfi⟩ := hce i hlt
          have gW := below_then g1 hB
          have ce0 := cell_below' he gW
          have HLF := hid1 (longFiles_calls ue el[i] (hfi.below gW))
          have HFi := hid1 hfi
          have HCe := hid1 he
          obtain ⟨pf, cf, rfl, hfin⟩ := hfi
          have HFc := hid1 hfin
          clear hce he hfin
          generalize el[i] = fl at *
          go_wp2_with fail
          refine HLF.out.mono ?_
          rintro e w' ⟨b, rfl, hw', hb⟩
          subst hw'
          clear HLF
          cases b with
          | true =>
            clear HEc HOr HBase HPw
            go_wp2
            go_ret
            exact ⟨rfl, gW⟩
          | false =>
          have hsf : ShortF fl := hb.resolve_left (by simp)
          have HSF := hid1 hsf
          have zf : (fl.length : Int) ≤ 30 := by have := hsf.few; omega
          clear hb hsf
          go_wp2
          go_loopw [12] (fun kv wx => ∃ (k : Nat) (L : YL) (y : Bf.Yd), k ≤ fl.length ∧ kv = .int .i64 k ∧ YdAt At w1.heap.size wx yb L y ∧ Bf.YFine l 100 y ∧ Below w1.heap.size w1 wx) (fun kv _ => fl.length - (intOf kv).toNat)
          case atStart => exact ⟨0, L, y, Nat.zero_le _, rfl, HY.out, HF.out, hB⟩
          case round =>
            clear HY HF ce0 hB gW
            clear L y
            obtain ⟨k, L, y, hk, rfl, hy, hf, hB⟩ := hrel
            have HY := hid1 hy
            have HF := hid1 hf
            clear hy hf
            have gW := below_then g1 hB
            have ce0 := cell_below' HCe.out gW
            have k0 : (0 : Int) ≤ (k : Int) := by omega
            have zw := hB.size
            have zw1 := g1.size
            by_cases hlk : k < fl.length
            · have k1 : (k : Int) < (fl.length : Int) := by omega
              obtain ⟨gf, of, rfl, hgf, hcf⟩ := HFc.out (by intro e; rw [e] at hlk; simp at hlk)
              have cf0 := cell_below' (hcf k hlk).1 gW
              have cf1 := cell_below' (hcf k hlk).2 gW
              have hpl := HSF.out.path _ (List.getElem_mem hlk)
              have HTr := hid1 fun (V : World) (g : Below wr.heap.size wr V) => yTree_calls (HY.out.below HCs.out g)
              have HBe := hid1 fun (V : World) (g : Below wr.heap.size wr V) => HY1.out.trans (hB.trans (g.mono zw))
              have HOld : Hid (∀ (V V' : World) (a : Addr) (u : Value), Below w1.heap.size V V' → a.block < W.heap.size → V.cell? a = some u → V'.cell? a = some u) := hid1 fun V V' a u g ha hu => (g.cell (p := a) (by omega)).trans hu
              clear hcf HFc
              generalize fl[k] = f at *
              obtain ⟨f1, f2⟩ := f
              simp only at cf0 cf1 hpl
              have hge' : ge < W.heap.size := hge
              have hgf' : gf < W.heap.size := hgf
              by_cases hem : f2 = []
              · subst hem
                have HRm := hid1 fun (V : World) (g : Below wr.heap.size wr V) => remove_some (HY.out.below HCs.out g).t (HBe.out V g).errs f1 (by omega)
                clear HPw HOr HBase
                go_wp2
                go_region_held3 (fun w' => w'.cell? ⟨ge, oe + i, none⟩ = some (.slice (some ⟨gf, of, none⟩) fl.length cf) ∧ w'.cell? ⟨gf, of + k * 2, none⟩ = some (.string (ba f1))) (first | go_keep | fail)
                  (first
                    | (go_at_call 83; refine (HTr.out _ (by exact (Below.refl _ wr).drew)).mono ?_; rintro e w' ⟨rfl, rfl⟩)
                    | (go_at_call 23; refine (HRm.out _ (by exact (Below.refl _ wr).drew)).mono ?_; rintro e w3 ⟨⟨v9, rfl⟩, ⟨o', hon, hT3⟩, hB3, hK3⟩; (have hy3 := (HY.out.below HCs.out (Below.refl wr.heap.size wr).drew).files HCs.out hT3 hon hK3); (have q0 := HOld.out _ _ _ _ hB3 hge' (show wr.drew.cell? ⟨ge, oe + i, none⟩ = _ from ce0)); (have q1 := HOld.out _ _ _ _ hB3 hgf' (show wr.drew.cell? ⟨gf, of + k * 2, none⟩ = _ from cf0)))
                    | fail)
                all_goals
                  have HY3 := hid1 hy3
                  have hB4 := hB.trans ((Below.refl w1.heap.size wr).drew.trans hB3)
                  have HF3 := hid1 (HF.out.files (HF.out.fs.del f1))
                  clear HTr HRm hT3 hon hK3 hB3 hy3 q0 q1 HY HF ce0 cf0 cf1
                  go_wp2
                  exact ⟨⟨k + 1, _, _, by omega, by go_num, HY3.out, HF3.out, hB4⟩, by simp [intOf]; omega⟩
              · have HPt := hid1 fun (V : World) (g : Below wr.heap.size wr V) => PutK_calls (HY.out.below HCs.out g).t (HBe.out V g).errs (fun f hf => by have := well_len HF.out.fs f hf; omega) (by have := HF.out.fs.few; omega) f1 f2 (by omega)
                have hem' : f2.isEmpty = false := by cases f2 with | nil => exact absurd rfl hem | cons c r => rfl
                clear HPw HOr HBase
                go_wp2
                go_region_held3 (fun w' => w'.cell? ⟨ge, oe + i, none⟩ = some (.slice (some ⟨gf, of, none⟩) fl.length cf) ∧ w'.cell? ⟨gf, of + k * 2, none⟩ = some (.string (ba f1)) ∧ w'.cell? ⟨gf, of + k * 2 + 1, none⟩ = some (.string (ba f2))) (first | go_keep | fail)
                  (first
                    | (go_at_call 83; refine (HTr.out _ (by exact (Below.refl _ wr).drew)).mono ?_; rintro e w' ⟨rfl, rfl⟩)
                    | (go_at_call 21; refine (HPt.out _ (by exact (Below.refl _ wr).drew)).mono ?_; rintro e w3 ⟨rfl, ⟨o', hon, hT3⟩, hB3, hK3⟩; (have hy3 := (HY.out.below HCs.out (Below.refl wr.heap.size wr).drew).files HCs.out hT3 hon hK3); (have q0 := HOld.out _ _ _ _ hB3 hge' (show wr.drew.cell? ⟨ge, oe + i, none⟩ = _ from ce0)); (have q1 := HOld.out _ _ _ _ hB3 hgf' (show wr.drew.cell? ⟨gf, of + k * 2, none⟩ = _ from cf0)); (have q2 := HOld.out _ _ _ _ hB3 hgf' (show wr.drew.cell? ⟨gf, of + k * 2 + 1, none⟩ = _ from cf1)))
                    | fail)
                all_goals
                  have HY3 := hid1 hy3
                  have hB4 := hB.trans ((Below.refl w1.heap.size wr).drew.trans hB3)
                  have HF3 := hid1 (HF.out.files (HF.out.fs.putF f1 f2))
                  clear HTr HPt hT3 hon hK3 hB3 hy3 q0 q1 q2 HY HF ce0 cf0 cf1
                  go_wp2
                  exact ⟨⟨k + 1, _, _, by omega, by go_num, HY3.out, HF3.out, hB4⟩, by simp [intOf]; omega⟩
            · have k1 : (fl.length : Int) ≤ (k : Int) := by omega
              clear HFc HSF HCe HFi zf
              have HM1 := hid1 (make_fine HCs.out HBs.out HY.out (HY1.out.trans hB) HF.out HK.out)
              have hag := HF.out.again HK.out HFt.out (by omega)
              have HF1 := hid1 (HF.out.make HK.out HFt.out).1
              have HStl := hid1 fun (V : World) (L' : YL) (h : YdAt At w1.heap.size V yb L' (y.makeP [])) (g : Below w1.heap.size w1 V) => stale_fine HCs.out h (HY1.out.trans g) HF.out HK.out HFt.out
              have HM2 := hid1 fun (V : World) (L' : YL) (h : YdAt At w1.heap.size V yb L' (y.makeP [])) (g : Below w1.heap.size w1 V) => make_fine HCs.out HBs.out h (HY1.out.trans g) HF1.out HK.out
              have HF2 := hid1 (HF1.out.make HK.out HFt.out).1
              have HSame := hid1 fun (z : Bf.Yd) (hz : Bf.YFine l 1 z) (e : z.fs = y.fs) => HF1.out.same hz HK.out HFt.out e
              have HFs := hid1 HF.out.fs
              have HFe : Hid (((y.makeP []).makeP []).fs = y.fs) := hid1 rfl
              generalize hy2 : (y.makeP []).makeP [] = y2 at *
              generalize hy1 : y.makeP [] = y1 at *
              unfold countV at HM1 HM2
              rw [hag.1, hag.2.1, hag.2.2.1, hag.2.2.2.1, Int.natCast_add, show ((0 : Nat) : Int) = 0 from rfl] at HM2
              have hsum := hag.2.2.2.2
              generalize (y.made []).1.ran = ra at *
              generalize (y.made []).1.hits = ha at *
              generalize (y.made []).1.fails = fa at *
              generalize (y.made []).1.lefts = la at *
              have zra : (ra : Int) ≤ 40 := by omega
              have zha : (ha : Int) ≤ 40 := by omega
              have zfa : (fa : Int) ≤ 40 := by omega
              have zla : (la : Int) ≤ 40 := by omega
              have nra : (0 : Int) ≤ (ra : Int) := by omega
              have nha : (0 : Int) ≤ (ha : Int) := by omega
              clear hag hsum HF hy1 hy2
              generalize wr = w10 at *
              go_wp2_with fail
              refine HM1.out.mono ?_
              rintro e w11 ⟨rfl, g11, -, L11, hy11⟩
              have B11 := hB.trans g11
              have gA : Below w11.heap.size w11 (w11.alloc (.cells #[.int .i64 (ra : Nat), .int .i64 (ha : Nat), .int .i64 (fa : Nat), .int .i64 (la : Nat)] 106)) := (Below.refl _ w11).alloc (Nat.le_refl _) _
              have hy12 := hy11.below HCs.out gA
              have z11 := B11.size
              have B12 := B11.trans (gA.mono z11)
              have rA := row_newW w11 (.cells #[.int .i64 (ra : Nat), .int .i64 (ha : Nat), .int .i64 (fa : Nat), .int .i64 (la : Nat)] 106)
              have HS12 := hid1 (HStl.out _ _ hy12 B12)
              have HQ : Hid (w11.heap.size ≠ L11.ob ∧ L11.o2 ≠ some w11.heap.size ∧ ¬ L11.SC w11.heap.size) := hid1 ⟨by have h1 := hy11.o.lt; omega, fun e => by have h1 := hy11.mapo e; omega, fun e => by have h1 := hy11.ca.ltG HCs.out _ e; omega⟩
              have HY12 := hid1 hy12
              have HRA := hid1 rA
              have HB12 := hid1 B12
              have zs12 : w11.heap.size < (w11.alloc (.cells #[.int .i64 (ra : Nat), .int .i64 (ha : Nat), .int .i64 (fa : Nat), .int .i64 (la : Nat)] 106)).heap.size := by simp
              clear HM1 HStl HY hy11 hy12 rA gA g11 B12 hB gW ce0
              generalize hw12 : w11.alloc (.cells #[.int .i64 (ra : Nat), .int .i64 (ha : Nat), .int .i64 (fa : Nat), .int .i64 (la : Nat)] 106) = w12 at *
              go_wp2_with fail
              refine HS12.out.mono ?_
              rintro e w13 ⟨ps, cs, rfl, g13⟩
              have hy13 := HY12.out.below HCs.out g13
              have z12 := HB12.out.size
              have z13 := g13.size
              have B13 := HB12.out.trans (g13.mono z12)
              have HM3 := hid1 (HM2.out w13 L11 hy13 B13)
              have HR13 := hid1 (row_below HRA.out g13)
              clear HS12 HY12 HRA hy13 g13 HM2 hw12 HB12
              go_wp2_with fail
              refine HM3.out.mono ?_
              rintro e w14 ⟨rfl, g14, hrest, L14, hy14⟩
              have B14 := B13.trans g14
              have r14 := (hrest w11.heap.size (by omega) HQ.out.1 HQ.out.2.1 HQ.out.2.2).trans HR13.out
              have gB : Below w14.heap.size w14 (w14.alloc (.cells #[.int .i64 0, .int .i64 ((ra : Int) + (ha : Int)), .int .i64 (fa : Nat), .int .i64 (la : Nat)] 106)) := (Below.refl _ w14).alloc (Nat.le_refl _) _
              have z14' := B14.size
              have B15 := B14.trans (gB.mono z14')
              have r15 := row_below r14 gB
              have c10 := cell_of_row (j := 0) r15 rfl
              have c11 := cell_of_row (j := 1) r15 rfl
              have c12 := cell_of_row (j := 2) r15 rfl
              have c13 := cell_of_row (j := 3) r15 rfl
              have HY15 := hid1 (hy14.below HCs.out gB)
              have HNz := hid1 (yNew_calls HCs.out (w14.alloc (.cells #[.int .i64 0, .int .i64 ((ra : Int) + (ha : Int)), .int .i64 (fa : Nat), .int .i64 (la : Nat)] 106)) 1 (by omega) (by omega))
              clear HM3 hrest r14 r15 HR13 hy14 g14 gB HQ B13 B14
              go_wp2_with fail
              refine HNz.out.mono ?_
              rintro e w16 ⟨zb, Lz, rfl, g16, hz16⟩
              clear HNz c10 c11 c12 c13
              generalize w14.alloc (.cells #[.int .i64 0, .int .i64 ((ra : Int) + (ha : Int)), .int .i64 (fa : Nat), .int .i64 (la : Nat)] 106) = w15 at *
              have GW15 := below_then g1 B15
              have HYz := hid1 (HBase.out w15 GW15)
              have HO16 := hid1 (HOr.out w16 (below_then GW15 g16) (by omega) (fun x hx => (HK.out.small x hx).many))
              have HZ16 := hid1 hz16
              clear hz16 zra zha zfa zla nra nha
              go_wp2_with fail
              refine HO16.out.mono ?_
              rintro e w17 ⟨v17, rfl, hR17, g17⟩
              have G1517 := below_then g16 g17
              have HRz := hid1 (rules_fine HCs.out (HZ16.out.below HCs.out g17) (HYz.out.trans G1517) v17 l hR17 HK.out)
              obtain ⟨p17, c17, rfl, -⟩ := hR17
              clear HO16 HZ16 g17 g16
              go_wp2_with fail
              refine HRz.out.mono ?_
              rintro e w18 ⟨rfl, g18, Lz18, hz18⟩
              have G1518 := G1517.trans g18
              have HZ18 : Hid (YdAt At w15.heap.size w18 zb Lz18 ⟨[], [], l, some (1, [])⟩) := hid1 hz18
              have hy18 := HY15.out.below HCs.out G1518
              have HT18 := hid1 (yTree_calls hy18)
              have hf2 : y2.fs = y.fs := HFe.out
              have ht18 := hy18.t
              rw [hf2] at ht18
              have HPa := hid1 (Paths_calls ht18 HFs.out.rises (by have := HFs.out.few; omega))
              have hfew := HFs.out.few
              clear HRz hz18 hy18 ht18 g18 G1517
              go_wp2_with fail
              refine HT18.out.mono ?_
              rintro e w' ⟨rfl, hw'⟩
              replace hw' := hw'.symm
              subst hw'
              clear HT18
              go_wp2_with fail
              refine HPa.out.mono ?_
              rintro e w19 ⟨vp, rfl, hrow, g19⟩
              have hX19 : XRow w19 vp (y.fs.map (·.1)) := XRow.of_owns hrow
              have hN19 := NewI.of_owns hrow (Nat.le_refl _)
              obtain ⟨pp, cp, ep, -, -, hin⟩ := hX19
              rw [List.length_map] at ep
              subst ep
              have HIn : Hid (y.fs ≠ [] → ∃ g o, pp = some ⟨g, o, none⟩ ∧ g < w19.heap.size ∧ w18.heap.size ≤ g ∧ ∀ j (hj : j < y.fs.length), w19.cell? ⟨g, o + j, none⟩ = some (.string (ba y.fs[j].1))) := hid1 fun hne => by
                obtain ⟨g, o, e, hg, hc⟩ := hin (by simpa using hne)
                exact ⟨g, o, e, hg, hN19 _ _ _ (by rw [e]), fun j hj => by rw [hc j (by simp [hj])]; simp⟩
              have HZ19 := hid1 ((HZ18.out.retag HCs.out 9).below HCs.out g19)
              have HK19 : Hid (∀ j, w18.heap.size ≤ j → Lz18.more w18.heap.size 9 j = 9) := hid1 fun j hj => Lz18.more_new hj
              have G1519 := G1518.trans (g19.mono G1518.size)
              have z19 := g19.size
              have zfs : (y.fs.length : Int) ≤ 60 := by omega
              have z1518 := G1518.size
              have z0W := g1.size
              have z15 := B15.size
              clear HPa hrow hin hN19 HZ18 g19
              go_wp2
              go_loopw [18] (fun kv wx => ∃ (k : Nat) (Lk : YL), k ≤ y.fs.length ∧ kv = .int .i64 k ∧ YdAt At w15.heap.size wx zb Lk ⟨y.fs.take k, [], l, some (1, [])⟩ ∧ Below w15.heap.size w15 wx ∧ w19.heap.size ≤ wx.heap.size ∧ ∀ j, w18.heap.size ≤ j → j < w19.heap.size → Lk.k j = 9 ∧ wx.heap[j]? = w19.heap[j]?) (fun kv _ => y.fs.length - (intOf kv).toNat)
              case atStart => exact ⟨0, _, Nat.zero_le _, rfl, HZ19.out, G1519, Nat.le_refl _, fun j h1 _ => ⟨HK19.out j h1, rfl⟩⟩
              case round =>
                clear HZ19 HK19 G1519
                obtain ⟨k', Lk, hkf, rfl, hzk, hBk, hsk, hmk⟩ := hrel
                have HZk := hid1 hzk
                have HMk := hid1 hmk
                clear hzk hmk
                have kz0 : (0 : Int) ≤ (k' : Int) := by omega
                have gBk := B15.trans (hBk.mono z15)
                have gWk := below_then GW15 hBk
                by_cases hlf : k' < y.fs.length
                · have kz1 : (k' : Int) < (y.fs.length : Int) := by omega
                  obtain ⟨gp, op, rfl, hgp, hgn, hcp⟩ := HIn.out (by intro e; rw [e] at hlf; simp at hlf)
                  have cp0 : wr.cell? ⟨gp, op + k', none⟩ = some (.string (ba y.fs[k'].1)) := (World.cell?_of_block (a := ⟨gp, op + k', none⟩) (HMk.out gp hgn hgp).2).trans (hcp k' hlf)
                  have HTy := hid1 fun (V : World) (g : Below wr.heap.size wr V) => yTree_calls ((HY15.out.below HCs.out hBk).below HCs.out g)
                  have HGy := hid1 fun (V : World) (g : Below wr.heap.size wr V) => Get_calls ((HY15.out.below HCs.out hBk).below HCs.out g).t y.fs[k'].1 (by have := well_len HFs.out _ (List.getElem_mem hlf); omega)
                  have hgt : Tf.get y.fs y.fs[k'].1 = some y.fs[k'].2 := get_at HFs.out.rises hlf
                  rw [show y2.fs = y.fs from hf2, hasW_get, hgt] at HGy
                  simp only [Option.getD_some, Option.isSome_some] at HGy
                  have hput : Tf.putCode pathB (y.fs.take k') y.fs[k'].1 y.fs[k'].2 = 0 ∧ Tf.putF pathB (y.fs.take k') y.fs[k'].1 y.fs[k'].2 = y.fs.take (k' + 1) := by
                    have h1 := HFs.out.code_take hlf
                    rw [Tf.puts_take HFs.out.rises k' (by omega)] at h1
                    refine ⟨h1, ?_⟩
                    unfold Tf.putF
                    rw [if_pos h1]
                    have h2 := Tf.puts_take HFs.out.rises (k' + 1) (by omega)
                    rw [List.take_succ_eq_append_getElem hlf, Tf.puts_snoc, Tf.puts_take HFs.out.rises k' (by omega)] at h2
                    rw [h2, List.take_succ_eq_append_getElem hlf]
                  have HTz := hid1 fun (V : World) (g : Below wr.heap.size wr V) => yTree_calls (HZk.out.below HCs.out g)
                  have HPz := hid1 fun (V : World) (g : Below wr.heap.size wr V) => PutK_calls (HZk.out.below HCs.out g).t ((HYz.out.trans hBk).trans (g.mono (by omega))).errs (fun f hf => by have := well_len HFs.out f (List.mem_of_mem_take hf); omega) (by show (y.fs.take k').length ≤ 1000; simp; omega) y.fs[k'].1 y.fs[k'].2 (by have := well_len HFs.out _ (List.getElem_mem hlf); omega)
                  rw [show (⟨y.fs.take k', [], l, some (1, [])⟩ : Bf.Yd).fs = y.fs.take k' from rfl, hput.1, hput.2, show erOf es 0 = Value.nilIface from rfl] at HPz
                  have HTg : Hid (Lk.k gp = 9 ∧ Lk.k Lk.tb = 1 ∧ ∀ j, Lk.o1 = some j → Lk.k j = 1) := hid1 ⟨(HMk.out gp hgn hgp).1, HZk.out.kt, HZk.out.k1⟩
                  have HNt : Hid (∀ j, w18.heap.size ≤ j → j < w19.heap.size → ¬ tS Lk.tb Lk.o1 j) := hid1 fun j h1 h2 e => by
                    have h3 := (HMk.out j h1 h2).1
                    rcases e with e | e
                    · rw [e, HTg.out.2.1] at h3; cases h3
                    · rw [HTg.out.2.2 j e] at h3; cases h3
                  clear hcp hput hgt HIn HOr HBase HPw HEc
                  generalize y.fs[k'] = ff at *
                  obtain ⟨f1, f2⟩ := ff
                  simp only at cp0 HGy HPz
                  go_wp2
                  go_region_held3 (fun w' => w'.cell? ⟨gp, op + k', none⟩ = some (.string (ba f1))) (first | go_keep | fail)
                    (first
                      | (go_at_call 83; refine (HTy.out _ (by exact (Below.refl _ wr).drew)).mono ?_; rintro e w' ⟨rfl, rfl⟩)
                      | (go_at_call 28; refine (HGy.out _ (by exact (Below.refl _ wr).drew)).mono ?_; rintro e w20 ⟨rfl, g20⟩; (have q0 := cell_below' (show wr.drew.cell? ⟨gp, op + k', none⟩ = _ from cp0) g20))
                      | fail)
                  all_goals
                    have G20 : Below wr.heap.size wr w20 := below_then (Below.refl wr.heap.size wr).drew g20
                    clear HTy HGy g20
                    have z20 := G20.size
                    go_wp2
                    go_region_held3 (fun w' => w'.cell? ⟨gp, op + k', none⟩ = some (.string (ba f1))) (first | go_keep | fail)
                      (first
                        | (go_at_call 83; refine (HTz.out _ (by exact G20.drew)).mono ?_; rintro e w' ⟨rfl, rfl⟩)
                        | (go_at_call 21; refine (HPz.out _ (by exact G20.drew)).mono ?_; rintro e w21 ⟨rfl, ⟨o', hon, hT3⟩, hB3, hK3⟩; (have hz21 := (HZk.out.below HCs.out (G20.drew)).files HCs.out hT3 hon hK3); (have q1 := hK3.cell (show w20.drew.cell? ⟨gp, op + k', none⟩ = _ from q0) (HNt.out gp hgn hgp)))
                        | fail)
                    all_goals
                      have HZ21 : Hid (YdAt At w15.heap.size w21 zb { Lk with o1 := o', k := Lk.more w20.drew.heap.size 1 } ⟨y.fs.take (k' + 1), [], l, some (1, [])⟩) := hid1 hz21
                      have z21 := hK3.size
                      have z21' : w20.heap.size ≤ w21.heap.size := z21
                      have B21 : Below w15.heap.size w15 w21 := hBk.trans (((G20.drew).mono (by omega)).trans hB3)
                      have HM21 : Hid (∀ j, w18.heap.size ≤ j → j < w19.heap.size → Lk.more w20.drew.heap.size 1 j = 9 ∧ w21.heap[j]? = w19.heap[j]?) := hid1 fun j h1 h2 => ⟨(Lk.more_old (show j < w20.drew.heap.size from by show j < w20.heap.size; omega)).trans (HMk.out j h1 h2).1, (hK3.block j (show j < w20.heap.size by omega) (HNt.out j h1 h2)).trans ((G20.drew.block j (by omega)).trans (HMk.out j h1 h2).2)⟩
                      clear HTz HPz hT3 hon hK3 hB3 hz21 q0 q1 HZk HMk HNt HTg
                      go_wp2
                      exact ⟨⟨k' + 1, _, by omega, by go_num, HZ21.out, B21, by omega, HM21.out⟩, by simp [intOf]; omega⟩
                · have kz1 : (y.fs.length : Int) ≤ (k' : Int) := by omega
                  obtain rfl : k' = y.fs.length := by omega
                  have hzk := HZk.out
                  rw [List.take_length] at hzk
                  have HFz := hid1 (fine_new (l := l) (m := 1) (by omega) (by omega) HFs.out)
                  have HMz := hid1 (make_fine HCs.out HBs.out hzk (HYz.out.trans hBk) HFz.out HK.out)
                  have HEq : Hid ((Bf.Yd.makeP ⟨y.fs, [], l, some (1, [])⟩ []).os = y2.os) := hid1 (HSame.out _ HFz.out rfl)
                  have HWz := hid1 ((HFz.out.make HK.out HFt.out).1.os)
                  generalize (Bf.Yd.made ⟨y.fs, [], l, some (1, [])⟩ []).1 = dz at *
                  generalize Bf.Yd.makeP ⟨y.fs, [], l, some (1, [])⟩ [] = z2 at *
                  clear hzk HZk HMk HIn HEc HOr HBase HFz HSame
                  go_wp2_with fail
                  refine HMz.out.mono ?_
                  rintro e w22 ⟨rfl, g22, -, L22, hz22⟩
                  have B22 := hBk.trans g22
                  have HOz := hid1 (yOut_calls hz22)
                  have HTxz := hid1 (text_fine hz22.o (HPw.out w22 (below_then GW15 B22)) HWz.out)
                  rw [HEq.out] at HTxz
                  clear HMz hz22 g22
                  go_wp2_with fail
                  refine HOz.out.mono ?_
                  rintro e w' ⟨rfl, hw'⟩
                  replace hw' := hw'.symm
                  subst hw'
                  clear HOz
                  go_wp2_with fail
                  refine HTxz.out.mono ?_
                  rintro e w23 ⟨rfl, g23⟩
                  have B23 := B22.trans (g23.mono B22.size)
                  have hy23 := HY15.out.below HCs.out B23
                  have HOy := hid1 (yOut_calls hy23)
                  have HTxy := hid1 (text_fine hy23.o (HPw.out w23 (below_then GW15 B23)) HF2.out.os)
                  have HY23 := hid1 hy23
                  clear HTxz hy23 g23
                  go_wp2_with fail
                  refine HOy.out.mono ?_
                  rintro e w' ⟨rfl, hw'⟩
                  replace hw' := hw'.symm
                  subst hw'
                  clear HOy
                  go_wp2_with fail
                  refine HTxy.out.mono ?_
                  rintro e w24 ⟨rfl, g24⟩
                  have HY24 := hid1 (HY23.out.below HCs.out g24)
                  have B24 := B15.trans ((B23.trans (g24.mono B23.size)).mono z15)
                  clear HTxy HY23 HPw
                  go_wp2
                  exact ⟨⟨i + 1, _, _, by omega, by go_num, HY24.out, HF2.out, B24⟩, by simp [intOf]; omega⟩
        · have i1 : (el.length : Int) ≤ (i : Int) := by omega
          have gW := below_then g1 hB
          clear HY HF HEc HOr HBase HPw
          go_wp2
          go_ret
          exact ⟨rfl, gW⟩
end Go.Proofs.YtgdjgohiaffejaaGreatDoor
