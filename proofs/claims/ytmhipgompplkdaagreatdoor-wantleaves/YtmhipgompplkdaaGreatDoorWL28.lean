import Derived.Test.YtmhipgompplkdaaGreatDoorWL24
import Derived.Test.YtmhipgompplkdaaGreatDoorWL19
import Derived.Deep.RegionLaw
import Derived.Deep.AppendLies
namespace Go.Proofs.YtmhipgompplkdaaGreatDoor
open Go.RowKit Go.Shelf Go.Lib
theorem ErrV.zero {w : World} {es : Nat → Addr} {v : Value} {f : Nat × Int} (h : ErrV w es v f) (hf : f.1 = 0) : v = .nilIface := by
  rcases h with ⟨_, rfl, _⟩ | ⟨pb, m, _, _, h0, _⟩
  · rw [hf]; rfl
  · omega
theorem ErrV.iface {w : World} {es : Nat → Addr} {v : Value} {f : Nat × Int} (h : ErrV w es v f) (hf : f.1 ≠ 0) : ∃ t u, v = .iface t u := by
  rcases h with ⟨_, rfl, _⟩ | ⟨pb, m, rfl, _⟩
  · obtain ⟨c, n⟩ := f
    cases c with
    | zero => exact absurd rfl hf
    | succ k => exact ⟨_, _, rfl⟩
  · exact ⟨_, _, rfl⟩
def LookTells (es : Nat → Addr) (l : List Ru) (w : World) (u ev : Value) : Prop :=
  ((Ru.fault l).1 ≠ 0 ∧ ErrV w es ev (Ru.fault l) ∧ u = .pointer none ∧ ∃ t x, ev = .iface t x) ∨
  ((Ru.fault l).1 = 0 ∧ ev = .nilIface ∧ ∃ p bm G vals, u = .pointer (some ⟨p, 0, none⟩) ∧ ShAt w l p bm G vals)
set_option maxRecDepth 100000 in
set_option maxHeartbeats 16000000 in
theorem grlook_calls {w : World} {es : Nat → Addr} (hW : SheetW w es) (v : Value) (l : List Ru) (hrow : RRow w v l) (hn : l.length ≤ 1000) (hS : ∀ x ∈ l, x.Small) :
    Calls Tryz.prog 104 #[v] w fun e w' => ∃ u ev, e = .returned (.tuple #[u, ev]) ∧ Below w.heap.size w w' ∧ LookTells es l w' u ev := by
  have HSh := hid1 (ruSheet_calls hW l (by omega) v hrow hS)
  obtain ⟨pr, cap, rfl, hcap, hnn, hin⟩ := hrow
  have HI := hid1 hin
  have H12 : Hid (∀ i (hi : i < l.length), l[i].ins.length ≤ 12) := hid1 fun i hi => (hS _ (List.getElem_mem hi)).many
  clear hin hnn hS hW
  obtain ⟨iT, hT, hT0, hT1, hT2⟩ := info_parts Tryz.infoInts
  obtain ⟨iI, hI, hI0, hI1, hI2⟩ := info_parts Tryz.infoInt
  have hml : l.length ≤ maxLen := by unfold maxLen; omega
  have hbT : iT.bytes * l.length ≤ 281474976710656 := by rw [hT2]; omega
  have zn : (l.length : Int) ≤ 1000 := by omega
  have hmm := @run_makeMap Tryz.prog
  by_cases hf : (Ru.fault l).1 = 0
  · have HR : Hid (∀ W u, LookTells es l W u .nilIface ↔ ∃ p bm G vals, u = .pointer (some ⟨p, 0, none⟩) ∧ ShAt W l p bm G vals) := hid1 fun W u => by
      unfold LookTells
      simp [hf]
    have HZ : Hid (∀ W u, ErrV W es u (Ru.fault l) → u = .nilIface) := hid1 fun W u h => h.zero hf
    have HA := hid1 (Ru.fault_ok hf)
    clear hf
    go_enter Tryz.func104, Tryz.ntmps104
    go_wp2_with fail
    refine HSh.out.mono ?_
    rintro e w1 ⟨u, rfl, g1, hE⟩
    obtain rfl := HZ.out _ _ hE
    clear HSh HZ hE
    go_wp2_with (at_make; refine wpList_make_full _ rfl _ _ 174 rfl w1.heap.size 68 iT (.slice none 0 0) 1 Tryz.underlying174 hT hT0 hT1 .i64 .i64 _ _ l.length rfl rfl (by omega) (by omega) hbT hml (by simp) ?_; intro w2 hown hgrow)
    have HA0 := hid1 (LookA.make hown hgrow)
    clear hown hgrow
    generalize hpp : w2.heap.size = pp at *
    generalize hbm : w1.heap.size = bm at *
    go_loopw [27] (fun iv wr => ∃ k : Nat, k ≤ l.length ∧ iv = .int .i64 k ∧ LookA bm w1 wr l pp bm (bm + 1) k) (fun iv _ => l.length - (intOf iv).toNat)
    case atStart => exact ⟨0, Nat.zero_le _, rfl, HA0.out⟩
    case round =>
      clear HA0
      obtain ⟨k, hk, rfl, hL⟩ := hrel
      have HL := hid1 hL
      clear hL
      have c0 : (0 : Int) ≤ (k : Int) := by omega
      by_cases hlt : k < l.length
      · have c1 : (k : Int) < (l.length : Int) := by omega
        obtain ⟨g', o, rfl, hg, hcur⟩ := HI.out (by intro e; rw [e] at hlt; simp at hlt)
        obtain ⟨b0, b1, b2, ui, b3, bx⟩ := hcur k hlt
        have gB : Below w.heap.size w wr := below_then g1 (hbm ▸ HL.out.below)
        have d0 := cell_below' b0 gB
        have d1 := cell_below' b1 gB
        have d2 := cell_below' b2 gB
        have d3 := cell_below' b3 gB
        have e0 := HL.out.c0
        have HN := hid1 (HL.out.next hlt (.cells #[.string (ba l[k].out), .string (ba l[k].kind), .string (ba l[k].word), ui] 90))
        have hbl := (Array.getElem?_eq_some_iff.1 HL.out.map).1
        have hpl := lt_of_cell e0
        simp only at hpl
        have hup : (Instr.mapUpdate 173 (.map (some bm)) (.string (ba l[k].out)) (.int .i64 k)).run Tryz.prog (wr.alloc (.cells #[.string (ba l[k].out), .string (ba l[k].kind), .string (ba l[k].word), ui] 90)).drew = .ok () (setB (wr.alloc (.cells #[.string (ba l[k].out), .string (ba l[k].kind), .string (ba l[k].word), ui] 90)).drew bm (.map (mkF 0 (l.take k) ++ [({ key := .string (ba l[k].out), val := nv k, born := k } : MapEntry)]).toArray (k + 1))) := by
          have hA : Below wr.heap.size wr (wr.alloc (.cells #[.string (ba l[k].out), .string (ba l[k].kind), .string (ba l[k].word), ui] 90)).drew := ((Below.refl _ wr).alloc (Nat.le_refl _) _).drew
          refine run_insert 173 9 3 bm k (mkF 0 (l.take k)) (ba l[k].out) (nv k) Tryz.underlying173 Tryz.underlying9 ((hA.block bm hbl).trans HL.out.map) (mkF_none fun x hx e => ?_)
          obtain ⟨j, hj, ej⟩ := List.getElem_of_mem hx
          rw [List.getElem_take] at ej
          have hjk : j < k := by simp at hj; omega
          have := HA.out.2 j k (by omega) hlt (by rw [ej]; exact e)
          omega
        obtain ⟨p3, cap3, rfl, hcap3, -, hin3⟩ := bx
        have hst : ∀ (a : Addr) (m : Mode) (W : World), Sem.run Tryz.prog (store a (.slice p3 l[k].ins.length cap3) m) W = stored Tryz.prog W a (.slice p3 l[k].ins.length cap3) m := fun a m W => run_store _ W a _ m rfl
        clear hcur hin3 b0 b1 b2 b3 HI gB
        generalize l[k] = y at *
        go_wp2
        go_region
        go_wp2
        exact ⟨⟨k + 1, by omega, by go_num, HN.out⟩, by simp [intOf]; omega⟩
      · have c1 : (l.length : Int) ≤ (k : Int) := by omega
        obtain rfl : k = l.length := by omega
        have HB0 := hid1 HL.out.start
        clear HL
        generalize wr = w3 at *
        go_wp2
        go_loopw [42] (fun iv wx => ∃ (i : Nat) (vals : Nat → Value), i ≤ l.length ∧ iv = .int .i64 i ∧ LookB bm w1 wx l pp bm (bm + 1) i vals) (fun iv _ => l.length - (intOf iv).toNat)
        case atStart => exact ⟨0, _, Nat.zero_le _, rfl, HB0.out⟩
        case round =>
          clear HB0
          obtain ⟨i, vals, hi, rfl, hL⟩ := hrel
          have HL := hid1 hL
          clear hL
          have i0 : (0 : Int) ≤ (i : Int) := by omega
          by_cases hilt : i < l.length
          · have i1 : (i : Int) < (l.length : Int) := by omega
            obtain ⟨g', o, rfl, hg, hcur⟩ := HI.out (by intro e; rw [e] at hilt; simp at hilt)
            obtain ⟨b0, b1, b2, ui, b3, bx⟩ := hcur i hilt
            have gB : Below w.heap.size w wr := below_then g1 (hbm ▸ HL.out.below)
            have d0 := cell_below' b0 gB
            have d1 := cell_below' b1 gB
            have d2 := cell_below' b2 gB
            have d3 := cell_below' b3 gB
            have h12 := H12.out i hilt
            have z12 : (l[i].ins.length : Int) ≤ 12 := by omega
            obtain ⟨p3, cap3, rfl, hcap3, -, hin3⟩ := bx
            have HI3 := hid1 hin3
            have HC0 := hid1 (HL.out.enter (.cells #[.string (ba l[i].out), .string (ba l[i].kind), .string (ba l[i].word), .slice p3 l[i].ins.length cap3] 90))
            have hst : ∀ (a : Addr) (m : Mode) (W : World), Sem.run Tryz.prog (store a (.slice p3 l[i].ins.length cap3) m) W = stored Tryz.prog W a (.slice p3 l[i].ins.length cap3) m := fun a m W => run_store _ W a _ m rfl
            clear hcur hin3 b0 b1 b2 b3 HI gB HL
            generalize wr = w4 at *
            obtain ⟨Bk, hBk⟩ : ∃ Bk, Bk = (w4.alloc (.cells #[.string (ba l[i].out), .string (ba l[i].kind), .string (ba l[i].word), .slice p3 l[i].ins.length cap3] 90)).heap.size := ⟨_, rfl⟩
            rw [← hBk] at HC0
            have HBk := hid1 hBk
            clear hBk
            go_wp2
            go_loopw [50] (fun kv wx => ∃ (m : Nat) (vi : Value), m ≤ l[i].ins.length ∧ kv = .int .i64 m ∧ LookC bm Bk w1 wx l pp bm (bm + 1) i vals (Ru.needL l (l[i].ins.take m)) vi) (fun kv _ => l[i].ins.length - (intOf kv).toNat)
            case atStart => exact ⟨0, _, Nat.zero_le _, rfl, HC0.out⟩
            case round =>
              clear HC0 HBk d0 d1 d2 d3 hst
              obtain ⟨m, vi, hm, rfl, hC⟩ := hrel
              have HC := hid1 hC
              clear hC
              have m0 : (0 : Int) ≤ (m : Int) := by omega
              by_cases hmlt : m < l[i].ins.length
              · have m1 : (m : Int) < (l[i].ins.length : Int) := by omega
                obtain ⟨g3, o3, rfl, hg3, hc3⟩ := HI3.out (by intro e; rw [e] at hmlt; simp at hmlt)
                have gB : Below w.heap.size w wr := below_then g1 (hbm ▸ HC.out.below)
                have e3 := (gB.cell (p := ⟨g3, o3 + m, none⟩) hg3).trans (hc3 m hmlt)
                have HS := hid1 (Ru.needL_succ l hmlt)
                have hlk := look_mk HC.out.map l[i].ins[m]
                have e0 := HC.out.c0
                have hrl : (Ru.needL l (l[i].ins.take m)).length ≤ 12 := by
                  have := Ru.needL_len l (l[i].ins.take m)
                  simp at this
                  omega
                clear hc3 HI3 gB
                generalize hs : l[i].ins[m] = s at *
                clear hs
                cases hmk : Ru.mkr l s with
                | none =>
                  rw [hmk] at hlk HS
                  simp only [Option.getD_none, Option.isSome_none, Option.toList_none, List.append_nil] at hlk HS
                  clear hmk
                  go_wp2
                  exact ⟨⟨m + 1, vi, by omega, by go_num, by rw [HS.out]; exact HC.out⟩, by simp [intOf]; omega⟩
                | some j =>
                  rw [hmk] at hlk HS
                  simp only [Option.getD_some, Option.isSome_some, Option.toList_some] at hlk HS
                  clear hmk
                  obtain ⟨a0, f0⟩ := HC.out.at hilt
                  have e1 := HC.out.c1
                  have hrw : wr.drew.ownsRow Bk 3 1 vi (Ru.needL l (l[i].ins.take m)).length ((Ru.needL l (l[i].ins.take m)).map nv) := HC.out.mine
                  have hbz := HC.out.size
                  have hltG := HC.out.ltG
                  have hltP := HC.out.ltp
                  have hG1 : bm + 1 < wr.heap.size := by omega
                  have hP1 : pp < wr.heap.size := by omega
                  have HAf := hid1 fun (W1 w5 : World) (hb : Below wr.heap.size wr W1) (hgr : W1.grownBy w5 vi.ownBlock) => HC.out.after hilt hb hgr
                  have HMo := hid1 fun (W1 w5 : World) (v5 : Value) (hb : Below wr.heap.size wr W1) (hgr : W1.grownBy w5 vi.ownBlock) (ho : w5.ownsRow Bk 3 1 v5 ((Ru.needL l (l[i].ins.take m)).length + 1) ((Ru.needL l (l[i].ins.take m)).map nv ++ [nv j])) (hne : v5.ownBlock ≠ some (bm + 1)) => HC.out.more hb hgr ho hne
                  rw [← HS.out] at HMo
                  obtain ⟨pv, cv, rfl, -⟩ := NRow.of_owns HC.out.mine
                  have hml2 : (Ru.needL l (l[i].ins.take m)).length + 1 ≤ maxLen := by unfold maxLen; omega
                  go_wp2
                  go_region_law (refine step_append_lies _ rfl (.tmp 75) (.tmp 77) 68 rfl Bk 3 iI (.int .i64 0) 1 8 Tryz.underlying68 hI hI0 hI1 hI2 rfl (by decide) _ _ _ rfl (hrw.alloc _) ⟨wr.heap.size, 0, none⟩ 1 1 [nv j] rfl rfl (one_new _ _ _ _ (by simp)) (by simp [Value.oneCell']) (by decide) hml2 (by omega) (by simp; omega) _ rfl ?_; intro g5 cap5 w5 hown5 hgrow5 hat5 hlt5; (obtain ⟨q1, q2, q3⟩ := HAf.out _ _ (by exact ((Below.refl _ wr).alloc (Nat.le_refl _) _).drew) hgrow5); (have HM5 := hid1 (HMo.out _ _ _ (by exact ((Below.refl _ wr).alloc (Nat.le_refl _) _).drew) hgrow5 hown5 (by have := (own_lt hown5 g5 rfl).1; simp [Value.ownBlock]; omega))); clear hown5 hgrow5 hat5)
                  all_goals
                    go_wp2
                    exact ⟨⟨m + 1, _, by omega, by go_num, HM5.out⟩, by simp [intOf]; omega⟩
              · have m1 : (l[i].ins.length : Int) ≤ (m : Int) := by omega
                obtain rfl : m = l[i].ins.length := by omega
                have HQ : Hid (LookB bm w1 wr l pp bm (bm + 1) (i + 1) (fun j => if j = i then vi else vals j)) := hid1 (by
                  have := HC.out
                  rw [List.take_length] at this
                  exact this.leave hilt)
                clear HC HI3
                go_wp2
                exact ⟨⟨i + 1, _, by omega, by go_num, HQ.out⟩, by simp [intOf]; omega⟩
          · have i1 : (l.length : Int) ≤ (i : Int) := by omega
            obtain rfl : i = l.length := by omega
            have HQ := hid1 HL.out.done
            have gB : Below w.heap.size w wr := below_then g1 (hbm ▸ HL.out.below)
            clear HL HI
            go_wp2
            go_ret2
            exact ⟨_, _, rfl, gB, (HR.out _ _).2 ⟨_, _, _, _, rfl, HQ.out⟩⟩
  · have HZ : Hid (∀ W u, ErrV W es u (Ru.fault l) → ∃ t x, u = .iface t x) := hid1 fun W u h => h.iface hf
    have HR : Hid (∀ W t x, ErrV W es (.iface t x) (Ru.fault l) → LookTells es l W (.pointer none) (.iface t x)) := hid1 fun W t x h => .inl ⟨hf, h, rfl, _, _, rfl⟩
    clear hf HI H12
    go_enter Tryz.func104, Tryz.ntmps104
    go_wp2_with fail
    refine HSh.out.mono ?_
    rintro e w1 ⟨u, rfl, g1, hE⟩
    obtain ⟨t, x, rfl⟩ := HZ.out _ _ hE
    have HE := hid1 (HR.out _ _ _ hE)
    clear HSh HZ hE HR
    go_wp2
    go_ret2
    exact ⟨_, _, rfl, g1, HE.out⟩
end Go.Proofs.YtmhipgompplkdaaGreatDoor
