/- The document's answer's TreeOf at a text that is read: the walk. -/
import Derived.Test.YtigcogfjclohjaaGreatDoorRScan
import Derived.Test.YtigcogfjclohjaaGreatDoorRPut4
import Derived.Deep.RegionHeld3
import Derived.Deep.AppendLies
import Derived.Deep.RegionLaw
namespace Go.Proofs.YtigcogfjclohjaaGreatDoor
open Go.RowKit Go.Shelf Go.Lib Go.Maps
open Tf (Fs)

theorem rtree_new (w : World) : RTreeAt w.heap.size (w.alloc (.cells #[.slice none 0 0] 46)) w.heap.size [] (.slice none 0 0) := by
  have hk := (MapKept.heap_alloc w (.cells #[.slice none 0 0] 46)).1
  exact ⟨Nat.le_refl _, cell_of_row hk rfl, by unfold World.frozen?; rw [hk]; rfl, World.ownsRow_nil _ _ _ _, (fun e => by cases e), fun _ => rfl⟩

theorem RTreeAt.mono {B B' : Nat} {w : World} {tb : Nat} {fs : Fs} {v : Value} (h : RTreeAt B w tb fs v) (hB : B' ≤ B) : RTreeAt B' w tb fs v := by
  refine ⟨Nat.le_trans hB h.low, h.cell, h.free, ?_, h.apart, h.nil⟩
  obtain ⟨h0, h1⟩ := h.row
  exact ⟨h0, h1.imp id fun ⟨g, cap, cur, e1, e2, e3⟩ => ⟨g, cap, cur, e1, Nat.le_trans hB e2, e3⟩⟩

theorem less_asymm {x y : List UInt8} (h : Op.bytesLess x y = true) : Op.bytesLess y x = false ∧ (y == x) = false := by
  rw [Tf.less_before] at h ⊢
  constructor
  · cases hb : bytesBefore y x with
    | false => rfl
    | true =>
      have := WideShapes.bytes_trans _ _ _ h hb
      rw [WideAt.bytes_irrefl] at this
      cases this
  · simp
    rintro rfl
    rw [WideAt.bytes_irrefl] at h
    cases h
theorem less_total {x y : List UInt8} (h : Op.bytesLess x y = false) : Op.bytesLess y x = true ∨ (Op.bytesLess y x = false ∧ (y == x) = true) := by
  by_cases e : y = x
  · subst e
    exact .inr ⟨h, by simp⟩
  · rw [Tf.less_before] at h ⊢
    rcases WideAt.bytes_total y x e with h1 | h1
    · exact .inl h1
    · rw [h] at h1; cases h1

theorem hid_of {p : Prop} (h : p) : Hid p := h

set_option maxRecDepth 100000 in
set_option maxHeartbeats 8000000 in
theorem TreeOf_some (s : List UInt8) (es : Fs) (hp : Tf.parse s = some es) (hs : s.length ≤ 3000) (w : World) :
    Calls Tryz.prog 11 #[.string (ba s)] w fun e w' => ((Tf.stop pathB [] es ≠ 0 ∧ e = .returned (.tuple #[.pointer none, .int .i64 (Tf.stop pathB [] es)])) ∨ (Tf.stop pathB [] es = 0 ∧ ¬ Tf.Rises es ∧ e = .returned (.tuple #[.pointer none, .int .i64 3])) ∨
      (Tf.stop pathB [] es = 0 ∧ Tf.Rises es ∧ ∃ tb v, e = .returned (.tuple #[Ptr tb, .int .i64 0]) ∧ RTreeAt w.heap.size w' tb (Tf.puts es) v)) ∧ Below w.heap.size w w' := by
  obtain ⟨i0, hi, hz0, hz1, hz2⟩ := info_parts Tryz.infoRFile
  obtain ⟨bs, eb, T⟩ := txt s
  rw [eb]
  clear eb
  have zs : (bs.size : Int) ≤ 3000 := by rw [T.size]; omega
  go_enter Tryz.func11, Tryz.ntmps11
  go_wp2
  go_loopw [4, 5] (fun v at_ wr => ∃ (dn : Fs) (a : Nat), a ≤ s.length ∧ dn.length ≤ a ∧ Hid (some es = (Tf.parse (s.drop a)).map (dn ++ ·)) ∧ at_ = .int .i64 a ∧ wr.ownsRow w.heap.size 54 2 v dn.length (entCells dn) ∧ Below w.heap.size w wr) (fun _ a _ => s.length - (intOf a).toNat)
  case atStart => exact ⟨[], 0, Nat.zero_le _, Nat.le_refl _, hid_of (by simpa using hp.symm), rfl, World.ownsRow_nil _ _ _ _, Below.refl _ _⟩
  case round =>
    obtain ⟨dn, a, ha, hda, HP, rfl, hrow, hB⟩ := hrel
    by_cases hlt : a < s.length
    · have hne : s.drop a ≠ [] := fun e => by have := congrArg List.length e; rw [List.length_drop] at this; simp at this; omega
      cases hre : Tf.readE (s.drop a) with
      | none => rw [Tf.parse_no hne hre] at HP; cases HP.out
      | some er =>
        obtain ⟨e, r⟩ := er
        obtain ⟨N, K, n, dd, Y⟩ := scan_yes T ha hre
        have HP2 : Hid (some es = (Tf.parse r).map ((dn ++ [e]) ++ ·)) := by
          have := HP.out
          rw [Tf.parse_step hne hre, Option.map_map] at this
          rw [hid_of this |>.out]
          congr 1
          funext x
          simp
        have c1 : (a : Int) < (bs.size : Int) := by rw [T.size]; omega
        have hsz2 : bs.size = s.length := T.size
        have HSZ := hid_of hsz2
        clear hsz2
        have hbz := hB.size
        clear hre hne HP
        have LN := Y.line
        have BL := Y.blank
        have knN := Y.kn
        have nn := Y.nn
        have fit := Y.fit
        have small := Y.small
        have cutN := Y.cutN
        have cutP := Y.cutP
        have cutB := Y.cutB
        have last : (((bs[N + 1 + n].toNat : Nat) : Int) == 10) = true := Y.last
        have yes10 := LN.yes nn
        have yes32 := BL.yes knN (by omega)
        have HN : Hid (∀ W, Calls Tryz.prog 39 #[.string (ba dd), .int .i64 4] W fun e w' => e = .returned (.int .i64 (n : Int)) ∧ w' = W) := fun W => by
          have := NumberOf_calls dd Y.len W
          rwa [Y.num] at this
        have x2 : (K : Int) < (N : Int) := by omega
        have x3 : (N : Int) < (bs.size : Int) := by omega
        have x4 : (N : Int) + 1 + (n : Int) < (bs.size : Int) := by omega
        have x5 : (0 : Int) ≤ (n : Int) := by omega
        have x6 : (n : Int) < 10000 := by omega
        have sl1 : ∀ W, (Instr.slice 9 (.string bs) (some (.int .i64 ((K : Int) + 1))) (some (.int .i64 (N : Int))) none).run Tryz.prog W = .ok (.string (ba dd)) W := fun W => by
          rw [run_slice_string (P := Tryz.prog) W 9 bs .i64 .i64 _ _ Tryz.underlying9 (by omega) (by omega) (by omega), ← cutN]
          rfl
        have sl2 : ∀ W, (Instr.slice 9 (.string bs) (some (.int .i64 (a : Int))) (some (.int .i64 (K : Int))) none).run Tryz.prog W = .ok (.string (ba e.1)) W := fun W => by
          rw [run_slice_string (P := Tryz.prog) W 9 bs .i64 .i64 _ _ Tryz.underlying9 (by omega) (by have := BL.lo; omega) (by omega), ← cutP]
          rfl
        have sl3 : ∀ W, (Instr.slice 9 (.string bs) (some (.int .i64 ((N : Int) + 1))) (some (.int .i64 ((N : Int) + 1 + (n : Int)))) none).run Tryz.prog W = .ok (.string (ba e.2)) W := fun W => by
          rw [run_slice_string (P := Tryz.prog) W 9 bs .i64 .i64 _ _ Tryz.underlying9 (by omega) (by omega) (by omega), ← cutB]
          rfl
        have wr1 : IntKind.i64.wrap ((N : Int) + 1) = (N : Int) + 1 := by rw [IntKind.wrap_i64]; omega
        have wr2 : IntKind.i64.wrap ((N : Int) + 1 + (n : Int)) = (N : Int) + 1 + (n : Int) := by rw [IntKind.wrap_i64]; omega
        clear cutN cutP cutB
        have hre2 : Hid (r = s.drop (N + n + 2)) := Y.rest
        clear Y
        have HLn := hid_of LN
        have HBl := hid_of BL
        have y1 : (a : Int) ≤ (K : Int) := by have := BL.lo; omega
        have y2 : (K : Int) ≤ (N : Int) := by have := BL.hi; omega
        have y3 : (N : Int) ≤ (bs.size : Int) := by have := LN.hi; omega
        have y0 : (0 : Int) ≤ (a : Int) := by omega
        clear LN BL
        go_wp2
        go_loopw [6] (fun ln wx => ∃ l : Nat, a ≤ l ∧ l ≤ N ∧ ln = .int .i64 l ∧ wx = wr) (fun ln _ => bs.size - (intOf ln).toNat)
        case atStart => exact ⟨a, by omega, by omega, rfl, rfl⟩
        case round =>
          obtain ⟨l, hal, hlN, rfl, rfl⟩ := hrel
          by_cases hl : l < N
          · have hls : l < bs.size := by omega
            have d1 : (l : Int) < (bs.size : Int) := by omega
            have d0 : (0 : Int) ≤ (l : Int) := by omega
            have hb := HLn.out.no l hls hal hl
            go_wp2
            go_roundw
            case rel => exact ⟨l + 1, by omega, by omega, by go_num, by first | rfl | trivial⟩
            case measure => simp [intOf]; omega
          · obtain rfl : l = N := by omega
            go_wp2
            go_loopw [7] (fun bl wx => ∃ b : Nat, a ≤ b ∧ b ≤ K ∧ bl = .int .i64 b ∧ wx = wr) (fun bl _ => bs.size - (intOf bl).toNat)
            case atStart => exact ⟨a, by omega, by omega, rfl, rfl⟩
            case round =>
              obtain ⟨b, hab, hbK, rfl, rfl⟩ := hrel
              by_cases hk : b < K
              · have hbs : b < bs.size := by omega
                have d1 : (b : Int) < (l : Int) := by omega
                have d0 : (0 : Int) ≤ (b : Int) := by omega
                have d2 : (b : Int) < (bs.size : Int) := by omega
                have hb := HBl.out.no b hbs hab hk
                go_wp2
                go_roundw
                case rel => exact ⟨b + 1, by omega, by omega, by go_num, by first | rfl | trivial⟩
                case measure => simp [intOf]; omega
              · obtain rfl : b = K := by omega
                have q1 : ((l : Int) == (bs.size : Int)) = false := by simp; omega
                have q2 : ((b : Int) == (l : Int)) = false := by simp; omega
                go_wp2_with fail
                refine (HN.out _).mono ?_
                rintro e' w' ⟨rfl, rfl⟩
                go_wp2
                have hrowd : w'.drew.ownsRow w.heap.size 54 2 u4 dn.length (entCells dn) := hrow
                go_region_law (refine step_append_lies _ rfl (.tmp 75) (.tmp 89) 44 rfl w.heap.size 54 i0 (.agg #[.string ⟨#[]⟩, .string ⟨#[]⟩]) 2 32 Tryz.underlying44 hi hz0 hz1 hz2 rfl (by decide) _ _ _ rfl (hrowd.alloc _) ⟨w'.heap.size, 0, none⟩ 1 1 [.string (ba e.1), .string (ba e.2)] rfl rfl (two_new' _ _ _ _ _ (by simp)) (by simp [Value.oneCell']) (by decide) (by unfold maxLen; omega) (by omega) (by simp; omega) _ rfl ?_; intro g cap w1 hown hgrow0 hat hlt1; (have hgrow : (w'.alloc (Obj.cells #[Value.string (ba e.1), Value.string (ba e.2)] 54)).drew.grownBy w1 u4.ownBlock := hgrow0); clear hgrow0 hat hlt1)
                go_wp2
                go_roundw
                case rel =>
                  refine ⟨dn ++ [e], l + n + 2, by rw [← HSZ.out]; omega, by simp; omega, hid_of ?_, by go_num, ?_, ?_⟩
                  · rw [← hre2.out]; exact HP2.out
                  · rw [entCells_snoc]; simpa using hown
                  · exact ((hB.alloc hbz _).drew).grown hgrow (by simp; omega) (row_low hrow)
                case measure => simp [intOf]; omega
    · obtain rfl : a = s.length := by omega
      generalize wr = w0 at *
      have HEs : es = dn := by
        have := HP.out
        rw [List.drop_length, Tf.parse_nil] at this
        simpa using this
      subst HEs
      have c1 : (bs.size : Int) ≤ ((s.length : Nat) : Int) := by rw [T.size]; omega
      have hn : es.length ≤ 1000 := by
        have h3 := (Tf.textT_long es).1
        rw [(Tf.parse_Parse _ s (Nat.le_refl _) es hp).text] at h3
        omega
      have hlen : ∀ f ∈ es, f.1.length ≤ 1000000 := fun f hf => by
        have h3 := ((Tf.textT_long es).2 f hf).1
        rw [(Tf.parse_Parse _ s (Nat.le_refl _) es hp).text] at h3
        omega
      have HLen := hid_of hlen
      have zn : (es.length : Int) ≤ 1000 := by omega
      obtain ⟨S, hS⟩ : ∃ S, Tf.stop pathB [] es = S := ⟨_, rfl⟩
      have HS := hid_of hS
      obtain ⟨pa, cap, rfl, hcap, hin⟩ := FRow.of_owns hrow
      have h0 := rtree_new w0
      have hk0 : ∀ j, j < w0.heap.size → (w0.alloc (.cells #[.slice none 0 0] 46)).heap[j]? = w0.heap[j]? := fun j hj => ((Below.refl w0.heap.size w0).alloc (Nat.le_refl _) _).block j hj
      have hB0 := hB.size
      have G0 := hB.alloc hB.size (.cells #[.slice none 0 0] 46)
      have hgl : ∀ g cur, pa = some ⟨g, 0, none⟩ → w0.heap[g]? = some (.cells cur 54 (0, 0)) → g < w0.heap.size := fun g cur _ h => (Array.getElem?_eq_some_iff.1 h).1
      generalize hb0 : w0.heap.size = B at *
      clear hrow HP hp hlen hS
      go_wp2
      go_loopw [10] (fun i wx => ∃ k : Nat, k ≤ es.length ∧ i = .int .i64 k ∧ Hid (Tf.Well pathB (Tf.puts (es.take k)) ∧ Tf.stop pathB (Tf.puts (es.take k)) (es.drop k) = S) ∧ (∃ v, RTreeAt B wx B (Tf.puts (es.take k)) v) ∧ (∀ j, j < B → wx.heap[j]? = w0.heap[j]?) ∧ Below w.heap.size w wx) (fun i _ => es.length - (intOf i).toNat)
      case atStart => exact ⟨0, Nat.zero_le _, rfl, hid_of ⟨Tf.Well.nil _, HS.out⟩, ⟨_, by simpa [Tf.puts] using h0⟩, hk0, G0⟩
      case round =>
        obtain ⟨k, hk, rfl, hwell, ⟨v, hTk⟩, hkeep, hBk⟩ := hrel
        by_cases hlt : k < es.length
        · obtain ⟨g, cur, rfl, hg, hcur⟩ := hin (by intro e; rw [e] at hlt; simp at hlt)
          have hgB : g < B := hgl g cur rfl hg
          have hg' := (hkeep g hgB).trans hg
          have d1 := cell_of_row hg' (hcur k hlt).1
          have d2 := cell_of_row hg' (hcur k hlt).2
          have z1 : (k : Int) < (es.length : Int) := by omega
          have z0 : (0 : Int) ≤ (k : Int) := by omega
          have q8 : IntKind.i64.wrap (k : Int) = (k : Int) := by rw [IntKind.wrap_i64]; omega
          have hBx : B < wr.heap.size := hTk.lt
          have HPut : Hid (∀ W, Below wr.heap.size wr W → Calls Tryz.prog 20 #[Ptr B, .string (ba es[k].1), .string (ba es[k].2)] W fun e w' => e = .returned (.int .i64 (Tf.putCode pathB (Tf.puts (es.take k)) es[k].1 es[k].2)) ∧ (∃ v', RTreeAt B w' B (Tf.putF pathB (Tf.puts (es.take k)) es[k].1 es[k].2) v') ∧ Below B wr w') := fun W hW =>
            (rPut_calls (hTk.below hW) hwell.out.1 es[k].1 es[k].2 (HLen.out _ (List.getElem_mem hlt))).mono fun e w' ⟨h1, h2, h3⟩ => ⟨h1, h2, (hW.mono (Nat.le_of_lt hBx)).trans h3⟩
          have HST := hid_of (Tf.stop_step (ok := pathB) hlt)
          have HW : Hid (Tf.putCode pathB (Tf.puts (es.take k)) es[k].1 es[k].2 = 0 → Tf.putF pathB (Tf.puts (es.take k)) es[k].1 es[k].2 = Tf.puts (es.take (k + 1)) ∧ Tf.Well pathB (Tf.puts (es.take (k + 1)))) := fun hc => by
            have e : Tf.putF pathB (Tf.puts (es.take k)) es[k].1 es[k].2 = Tf.puts (es.take (k + 1)) := by
              unfold Tf.putF
              rw [if_pos hc, List.take_succ_eq_append_getElem hlt, Tf.puts_snoc]
            exact ⟨e, e ▸ hwell.out.1.putF _ _⟩
          have HPle := hid_of (Tf.putCode_le pathB (Tf.puts (es.take k)) es[k].1 es[k].2)
          clear hin hcur hg hg'
          generalize Tf.putF pathB (Tf.puts (es.take k)) es[k].1 es[k].2 = fs' at *
          generalize Tf.putCode pathB (Tf.puts (es.take k)) es[k].1 es[k].2 = pc at *
          generalize es[k].1 = x at *
          generalize es[k].2 = y at *
          go_wp2
          go_region_held3 (fun w' => w'.cell? ⟨g, k * 2, none⟩ = some (.string (ba x)) ∧ w'.cell? ⟨g, k * 2 + 1, none⟩ = some (.string (ba y))) (first | go_keep | fail)
            (first | (go_at_call 20; refine (HPut.out _ (by exact (Below.refl _ wr).drew)).mono ?_; rintro e w3 ⟨rfl, ⟨v', hT'⟩, g3⟩; have e2 := (g3.cell (p := ⟨g, k * 2, none⟩) hgB).trans d1; have e3 := (g3.cell (p := ⟨g, k * 2 + 1, none⟩) hgB).trans d2) | fail)
          all_goals
            by_cases hc : pc = 0
            · have hc' : (pc : Int) = 0 := by omega
              have hc2 : ¬ (0 : Int) < (pc : Int) := by omega
              obtain ⟨hf, hwn⟩ := HW.out hc
              have hst : Hid (Tf.Well pathB (Tf.puts (es.take (k + 1))) ∧ Tf.stop pathB (Tf.puts (es.take (k + 1))) (es.drop (k + 1)) = S) := ⟨hwn, by rw [← hwell.out.2, HST.out, if_pos hc]⟩
              rw [hf] at hT'
              clear hf hwn hc
              go_wp2
              go_roundw
              case rel => exact ⟨_, _, _, ⟨k + 1, by omega, rfl, hst, ⟨v', hT'⟩, fun j hj => (g3.block j hj).trans (hkeep j hj), hBk.trans (g3.mono hB0)⟩, rfl, rfl, by go_num⟩
              case measure => simp [intOf]; omega
            · have hc' : (0 : Int) < (pc : Int) := by omega
              have hres : S = pc := by rw [← hwell.out.2, HST.out, if_neg hc]
              go_wp2
              go_ret2
              exact ⟨.inl ⟨by rw [HS.out, hres]; exact hc, by rw [HS.out, hres]; rfl⟩, hBk.trans (g3.mono hB0)⟩
        · have z1 : (es.length : Int) ≤ (k : Int) := by omega
          obtain rfl : k = es.length := by omega
          rw [List.take_length] at hTk
          have hS0 : S = 0 := by
            have := hwell.out.2
            rw [List.drop_length] at this
            rw [← this]
            rfl
          clear hwell
          generalize wr = w4 at *
          go_wp2
          go_loopw [12] (fun i wy => ∃ k : Nat, 1 ≤ k ∧ k ≤ 1001 ∧ i = .int .i64 k ∧ Hid (∀ j (hj : j + 1 < es.length), j + 1 < k → bytesBefore es[j].1 es[j + 1].1 = true) ∧ ∃ q, wy = w4.drewN q) (fun i _ => 1001 - (intOf i).toNat)
          case atStart => exact ⟨1, by omega, by omega, rfl, hid_of fun j _ h => by omega, 0, rfl⟩
          case round =>
            obtain ⟨k, hk1, hkk, rfl, HU, q, rfl⟩ := hrel
            by_cases hlt2 : k < es.length
            · obtain ⟨g, cur, rfl, hg, hcur⟩ := hin (by intro e; rw [e] at hlt2; simp at hlt2)
              have hgB : g < B := hgl g cur rfl hg
              have hg' := (hkeep g hgB).trans hg
              have y1 : (k : Int) < (es.length : Int) := by omega
              have y0 : (1 : Int) ≤ (k : Int) := by omega
              have y2 : (0 : Int) ≤ (k : Int) := by omega
              have h1 := cell_of_row hg' (hcur (k - 1) (by omega)).1
              have h2 := cell_of_row hg' (hcur k hlt2).1
              obtain ⟨j, rfl⟩ : ∃ j, k = j + 1 := ⟨k - 1, by omega⟩
              simp only [Nat.add_sub_cancel] at h1
              clear hin hcur hg hg'
              cases hb : Op.bytesLess es[j].1 es[j + 1].1 with
              | true =>
                obtain ⟨hb1, hb2⟩ := less_asymm hb
                have HB : Hid (bytesBefore es[j].1 es[j + 1].1 = true) := by rw [← Tf.less_before]; exact hb
                have HX : Hid (∀ i (hi : i + 1 < es.length), i + 1 < j + 1 + 1 → bytesBefore es[i].1 es[i + 1].1 = true) := fun i hi hij => by
                  rcases Nat.lt_or_ge (i + 1) (j + 1) with h | h
                  · exact HU.out i hi h
                  · obtain rfl : i = j := by omega
                    exact HB.out
                clear HU HB
                generalize es[j].1 = x at *
                generalize es[j + 1].1 = y at *
                go_wp2
                go_region
                go_wp2
                go_roundw
                case rel => exact ⟨j + 1 + 1, by omega, by omega, by go_num, HX, q + 1, rfl⟩
                case measure => simp [intOf]; omega
              | false =>
                have HNr : Hid (¬ Tf.Rises es) := fun hr => by
                  have := List.pairwise_iff_getElem.1 hr j (j + 1) (by omega) hlt2 (by omega)
                  rw [← Tf.less_before, hb] at this
                  cases this
                have hb1 := less_total hb
                clear HU
                generalize es[j].1 = x at *
                generalize es[j + 1].1 = y at *
                rcases hb1 with hb1 | ⟨hb1, hb2⟩
                all_goals
                  go_wp2
                  go_region
                  go_wp2
                  go_ret2
                  exact ⟨.inr (.inl ⟨HS.out.trans hS0, HNr.out, rfl⟩), below_draws hBk (q + 1)⟩
            · have y1 : (es.length : Int) ≤ (k : Int) := by omega
              have HR := hid_of (Tf.rises_of_pairs (es := es) fun j hj => HU.out j hj (by omega))
              clear hin HU
              go_wp2
              go_ret2
              exact ⟨.inr (.inr ⟨HS.out.trans hS0, HR.out, B, v, rfl, (hTk.below (below_draws (Below.refl _ w4) q)).mono hB0⟩), below_draws hBk q⟩
end Go.Proofs.YtigcogfjclohjaaGreatDoor
