/- The document's answer's TreeOf at a text that is not read: the walk; TreeOf, whole. -/
import Derived.Test.YtigcogfjclohjaaGreatDoorRTreeOf2
namespace Go.Proofs.YtigcogfjclohjaaGreatDoor
open Go.RowKit Go.Shelf Go.Lib Go.Maps
open Tf (Fs)

theorem scan_all {bs : ByteArray} {s : List UInt8} (T : Txt bs s) (hs : s.length ≤ 1000000) {a : Nat} (ha : a < s.length) (hp : Tf.parse (s.drop a) = none) : ∃ N K, Line bs a N ∧ Blank bs a N K ∧ ((N = bs.size ∧ True) ∨ (N < bs.size ∧ K = N ∧ True) ∨
    (∃ dd, K < N ∧ bs.extract (K + 1) N = ba dd ∧ dd.length ≤ 1000000 ∧ numI dd = -1) ∨
    (∃ (n : Nat) (dd : List UInt8), K < N ∧ bs.extract (K + 1) N = ba dd ∧ dd.length ≤ 1000000 ∧ numI dd = (n : Int) ∧ n < 10000 ∧ bs.size ≤ N + 1 + n) ∨
    (∃ (n : Nat) (dd : List UInt8), ∃ h : N + 1 + n < bs.size, K < N ∧ bs.extract (K + 1) N = ba dd ∧ dd.length ≤ 1000000 ∧ numI dd = (n : Int) ∧ n < 10000 ∧ (((bs[N + 1 + n].toNat : Nat) : Int) == 10) = false) ∨
    (∃ (n : Nat) (dd : List UInt8) (e : List UInt8 × List UInt8) (r : List UInt8), ScanY bs s a N K n dd e r ∧ Tf.parse r = none)) := by
  have hne : s.drop a ≠ [] := fun e => by have := congrArg List.length e; rw [List.length_drop] at this; simp at this; omega
  cases hre : Tf.readE (s.drop a) with
  | none =>
    cases scan_no T hs (Nat.le_of_lt ha) hre with
    | line N K h1 h2 h3 => exact ⟨N, K, h1, h2, .inl ⟨h3, trivial⟩⟩
    | blank N h1 h2 h3 => exact ⟨N, N, h1, h2, .inr (.inl ⟨h3, rfl, trivial⟩)⟩
    | num N K dd h1 h2 h3 h4 h5 h6 h7 => exact ⟨N, K, h1, h2, .inr (.inr (.inl ⟨dd, h4, h5, h6, h7⟩))⟩
    | short N K n dd h1 h2 h3 h4 h5 h6 h7 h8 h9 => exact ⟨N, K, h1, h2, .inr (.inr (.inr (.inl ⟨n, dd, h4, h5, h6, h7, h8, h9⟩)))⟩
    | last N K n dd h h1 h2 h3 h4 h5 h6 h7 h8 h9 => exact ⟨N, K, h1, h2, .inr (.inr (.inr (.inr (.inl ⟨n, dd, h, h4, h5, h6, h7, h8, h9⟩))))⟩
  | some er =>
    obtain ⟨e, r⟩ := er
    obtain ⟨N, K, n, dd, Y⟩ := scan_yes T (Nat.le_of_lt ha) hre
    refine ⟨N, K, Y.line, Y.blank, .inr (.inr (.inr (.inr (.inr ⟨n, dd, e, r, Y, ?_⟩))))⟩
    rw [Tf.parse_step hne hre] at hp
    cases h : Tf.parse r with
    | none => rfl
    | some l => rw [h] at hp; cases hp

set_option maxRecDepth 100000 in
set_option maxHeartbeats 8000000 in
theorem TreeOf_none (s : List UInt8) (hp : Tf.parse s = none) (hs : s.length ≤ 3000) (w : World) :
    Calls Tryz.prog 11 #[.string (ba s)] w fun e w' => e = .returned (.tuple #[.pointer none, .int .i64 1]) ∧ Below w.heap.size w w' := by
  obtain ⟨i0, hi, hz0, hz1, hz2⟩ := info_parts Tryz.infoRFile
  obtain ⟨bs, eb, T⟩ := txt s
  rw [eb]
  clear eb
  have zs : (bs.size : Int) ≤ 3000 := by rw [T.size]; omega
  go_enter Tryz.func11, Tryz.ntmps11
  go_wp2
  go_loopw [4, 5] (fun v at_ wr => ∃ (dn : Fs) (a : Nat), a ≤ s.length ∧ dn.length ≤ a ∧ Hid (Tf.parse (s.drop a) = none) ∧ at_ = .int .i64 a ∧ wr.ownsRow w.heap.size 54 2 v dn.length (entCells dn) ∧ Below w.heap.size w wr) (fun _ a _ => s.length - (intOf a).toNat)
  case atStart => exact ⟨[], 0, Nat.zero_le _, Nat.le_refl _, hid_of (by simpa using hp), rfl, World.ownsRow_nil _ _ _ _, Below.refl _ _⟩
  case round =>
    obtain ⟨dn, a, ha, hda, HP, rfl, hrow, hB⟩ := hrel
    have hlt : a < s.length := by
      rcases Nat.lt_or_ge a s.length with h | h
      · exact h
      · have := HP.out
        rw [List.drop_eq_nil_of_le h, Tf.parse_nil] at this
        cases this
    obtain ⟨N, K, LN, BL, HC0⟩ := scan_all T (by omega) hlt HP.out
    have HC := hid_of HC0
    have c1 : (a : Int) < (bs.size : Int) := by rw [T.size]; omega
    have hsz2 : bs.size = s.length := T.size
    have HSZ := hid_of hsz2
    have hbz := hB.size
    clear HP HC0 hsz2 hp
    have HLn := hid_of LN
    have HBl := hid_of BL
    have y1 : (a : Int) ≤ (K : Int) := by have := BL.lo; omega
    have y2 : (K : Int) ≤ (N : Int) := by have := BL.hi; omega
    have y3 : (N : Int) ≤ (bs.size : Int) := by have := LN.hi; omega
    have y0 : (0 : Int) ≤ (a : Int) := by omega
    clear LN BL
    go_wp2
    go_loopw [6] (fun ln wx => ∃ l : Nat, a ≤ l ∧ l ≤ N ∧ ln = .int .i64 l ∧ wx = wr) (fun ln _ => bs.size - (intOf ln).toNat)
    case atStart => exact ⟨a, by omega, by omega, rfl, rfl⟩
    case round =>
      obtain ⟨l, hal, hlN, rfl, rfl⟩ := hrel
      by_cases hl : l < N
      · have hls : l < bs.size := by omega
        have d1 : (l : Int) < (bs.size : Int) := by omega
        have d0 : (0 : Int) ≤ (l : Int) := by omega
        have hb := HLn.out.no l hls hal hl
        go_wp2
        go_roundw
        case rel => exact ⟨l + 1, by omega, by omega, by go_num, by first | rfl | trivial⟩
        case measure => simp [intOf]; omega
      · obtain rfl : l = N := by omega
        rcases Nat.lt_or_ge l bs.size with hls | hls
        · have x3 : (l : Int) < (bs.size : Int) := by omega
          have hb10 := HLn.out.yes hls
          go_wp2
          go_loopw [7] (fun bl wx => ∃ b : Nat, a ≤ b ∧ b ≤ K ∧ bl = .int .i64 b ∧ wx = wr) (fun bl _ => bs.size - (intOf bl).toNat)
          case atStart => exact ⟨a, by omega, by omega, rfl, rfl⟩
          case round =>
            obtain ⟨b, hab, hbK, rfl, rfl⟩ := hrel
            by_cases hk : b < K
            · have hbs : b < bs.size := by omega
              have d1 : (b : Int) < (l : Int) := by omega
              have d0 : (0 : Int) ≤ (b : Int) := by omega
              have d2 : (b : Int) < (bs.size : Int) := by omega
              have hb := HBl.out.no b hbs hab hk
              go_wp2
              go_roundw
              case rel => exact ⟨b + 1, by omega, by omega, by go_num, by first | rfl | trivial⟩
              case measure => simp [intOf]; omega
            · obtain rfl : b = K := by omega
              rcases HC.out with h | ⟨_, h, _⟩ | ⟨dd, hkn, cutN, hdl, hnum⟩ | ⟨n, dd, hkn, cutN, hdl, hnum, small, hf⟩ | ⟨n, dd, hf, hkn, cutN, hdl, hnum, small, hl10⟩ | ⟨n, dd, e, r, Y, HPr⟩
              · exact absurd h.1 (by omega)
              · obtain rfl : b = l := h
                have yes10 := HLn.out.yes (by omega)
                have q1 : ((b : Int) == (bs.size : Int)) = false := by simp; omega
                go_wp2
                go_ret2
                exact ⟨rfl, hB⟩
              · have HN : Hid (∀ W, Calls Tryz.prog 39 #[.string (ba dd), .int .i64 4] W fun e w' => e = .returned (.int .i64 (-1)) ∧ w' = W) := fun W => by
                  have := NumberOf_calls dd hdl W
                  rwa [hnum] at this
                have yes10 := HLn.out.yes (by omega)
                have yes32 := HBl.out.yes hkn (by omega)
                have x2 : (b : Int) < (l : Int) := by omega
                have x3 : (l : Int) < (bs.size : Int) := by omega
                have q1 : ((l : Int) == (bs.size : Int)) = false := by simp; omega
                have q2 : ((b : Int) == (l : Int)) = false := by simp; omega
                have sl1 : ∀ W, (Instr.slice 9 (.string bs) (some (.int .i64 ((b : Int) + 1))) (some (.int .i64 (l : Int))) none).run Tryz.prog W = .ok (.string (ba dd)) W := fun W => by
                  rw [run_slice_string (P := Tryz.prog) W 9 bs .i64 .i64 _ _ Tryz.underlying9 (by omega) (by omega) (by omega), ← cutN]
                  rfl
                clear cutN
                go_wp2_with fail
                refine (HN.out _).mono ?_
                rintro e' w' ⟨rfl, rfl⟩
                clear HN sl1
                go_wp2
                go_ret2
                exact ⟨rfl, hB⟩
              · have x5 : (0 : Int) ≤ (n : Int) := by omega
                have x6 : (n : Int) < 10000 := by omega
                have wr1 : IntKind.i64.wrap ((l : Int) + 1) = (l : Int) + 1 := by rw [IntKind.wrap_i64]; omega
                have wr2 : IntKind.i64.wrap ((l : Int) + 1 + (n : Int)) = (l : Int) + 1 + (n : Int) := by rw [IntKind.wrap_i64]; omega
                have x4 : (bs.size : Int) ≤ (l : Int) + 1 + (n : Int) := by omega
                have HN : Hid (∀ W, Calls Tryz.prog 39 #[.string (ba dd), .int .i64 4] W fun e w' => e = .returned (.int .i64 (n : Int)) ∧ w' = W) := fun W => by
                  have := NumberOf_calls dd hdl W
                  rwa [hnum] at this
                have yes10 := HLn.out.yes (by omega)
                have yes32 := HBl.out.yes hkn (by omega)
                have x2 : (b : Int) < (l : Int) := by omega
                have x3 : (l : Int) < (bs.size : Int) := by omega
                have q1 : ((l : Int) == (bs.size : Int)) = false := by simp; omega
                have q2 : ((b : Int) == (l : Int)) = false := by simp; omega
                have sl1 : ∀ W, (Instr.slice 9 (.string bs) (some (.int .i64 ((b : Int) + 1))) (some (.int .i64 (l : Int))) none).run Tryz.prog W = .ok (.string (ba dd)) W := fun W => by
                  rw [run_slice_string (P := Tryz.prog) W 9 bs .i64 .i64 _ _ Tryz.underlying9 (by omega) (by omega) (by omega), ← cutN]
                  rfl
                clear cutN
                go_wp2_with fail
                refine (HN.out _).mono ?_
                rintro e' w' ⟨rfl, rfl⟩
                clear HN sl1
                go_wp2
                go_ret2
                exact ⟨rfl, hB⟩
              · have x5 : (0 : Int) ≤ (n : Int) := by omega
                have x6 : (n : Int) < 10000 := by omega
                have wr1 : IntKind.i64.wrap ((l : Int) + 1) = (l : Int) + 1 := by rw [IntKind.wrap_i64]; omega
                have wr2 : IntKind.i64.wrap ((l : Int) + 1 + (n : Int)) = (l : Int) + 1 + (n : Int) := by rw [IntKind.wrap_i64]; omega
                have x4 : (l : Int) + 1 + (n : Int) < (bs.size : Int) := by omega
                have HN : Hid (∀ W, Calls Tryz.prog 39 #[.string (ba dd), .int .i64 4] W fun e w' => e = .returned (.int .i64 (n : Int)) ∧ w' = W) := fun W => by
                  have := NumberOf_calls dd hdl W
                  rwa [hnum] at this
                have yes10 := HLn.out.yes (by omega)
                have yes32 := HBl.out.yes hkn (by omega)
                have x2 : (b : Int) < (l : Int) := by omega
                have x3 : (l : Int) < (bs.size : Int) := by omega
                have q1 : ((l : Int) == (bs.size : Int)) = false := by simp; omega
                have q2 : ((b : Int) == (l : Int)) = false := by simp; omega
                have sl1 : ∀ W, (Instr.slice 9 (.string bs) (some (.int .i64 ((b : Int) + 1))) (some (.int .i64 (l : Int))) none).run Tryz.prog W = .ok (.string (ba dd)) W := fun W => by
                  rw [run_slice_string (P := Tryz.prog) W 9 bs .i64 .i64 _ _ Tryz.underlying9 (by omega) (by omega) (by omega), ← cutN]
                  rfl
                clear cutN
                go_wp2_with fail
                refine (HN.out _).mono ?_
                rintro e' w' ⟨rfl, rfl⟩
                clear HN sl1
                go_wp2
                go_ret2
                exact ⟨rfl, hB⟩
              · have hkn := Y.kn
                have fit := Y.fit
                have small := Y.small
                have cutN := Y.cutN
                have cutP := Y.cutP
                have cutB := Y.cutB
                have hdl := Y.len
                have hnum := Y.num
                have last : (((bs[l + 1 + n].toNat : Nat) : Int) == 10) = true := Y.last
                have hre2 : Hid (r = s.drop (l + n + 2)) := Y.rest
                have x4 : (l : Int) + 1 + (n : Int) < (bs.size : Int) := by omega
                have sl2 : ∀ W, (Instr.slice 9 (.string bs) (some (.int .i64 (a : Int))) (some (.int .i64 (b : Int))) none).run Tryz.prog W = .ok (.string (ba e.1)) W := fun W => by
                  rw [run_slice_string (P := Tryz.prog) W 9 bs .i64 .i64 _ _ Tryz.underlying9 (by omega) (by omega) (by omega), ← cutP]
                  rfl
                have sl3 : ∀ W, (Instr.slice 9 (.string bs) (some (.int .i64 ((l : Int) + 1))) (some (.int .i64 ((l : Int) + 1 + (n : Int)))) none).run Tryz.prog W = .ok (.string (ba e.2)) W := fun W => by
                  rw [run_slice_string (P := Tryz.prog) W 9 bs .i64 .i64 _ _ Tryz.underlying9 (by omega) (by omega) (by omega), ← cutB]
                  rfl
                have HP2 := hid_of HPr
                clear cutP cutB Y
                have x5 : (0 : Int) ≤ (n : Int) := by omega
                have x6 : (n : Int) < 10000 := by omega
                have wr1 : IntKind.i64.wrap ((l : Int) + 1) = (l : Int) + 1 := by rw [IntKind.wrap_i64]; omega
                have wr2 : IntKind.i64.wrap ((l : Int) + 1 + (n : Int)) = (l : Int) + 1 + (n : Int) := by rw [IntKind.wrap_i64]; omega
                have HN : Hid (∀ W, Calls Tryz.prog 39 #[.string (ba dd), .int .i64 4] W fun e w' => e = .returned (.int .i64 (n : Int)) ∧ w' = W) := fun W => by
                  have := NumberOf_calls dd hdl W
                  rwa [hnum] at this
                have yes10 := HLn.out.yes (by omega)
                have yes32 := HBl.out.yes hkn (by omega)
                have x2 : (b : Int) < (l : Int) := by omega
                have x3 : (l : Int) < (bs.size : Int) := by omega
                have q1 : ((l : Int) == (bs.size : Int)) = false := by simp; omega
                have q2 : ((b : Int) == (l : Int)) = false := by simp; omega
                have sl1 : ∀ W, (Instr.slice 9 (.string bs) (some (.int .i64 ((b : Int) + 1))) (some (.int .i64 (l : Int))) none).run Tryz.prog W = .ok (.string (ba dd)) W := fun W => by
                  rw [run_slice_string (P := Tryz.prog) W 9 bs .i64 .i64 _ _ Tryz.underlying9 (by omega) (by omega) (by omega), ← cutN]
                  rfl
                clear cutN
                go_wp2_with fail
                refine (HN.out _).mono ?_
                rintro e' w' ⟨rfl, rfl⟩
                clear HN sl1
                go_wp2
                have hrowd : w'.drew.ownsRow w.heap.size 54 2 u4 dn.length (entCells dn) := hrow
                go_region_law (refine step_append_lies _ rfl (.tmp 75) (.tmp 89) 44 rfl w.heap.size 54 i0 (.agg #[.string ⟨#[]⟩, .string ⟨#[]⟩]) 2 32 Tryz.underlying44 hi hz0 hz1 hz2 rfl (by decide) _ _ _ rfl (hrowd.alloc _) ⟨w'.heap.size, 0, none⟩ 1 1 [.string (ba e.1), .string (ba e.2)] rfl rfl (two_new' _ _ _ _ _ (by simp)) (by simp [Value.oneCell']) (by decide) (by unfold maxLen; omega) (by omega) (by simp; omega) _ rfl ?_; intro g cap w1 hown hgrow0 hat hlt1; (have hgrow : (w'.alloc (Obj.cells #[Value.string (ba e.1), Value.string (ba e.2)] 54)).drew.grownBy w1 u4.ownBlock := hgrow0); clear hgrow0 hat hlt1)
                go_wp2
                go_roundw
                case rel =>
                  refine ⟨dn ++ [e], l + n + 2, by rw [← HSZ.out]; omega, by simp; omega, hid_of ?_, by go_num, ?_, ?_⟩
                  · rw [← hre2.out]; exact HP2.out
                  · rw [entCells_snoc]; simpa using hown
                  · exact ((hB.alloc hbz _).drew).grown hgrow (by simp; omega) (row_low hrow)
                case measure => simp [intOf]; omega
        · have x3 : (bs.size : Int) ≤ (l : Int) := by omega
          have x3' : (l : Int) = (bs.size : Int) := by omega
          have q1 : ((l : Int) == (bs.size : Int)) = true := by simp; omega
          go_wp2
          go_loopw [7] (fun bl wx => ∃ b : Nat, a ≤ b ∧ b ≤ K ∧ bl = .int .i64 b ∧ wx = wr) (fun bl _ => bs.size - (intOf bl).toNat)
          case atStart => exact ⟨a, by omega, by omega, rfl, rfl⟩
          case round =>
            obtain ⟨b, hab, hbK, rfl, rfl⟩ := hrel
            by_cases hk : b < K
            · have hbs : b < bs.size := by omega
              have d1 : (b : Int) < (l : Int) := by omega
              have d0 : (0 : Int) ≤ (b : Int) := by omega
              have d2 : (b : Int) < (bs.size : Int) := by omega
              have hb := HBl.out.no b hbs hab hk
              go_wp2
              go_roundw
              case rel => exact ⟨b + 1, by omega, by omega, by go_num, by first | rfl | trivial⟩
              case measure => simp [intOf]; omega
            · obtain rfl : b = K := by omega
              rcases Nat.lt_or_ge b l with hkn | hkn
              · have yes32 := HBl.out.yes hkn (by omega)
                have x2 : (b : Int) < (l : Int) := by omega
                go_wp2
                go_ret2
                exact ⟨rfl, hB⟩
              · have x2 : (l : Int) ≤ (b : Int) := by omega
                go_wp2
                go_ret2
                exact ⟨rfl, hB⟩

/-- TreeOf, at any text of at most 3000 bytes. -/
theorem TreeOf_calls (s : List UInt8) (hs : s.length ≤ 3000) (w : World) :
    Calls Tryz.prog 11 #[.string (ba s)] w fun e w' => ((Tf.codeT pathB s ≠ 0 ∧ e = .returned (.tuple #[.pointer none, .int .i64 (Tf.codeT pathB s)])) ∨
      (Tf.codeT pathB s = 0 ∧ ∃ tb v fs, e = .returned (.tuple #[Ptr tb, .int .i64 0]) ∧ RTreeAt w.heap.size w' tb fs v ∧ Tf.Well pathB fs ∧ Tf.textT fs = s)) ∧ Below w.heap.size w w' := by
  cases hp : Tf.parse s with
  | none =>
    rw [Tf.codeT_none hp]
    exact (TreeOf_none s hp hs w).mono fun e w' ⟨h1, h2⟩ => ⟨.inl ⟨by omega, h1⟩, h2⟩
  | some es =>
    have hpar := Tf.parse_Parse _ s (Nat.le_refl _) es hp
    refine (TreeOf_some s es hp hs w).mono fun e w' ⟨h1, h2⟩ => ⟨?_, h2⟩
    rcases h1 with ⟨hc, h1⟩ | ⟨hc, hr, h1⟩ | ⟨hc, hr, tb, v, h1, hT⟩
    · rw [Tf.codeT_stop hp hc]
      exact .inl ⟨hc, h1⟩
    · rw [Tf.codeT_shape hp hc hr]
      exact .inl ⟨by omega, h1⟩
    · rw [Tf.codeT_yes hp hc hr]
      exact .inr ⟨rfl, tb, v, _, h1, hT, Tf.puts_well hc, by rw [Tf.puts_self hr, hpar.text]⟩
end Go.Proofs.YtigcogfjclohjaaGreatDoor
