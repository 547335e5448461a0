/- Statements' LongRules, OwnRules and faulted. -/
import Derived.Test.YtmeplgihnlpjcaaGreatDoorMG8
import Derived.Test.YtmeplgihnlpjcaaGreatDoorMG16
namespace Go.Proofs.YtmeplgihnlpjcaaGreatDoor
open Go.RowKit Go.Shelf Go.Lib

set_option maxRecDepth 100000 in
set_option maxHeartbeats 8000000 in
theorem LongRules_any {w : World} (v : Value) (l : List Ru) (many : Nat) (hmany : many ≤ 40) (hrow : RRow w v l) :
    Calls Tryz.prog 7 #[v, .int .i64 many] w fun e w' => ∃ r : Int, e = .returned (.int .i64 r) ∧ w' = w ∧ (r = 1 ∨ (r = 0 ∧ (l.length ≤ many ∨ l.length = 41) ∧ ∀ x ∈ l, x.Small)) := by
  obtain ⟨p, cap, rfl, hcap, hnn, hin⟩ := hrow
  have HI := hid1 hin
  clear hin hnn
  have zM : (many : Int) ≤ 40 := by omega
  by_cases hm : l.length ≤ many ∨ l.length = 41
  · have HM := hid1 hm
    have hm' : (l.length : Int) ≤ (many : Int) ∨ ((many : Int) < (l.length : Int) ∧ ((l.length : Int) != 41) = false) := by
      rcases hm with h | h
      · exact .inl (by omega)
      · exact .inr ⟨by omega, by simp [h]⟩
    have hl : l.length ≤ 41 := by omega
    have zl : (l.length : Int) ≤ 41 := by omega
    clear hm
    rcases hm' with hm' | ⟨hm', hm2⟩
    all_goals
      go_enter Tryz.func7, Tryz.ntmps7
      go_wp2
      go_loopw [5] (fun i wr => ∃ k : Nat, k ≤ l.length ∧ i = .int .i64 k ∧ (∀ j (hj : j < l.length), j < k → l[j].Small) ∧ w = wr) (fun i _ => l.length - (intOf i).toNat)
      case atStart => exact ⟨0, Nat.zero_le _, rfl, fun j hj h => by omega, rfl⟩
      case round =>
        obtain ⟨k, hk, rfl, hz, rfl⟩ := hrel
        have HZ := hid1 hz
        clear hz
        have c0 : (0 : Int) ≤ (k : Int) := by omega
        by_cases hlt : k < l.length
        · have c1 : (k : Int) < (l.length : Int) := by omega
          obtain ⟨g', o, rfl, hg, hcur⟩ := HI.out (by intro e; rw [e] at hlt; simp at hlt)
          obtain ⟨u0, u1, u2, u, u3, ux⟩ := hcur k hlt
          have HT := hid1 (LongTexts_any u l[k].ins 12 300 (by omega) (by omega) ux.irow)
          have HN : Hid (l[k].Small → ∀ j (hj : j < l.length), j < k + 1 → l[j].Small) := hid1 fun hs j hj hjk => by
            rcases Nat.lt_or_ge j k with h | h
            · exact HZ.out j hj h
            · obtain rfl : j = k := by omega
              exact hs
          have HU := hid1 ux
          clear hcur HI HZ ux
          generalize l[k] = y at *
          obtain ⟨p3, cap3, rfl, _⟩ := HU.out
          by_cases h1 : 100 < y.out.length
          · have z1 : (100 : Int) < (y.out.length : Int) := by omega
            clear HT HN
            go_wp2
            go_ret
            exact ⟨1, rfl, rfl, .inl rfl⟩
          by_cases h2 : 60 < y.kind.length
          · have z1 : (y.out.length : Int) ≤ (100 : Int) := by omega
            have z2 : (60 : Int) < (y.kind.length : Int) := by omega
            clear HT HN
            go_wp2
            go_ret
            exact ⟨1, rfl, rfl, .inl rfl⟩
          by_cases h3 : 150 < y.word.length
          · have z1 : (y.out.length : Int) ≤ (100 : Int) := by omega
            have z2 : (y.kind.length : Int) ≤ (60 : Int) := by omega
            have z3 : (150 : Int) < (y.word.length : Int) := by omega
            clear HT HN
            go_wp2
            go_ret
            exact ⟨1, rfl, rfl, .inl rfl⟩
          have z1 : (y.out.length : Int) ≤ (100 : Int) := by omega
          have z2 : (y.kind.length : Int) ≤ (60 : Int) := by omega
          have z3 : (y.word.length : Int) ≤ (150 : Int) := by omega
          go_wp2_with fail
          refine HT.out.mono ?_
          rintro e w1 ⟨r, rfl, rfl, rfl | ⟨rfl, hy1, hy2⟩⟩
          · clear HT HN
            go_wp2
            go_ret
            exact ⟨1, rfl, rfl, .inl rfl⟩
          · have HNN := hid1 (HN.out ⟨by omega, by omega, by omega, hy1, hy2⟩)
            clear HT HN hy2
            go_wp2
            exact ⟨⟨k + 1, by omega, by go_num, HNN.out, trivial⟩, by simp [intOf]; omega⟩
        · have c1 : (l.length : Int) ≤ (k : Int) := by omega
          have HN : Hid (∀ x ∈ l, x.Small) := hid1 fun x hx => by
            obtain ⟨j, hj, rfl⟩ := List.getElem_of_mem hx
            exact HZ.out j hj (by omega)
          clear HI HZ
          go_wp2
          go_ret
          exact ⟨0, rfl, rfl, .inr ⟨rfl, HM.out, HN.out⟩⟩
  · have z1 : (many : Int) < (l.length : Int) := by omega
    have z2 : ((l.length : Int) != 41) = true := by simp; omega
    clear hm HI
    go_enter Tryz.func7, Tryz.ntmps7
    go_wp2
    go_ret
    exact ⟨1, rfl, rfl, .inl rfl⟩

set_option maxHeartbeats 4000000 in
/-- faulted at an error, its number and its place: true. -/
theorem faulted_calls {w : World} {es : Nat → Addr} (hE : E12 w es) (v : Value) (f : Nat × Int) (h : ErrV w es v f) :
    Calls Tryz.prog 17 #[v, .agg #[.int .i64 f.1, .int .i64 f.2]] w fun e w' => e = .returned (.bool true) ∧ Below w.heap.size w w' := by
  obtain ⟨c, n⟩ := f
  have hB0 : Below w.heap.size w (w.alloc (.cells #[.int .i64 c, .int .i64 n] 41)) := (Below.refl _ w).alloc (Nat.le_refl _) _
  have hc0 : (w.alloc (.cells #[.int .i64 c, .int .i64 n] 41)).cell? ⟨w.heap.size, 0, none⟩ = some (.int .i64 c) := by simp
  have hc1 : (w.alloc (.cells #[.int .i64 c, .int .i64 n] 41)).cell? ⟨w.heap.size, 1, none⟩ = some (.int .i64 n) := by simp
  have HC : Hid (∀ W, Below w.heap.size w W → Calls Tryz.prog 39 #[v] W fun e w' => ∃ n', e = .returned (.tuple #[.int .i64 (c : Int), .int .i64 n']) ∧ (c = 0 ∨ n' = n) ∧ Below W.heap.size W w') := hid1 fun W hW => by
    rcases h with ⟨h1, rfl, h2⟩ | ⟨pb, m, rfl, hm, h0, h1, h2⟩
    · simp only at h1 h2 ⊢
      subst h1
      cases c with
      | zero => exact (Code_nil W).mono fun e w' ⟨p, q⟩ => ⟨_, p, .inl rfl, q ▸ Below.refl _ _⟩
      | succ k =>
        obtain ⟨cc, t, hr⟩ := (hE.below hW).rows k (by omega)
        have := Code_ptr (es k) es cc t W (hE.below hW) hr
        rw [codeOf_es hE k (by omega)] at this
        exact this.mono fun e w' ⟨p, q⟩ => ⟨_, p, .inr rfl, q⟩
    · simp only at h0 h1 h2
      subst h0
      exact (Code_fault pb n m hm es W (hE.below hW) (cell_below' h1 hW) (cell_below' h2 hW)).mono fun e w' ⟨p, q⟩ => ⟨n, p, .inr rfl, q⟩
  clear hE h
  simp only
  generalize hci : (c : Int) = ci at *
  go_enter Tryz.func17, Tryz.ntmps17
  go_wp2_with fail
  refine (HC.out _ hB0).mono ?_
  rintro e w1 ⟨n', rfl, hd, g⟩
  have g1 := below_then hB0 g
  have d0 := cell_below' hc0 g
  have d1 := cell_below' hc1 g
  clear HC hB0 hc0 hc1 g
  by_cases h0 : ci = 0
  · subst h0
    go_wp2
    go_ret
    exact ⟨rfl, g1⟩
  · have e0 : (ci == 0) = false := by simpa using h0
    obtain rfl : n' = n := hd.resolve_left (by intro e; apply h0; rw [← hci, e]; rfl)
    go_wp2
    go_ret
    exact ⟨rfl, g1⟩
end Go.Proofs.YtmeplgihnlpjcaaGreatDoor
