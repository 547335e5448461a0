/- Walks of package path's parts, allParts and Check. -/
import Derived.Test.YtigcogfjclohjaaGreatDoorIter
namespace Go.Proofs.YtigcogfjclohjaaGreatDoor
open Go.RowKit Go.Shelf Go.Lib

attribute [local go_sem] Oper.semAt_some

theorem parts_in (n : Nat) (s : List UInt8) (w : World) :
    CallsIn Fence.wide n Tryz.prog 70 #[.string (ba s)] w fun e w' => e = .returned (.func (.func 97) #[] #[.pointer (some ⟨w.heap.size, 0, none⟩)]) ∧ w' = w.alloc (.cells #[.string (ba s)] 9) := by
  refine callsIn_of_wp Tryz.func70 rfl trivial ?_ rfl
  simp only [Tryz.ntmps70, List.size_toArray, List.length_cons, List.length_nil, Nat.reduceAdd, Nat.reduceSub, Array.replicate_succ, Array.replicate_zero, List.push_toArray, List.append_toArray, List.nil_append, List.cons_append]
  gi_wp2
  go_ret
  exact ⟨rfl, rfl⟩

theorem parts_stops (n : Nat) (hn : 1 ≤ n) (Bn n₀ : Nat) (s : List UInt8) (hs : s.length ≤ 1000000) (w : World) (hBn : Bn < w.heap.size)
    (hc : w.cell? ⟨Bn, 0, none⟩ = some (.string (ba s))) :
    SeqStopsK Fence.wide n Tryz.prog 97 #[.pointer (some ⟨Bn, 0, none⟩)] (fun x : List UInt8 => #[Value.string (ba x)]) (Below n₀) (fun ys => ys = Kf.parts s) (fun pre => pre <+: Kf.parts s) (Kf.parts s).length w := fun l J Jx W hW hJ _ hY h0 =>
  parts1_in n hn l Bn n₀ s hs J Jx W.heap.size hJ hY W ((hW.cell (p := ⟨Bn, 0, none⟩) hBn).trans hc) h0

theorem boxed_below {W W' : World} {B : Nat} {t : TypeId} {v : Value} (h : Boxed W B t v) (hb : Below W.heap.size W W') : Boxed W' B t v := (hb.block B h.lt).trans h

theorem keeps_below {W W' : World} (hb : Below W.heap.size W W') (B : Nat) : KeepsFrom B W W' :=
  ⟨hb.size, fun k _ _ hk _ => (hb.block k (Array.getElem?_eq_some_iff.1 hk).1).trans hk⟩

/-- What a part is asked: a function value that captures nothing. -/
def WellIs (g : Nat) (p : ByteArray → Bool) : Prop :=
  (∀ args w, (callFunc g args).run Tryz.prog w = .ok (.enter g args) w) ∧
  ∀ (s : ByteArray) (W : World), Calls Tryz.prog g #[.string s] W fun e w' => e = .returned (.bool (p s)) ∧ Below W.heap.size W w'

theorem isName_well : WellIs 88 (nameK letter) := ⟨enters_of Tryz.func88 (by kernel_rfl) rfl, isName_calls⟩

/-- No more parts than a path may have, and each is well. -/
def allB (p : ByteArray → Bool) (l : List (List UInt8)) : Bool := decide (l.length ≤ 5) && l.all (fun x => p (ba x))

theorem allB_prefix (p : ByteArray → Bool) {a b : List (List UInt8)} (h : a <+: b) (ha : allB p a = false) : allB p b = false := by
  obtain ⟨c, rfl⟩ := h
  cases hb : allB p (a ++ c) with
  | false => rfl
  | true =>
    exfalso
    simp [allB] at ha hb
    obtain ⟨x, hx, h'⟩ := ha (by omega)
    have := hb.2.1 x hx
    rw [this] at h'
    cases h'

set_option maxRecDepth 100000 in
set_option maxHeartbeats 2000000 in
theorem allParts_in (n : Nat) (hn : 3 ≤ n) (g : Nat) (p : ByteArray → Bool) (hp : WellIs g p) (s : List UInt8) (hs : s.length ≤ 1000000) (w : World) :
    CallsIn Fence.wide n Tryz.prog 67 #[.string (ba s), .func (.func g) #[] #[]] w fun e W' => e = .returned (.bool (allB p (Kf.parts s))) ∧ Below w.heap.size w W' := by
  have h1 : 1 ≤ n := by omega
  have eg := hp.1
  have hfp : Fence.wide.fn 70 := trivial
  refine callsIn_of_wp_marks Tryz.func67 rfl trivial ?_ rfl
  simp only [Tryz.ntmps67, List.size_toArray, List.length_cons, List.length_nil, Nat.reduceAdd, Nat.reduceSub, Array.replicate_succ, Array.replicate_zero, List.push_toArray, List.append_toArray, List.nil_append, List.cons_append]
  gi_wp2_with (gi_at_call 70; refine (parts_in (n - 1) s _).mono ?_; rintro e w' ⟨rfl, rfl⟩)
  have b0 := Boxed.new w 33 (.func (.func g) #[] #[])
  have b1 := Boxed.new (w.alloc (.cells #[.func (.func g) #[] #[]] 33)) 4 (.bool false)
  have b2 := Boxed.new ((w.alloc (.cells #[.func (.func g) #[] #[]] 33)).alloc (.cells #[.bool false] 4)) 3 (.int .i64 0)
  have b3 := Boxed.new (((w.alloc (.cells #[.func (.func g) #[] #[]] 33)).alloc (.cells #[.bool false] 4)).alloc (.cells #[.int .i64 0] 3)) 9 (.string (ba s))
  simp only [World.size_alloc] at b1 b2 b3
  have hB0 : Below w.heap.size w ((((w.alloc (.cells #[.func (.func g) #[] #[]] 33)).alloc (.cells #[.bool false] 4)).alloc (.cells #[.int .i64 0] 3)).alloc (.cells #[.string (ba s)] 9)) :=
    ((((Below.refl _ w).alloc (Nat.le_refl _) _).alloc (by simp) _).alloc (by simp; omega) _).alloc (by simp; omega) _
  refine wpIn_rangeFunc_ownG rfl h1 (gf := 97) (lb := #[.pointer (some ⟨w.heap.size + 1 + 1 + 1, 0, none⟩)]) rfl trivial (enters_of Tryz.func97 (by kernel_rfl) rfl)
    (parts_stops (n - 1) (by omega) (w.heap.size + 1 + 1 + 1) w.heap.size s hs _ (by simp) b3.cell) belowK_t (belowK_b (by simp; omega)) (Below.refl _ _) (fun _ => rfl)
    (fun pre W => (Boxed W w.heap.size 33 (.func (.func g) #[] #[]) ∧ Boxed W (w.heap.size + 1) 4 (.bool false) ∧ Boxed W (w.heap.size + 1 + 1) 3 (.int .i64 (pre.length : Nat)) ∧ allB p pre = true) ∧ Below w.heap.size w W)
    (fun c pre W => (c = .ret ∧ allB p pre = false ∧ Boxed W (w.heap.size + 1) 4 (.bool false)) ∧ Below w.heap.size w W)
    (OwnFrom.and (Own.from (fun s A B row hs hg hr => ⟨boxed_own (β := Unit) _ _ (fun _ => _) () A B row hs.1 hg hr, boxed_own (β := Unit) _ _ (fun _ => _) () A B row hs.2.1 hg hr, boxed_own (β := Unit) _ _ (fun _ => _) () A B row hs.2.2.1 hg hr, hs.2.2.2⟩) _) (ownFrom_below (Nat.le_refl _) (by simp; omega)))
    (fun c => OwnFrom.and (Own.from (fun s A B row hs hg hr => ⟨hs.1, hs.2.1, boxed_own (β := Unit) _ _ (fun _ => _) () A B row hs.2.2 hg hr⟩) _) (ownFrom_below (Nat.le_refl _) (by simp; omega)))
    ⟨⟨((b0.alloc _).alloc _).alloc _, (b1.alloc _).alloc _, b2.alloc _, by simp [allB]⟩, hB0⟩
    (fun x => { tmps := #[.string (ba s), .func (.func g) #[] #[], undef, .pointer (some ⟨w.heap.size, 0, none⟩), .pointer (some ⟨w.heap.size + 1, 0, none⟩), .pointer (some ⟨w.heap.size + 1 + 1, 0, none⟩), .string (ba x), .string (ba s), .func (.func 97) #[] #[.pointer (some ⟨w.heap.size + 1 + 1 + 1, 0, none⟩)], .string (ba x), undef, undef, undef, undef, undef, undef, undef, undef, undef, undef], defers := [] }) ?assign ?body ?done ?stop
  case assign =>
    intro l x W K hK
    gi_wp2
    exact hK
  case body =>
    rintro l pre x W ⟨⟨hb0, hb1, hb2, hall⟩, hB⟩ hlt
    have hc0 := hb0.cell
    have hc1 := hb1.cell
    have hc2 := hb2.cell
    have hf2 := hb2.frozen
    have hf1 := hb1.frozen
    have hle : pre.length ≤ 5 := by simp [allB] at hall; omega
    have hI := hle
    by_cases h5 : pre.length < 5
    · have c5 : (pre.length : Int) + 1 ≤ 5 := by omega
      have c0 : (0 : Int) ≤ (pre.length : Int) := by omega
      have d0 := hb0.other (B' := w.heap.size + 1 + 1) (by omega) (.int .i64 ((pre.length : Int) + 1))
      have d1 := hb1.other (B' := w.heap.size + 1 + 1) (by omega) (.int .i64 ((pre.length : Int) + 1))
      have d2 := hb2.set (.int .i64 ((pre.length : Int) + 1))
      have hB2 : Below w.heap.size W (W.setCell ⟨w.heap.size + 1 + 1, 0, none⟩ (.int .i64 ((pre.length : Int) + 1))) := (Below.refl w.heap.size W).setCell (p := ⟨w.heap.size + 1 + 1, 0, none⟩) (by simp; omega) _
      have hk2 : KeepsFrom ((((w.alloc (.cells #[.func (.func g) #[] #[]] 33)).alloc (.cells #[.bool false] 4)).alloc (.cells #[.int .i64 0] 3)).alloc (.cells #[.string (ba s)] 9)).heap.size W (W.setCell ⟨w.heap.size + 1 + 1, 0, none⟩ (.int .i64 ((pre.length : Int) + 1))) := (KeepsOthers.setCell _ _ _).from _
      gi_wp2_with fail
      refine ⟨trivial, fun h => by simp [Fence.wide] at h, ?_⟩
      refine (CallsIn.inRound l (callsIn_wide.2 (hp.2 (ba x) _))).mono ?_
      rintro e w1 ⟨rfl, hb⟩
      have hB3 : Below w.heap.size W w1 := hB2.trans (hb.mono (Nat.le_trans hB.size hB2.size))
      have hk3 := hk2.trans (keeps_below hb _)
      cases hpx : p (ba x) with
      | true =>
        gi_wp2
        refine ⟨hk3, hB3, ⟨boxed_below d0 hb, boxed_below d1 hb, ?_, ?_⟩, hB.trans hB3⟩
        · have := boxed_below d2 hb
          simpa using this
        · simp [allB] at hall ⊢
          exact ⟨by omega, hall.2, hpx⟩
      | false =>
        have e1 := boxed_below d1 hb
        have hc3 := e1.cell
        have hf3 := e1.frozen
        gi_wp2
        refine ⟨hk3.trans ((KeepsOthers.setCell _ _ _).from _), ⟨rfl, ?_, e1.set _⟩, hB.trans (hB3.setCell (p := ⟨w.heap.size + 1, 0, none⟩) (by simp) _)⟩
        simp [allB, hpx]
    · have c5 : (5 : Int) < (pre.length : Int) + 1 := by omega
      have c6 : (pre.length : Int) ≤ 5 := by omega
      have c0 : (0 : Int) ≤ (pre.length : Int) := by omega
      have d1 := hb1.other (B' := w.heap.size + 1 + 1) (by omega) (.int .i64 ((pre.length : Int) + 1))
      have hB2 : Below w.heap.size W (W.setCell ⟨w.heap.size + 1 + 1, 0, none⟩ (.int .i64 ((pre.length : Int) + 1))) := (Below.refl w.heap.size W).setCell (p := ⟨w.heap.size + 1 + 1, 0, none⟩) (by simp; omega) _
      gi_wp2_with fail
      refine ⟨fun _ h => (by cases h), ?_⟩
      gi_wp2
      refine ⟨((KeepsOthers.setCell _ _ _).from _).trans ((KeepsOthers.setCell _ _ _).from _), ⟨rfl, ?_, d1.set _⟩, hB.trans (hB2.setCell (p := ⟨w.heap.size + 1, 0, none⟩) (by simp) _)⟩
      simp [allB]; intros; omega
  case done =>
    rintro D ys W hD rfl ⟨⟨_, hb1, _, hall⟩, hB⟩ hK
    have hc1 := hb1.cell
    have hf1 := hb1.frozen
    gi_wp2
    have hK' := (KeepsOthers.setCell W ⟨w.heap.size + 1, 0, none⟩ (.bool true)).same D _ hK rfl
    refine ⟨by simp, .inl ⟨_, _, rfl, run_takeDeferred hK', ?_⟩⟩
    have hc5 := cell_kept (World.cell?_setCell_same' W ⟨w.heap.size + 1, 0, none⟩ (.bool true) (by rw [hc1]; rfl)) (grownBy_putObj' _ D (.deferred none)) (fun r e => by cases e; exact ⟨_, hK', rfl⟩)
    refine ⟨.bool true, ?_, by rw [hall], (hB.setCell (p := ⟨w.heap.size + 1, 0, none⟩) (by simp) _).trans (belowK_b (w := w) (Nat.le_refl _) _ D _ _ (by simp at hD; omega) hK' rfl rfl)⟩
    simp [results, Tryz.f67, go_sem, hc5]
  case stop =>
    rintro D c pre W hD hpre ⟨⟨rfl, hin, hb1⟩, hB⟩ hK
    have hcr := hb1.cell
    gi_wp2
    refine ⟨by simp, .inl ⟨_, _, rfl, run_takeDeferred hK, ?_⟩⟩
    have hc5 := cell_kept hcr (grownBy_putObj' _ D (.deferred none)) (fun r e => by cases e; exact ⟨_, hK, rfl⟩)
    refine ⟨.bool false, ?_, ?_, hB.trans (belowK_b (w := w) (Nat.le_refl _) W D _ _ (by simp at hD; omega) hK rfl rfl)⟩
    · simp [results, Tryz.f67, go_sem, hc5]
    · rw [allB_prefix p hpre hin]
end Go.Proofs.YtigcogfjclohjaaGreatDoor
