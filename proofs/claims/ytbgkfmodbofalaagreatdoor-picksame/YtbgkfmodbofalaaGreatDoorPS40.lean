import Derived.Test.YtbgkfmodbofalaaGreatDoorPS39
import Derived.Test.YtbgkfmodbofalaaGreatDoorPS38
import Derived.Deep.RegionHeld3
namespace Go.Proofs.YtbgkfmodbofalaaGreatDoor
open Go.RowKit Go.Shelf Go.Lib Go.Maps
open Tf (Fs)
def mS (tb : Nat) (v : Value) : Nat → Prop := fun j => j = tb ∨ v.ownBlock = some j
def RowON (w : World) (v v' : Value) : Prop := v'.ownBlock = v.ownBlock ∨ ∀ j, v'.ownBlock = some j → w.heap.size ≤ j
theorem ownsRow_kept {w w' : World} {base : Nat} {e : TypeId} {size : Nat} {v : Value} {n : Nat} {xs : List Value} {S : Nat → Prop} (h : w.ownsRow base e size v n xs) (hk : Kept S w w') (hs : ∀ j, v.ownBlock = some j → ¬ S j) : w'.ownsRow base e size v n xs := by
  obtain ⟨h0, h1⟩ := h
  refine ⟨h0, h1.imp id ?_⟩
  rintro ⟨g, cap, cur, rfl, e2, e3, e4⟩
  exact ⟨g, cap, cur, rfl, e2, (hk.block g (Array.getElem?_eq_some_iff.1 e3).1 (hs g rfl)).trans e3, e4⟩
theorem RTreeAt.kept {B : Nat} {w w' : World} {tb : Nat} {fs : Fs} {v : Value} {S : Nat → Prop} (h : RTreeAt B w tb fs v) (hk : Kept S w w') (h1 : ¬ S tb) (h2 : ∀ j, v.ownBlock = some j → ¬ S j) : RTreeAt B w' tb fs v := by
  have hbk := hk.block tb h.lt h1
  exact ⟨h.low, (World.cell?_of_block (a := ⟨tb, 0, none⟩) hbk).trans h.cell, (World.frozen?_of_block (a := ⟨tb, 0, none⟩) hbk).trans h.free, ownsRow_kept h.row hk h2, h.apart, h.nil⟩
set_option maxRecDepth 100000 in
set_option maxHeartbeats 4000000 in
theorem rPutK_there {B : Nat} {w : World} {tb : Nat} {fs : Fs} {v : Value} (h : RTreeAt B w tb fs v) (hlen : ∀ f ∈ fs, f.1.length ≤ 1000000) (hfew : fs.length ≤ 1000) (p b : List UInt8) (hp : p.length ≤ 1000000) (hn : pathB p = true) (hb : b.length ≤ 2000) (hc : Tf.clash fs p = false) (hr : Tf.Rises fs) (ht : Tf.hasP fs p = true) :
    Calls Tryz.prog 23 #[Ptr tb, .string (ba p), .string (ba b)] w fun e w' => e = .returned (.int .i64 0) ∧ (∃ v', RowON w v v' ∧ RTreeAt B w' tb (Tf.put fs p b) v') ∧ Below B w w' ∧ Kept (mS tb v) w w' := by
  have hBw : B ≤ w.heap.size := by have := h.low; have := h.lt; omega
  have HI := isPath_hid p hp true hn w
  have HA : Hid (∀ (a c : List UInt8), a.length ≤ 1000000 → c.length ≤ 1000000 → ∀ W, Calls Tryz.prog 103 #[.string (ba a), .string (ba c)] W fun e w' => e = .returned (.bool (Tf.above a c)) ∧ w' = W) := fun a c ha hc W => rabove_calls a c ha hc W
  have hno : ∀ j (hj : j < fs.length), Tf.above fs[j].1 p = false ∧ Tf.above p fs[j].1 = false := fun j hj => by
    have := List.any_eq_false.1 (show (fs.any fun f => Tf.above f.1 p || Tf.above p f.1) = false from hc) _ (List.getElem_mem hj)
    simpa using this
  have z : (b.length : Int) ≤ 2000 := by omega
  have zn : (fs.length : Int) ≤ 1000 := by omega
  clear hn hb hc
  go_enter Tryz.func23, Tryz.ntmps23
  go_wp2_with fail
  refine HI.out.mono ?_
  rintro e w1 ⟨rfl, g1⟩
  have h1 := h.below g1
  have HF := rFind_calls h1 hfew p
  have hcell := h1.cell
  have hrow := FRow.of_owns h1.row
  obtain ⟨pa, cap, rfl, hcap, hin⟩ := hrow
  clear HI
  go_wp2
  go_loopw [8] (fun i wr => ∃ k : Nat, k ≤ fs.length ∧ i = .int .i64 k ∧ wr = w1) (fun i _ => fs.length - (intOf i).toNat)
  case atStart => exact ⟨0, Nat.zero_le _, rfl, rfl⟩
  case round =>
    obtain ⟨k, hk, rfl, rfl⟩ := hrel
    by_cases hlt : k < fs.length
    · obtain ⟨g, cur, rfl, hg, hcur⟩ := hin (by intro e; rw [e] at hlt; simp at hlt)
      have hx := cell_of_row hg (hcur k hlt).1
      have hxl := hlen _ (List.getElem_mem hlt)
      have c1 : (k : Int) < (fs.length : Int) := by omega
      have c0 : (0 : Int) ≤ (k : Int) := by omega
      have A1 : Hid (∀ W, Calls Tryz.prog 103 #[.string (ba p), .string (ba fs[k].1)] W fun e w' => e = .returned (.bool false) ∧ w' = W) := fun W => by
        have := HA.out p _ hp hxl W
        rw [(hno k hlt).2] at this
        exact this
      have A2 : Hid (∀ W, Calls Tryz.prog 103 #[.string (ba fs[k].1), .string (ba p)] W fun e w' => e = .returned (.bool false) ∧ w' = W) := fun W => by
        have := HA.out _ p hxl hp W
        rw [(hno k hlt).1] at this
        exact this
      clear hin hcur hg HF h1
      generalize fs[k].1 = x at *
      go_wp2_with fail
      refine (A1.out _).mono ?_
      rintro e w' ⟨rfl, rfl⟩
      go_wp2_with fail
      refine (A2.out _).mono ?_
      rintro e w' ⟨rfl, rfl⟩
      go_wp2
      go_roundw
      case rel => exact ⟨k + 1, by omega, by go_num, by first | rfl | trivial⟩
      case measure => simp [intOf]; omega
    · have c1 : (fs.length : Int) ≤ (k : Int) := by omega
      clear HA hno
      go_wp2_with fail
      refine HF.mono ?_
      rintro e w2 ⟨hres, rfl⟩
      rcases hres with ⟨k', hk', rfl, hp'⟩ | ⟨hf, _⟩
      · obtain ⟨g, cur, rfl, hg, hcur⟩ := hin (by intro e; rw [e] at hk'; simp at hk')
        have z0 : (0 : Int) ≤ (k' : Int) := by omega
        have z1 : (k' : Int) < (fs.length : Int) := by omega
        have z2 : ¬ (k' : Int) < 0 := by omega
        have hcA := cell_of_row hg (hcur k' hk').1
        have hcB := cell_of_row hg (hcur k' hk').2
        have hfA : w2.frozen? ⟨g, k' * 2, none⟩ = false := by simp [World.frozen?, hg]
        have hfB : w2.frozen? ⟨g, k' * 2 + 1, none⟩ = false := by simp [World.frozen?, hg]
        clear hin hcur hg
        go_wp2
        go_ret
        have hgt : g ≠ tb := fun e => h1.apart (by rw [e]; rfl)
        have hgB : B ≤ g := row_low h1.row g rfl
        obtain ⟨r1, _⟩ := h1.row.stored (k' * 2) (.string (ba p))
        obtain ⟨r2, _⟩ := r1.stored (k' * 2 + 1) (.string (ba b))
        rw [entCells_set fs k' (p, b) hk'] at r2
        have ep : Tf.put fs p b = fs.set k' (p, b) := by
          have := put_set hr hk' b
          rwa [hp'] at this
        rw [ep]
        refine ⟨rfl, ⟨_, .inl rfl, h1.low, ?_, ?_, by simpa using r2, h1.apart, fun e => by rw [List.set_eq_nil_iff] at e; rw [e] at hk'; simp at hk'⟩, ((g1.mono hBw).setCell (p := ⟨g, k' * 2, none⟩) hgB _).setCell (p := ⟨g, k' * 2 + 1, none⟩) hgB _, ((Kept.of g1).setCell (p := ⟨g, k' * 2, none⟩) (.inr rfl) _).setCell (p := ⟨g, k' * 2 + 1, none⟩) (.inr rfl) _⟩
        · rw [World.cell?_setCell_other _ _ _ _ (fun e => hgt (congrArg Addr.block e)), World.cell?_setCell_other _ _ _ _ (fun e => hgt (congrArg Addr.block e))]
          exact hcell
        · rw [World.frozen?_setCell, World.frozen?_setCell]
          exact h1.free
      · rw [ht] at hf
        cases hf
set_option maxRecDepth 100000 in
set_option maxHeartbeats 4000000 in
theorem rPutK_new {B : Nat} {w : World} {tb : Nat} {fs : Fs} {v : Value} (h : RTreeAt B w tb fs v) (hlen : ∀ f ∈ fs, f.1.length ≤ 1000000) (hfew : fs.length ≤ 1000) (p b : List UInt8) (hp : p.length ≤ 1000000) (hn : pathB p = true) (hb : b.length ≤ 2000) (hc : Tf.clash fs p = false) (hr : Tf.Rises fs) (ht : Tf.hasP fs p = false) (h60 : fs.length < 60) (hne : fs ≠ []) :
    Calls Tryz.prog 23 #[Ptr tb, .string (ba p), .string (ba b)] w fun e w' => e = .returned (.int .i64 0) ∧ (∃ v', RowON w v v' ∧ RTreeAt B w' tb (Tf.put fs p b) v') ∧ Below B w w' ∧ Kept (mS tb v) w w' := by
  have hBw : B ≤ w.heap.size := by have := h.low; have := h.lt; omega
  obtain ⟨i0, hi, hz0, hz1, hz2⟩ := info_parts Tryz.infoRFile
  have HI := isPath_hid p hp true hn w
  have HA : Hid (∀ (a c : List UInt8), a.length ≤ 1000000 → c.length ≤ 1000000 → ∀ W, Calls Tryz.prog 103 #[.string (ba a), .string (ba c)] W fun e w' => e = .returned (.bool (Tf.above a c)) ∧ w' = W) := fun a c ha hc W => rabove_calls a c ha hc W
  have hno : ∀ j (hj : j < fs.length), Tf.above fs[j].1 p = false ∧ Tf.above p fs[j].1 = false := fun j hj => by
    have := List.any_eq_false.1 (show (fs.any fun f => Tf.above f.1 p || Tf.above p f.1) = false from hc) _ (List.getElem_mem hj)
    simpa using this
  have z : (b.length : Int) ≤ 2000 := by omega
  have zn : (fs.length : Int) ≤ 1000 := by omega
  clear hn hb hc
  go_enter Tryz.func23, Tryz.ntmps23
  go_wp2_with fail
  refine HI.out.mono ?_
  rintro e w1 ⟨rfl, g1⟩
  have h1 := h.below g1
  have HF := rFind_calls h1 hfew p
  have hcell := h1.cell
  have hrow := FRow.of_owns h1.row
  obtain ⟨pa, cap, rfl, hcap, hin⟩ := hrow
  clear HI
  go_wp2
  go_loopw [8] (fun i wr => ∃ k : Nat, k ≤ fs.length ∧ i = .int .i64 k ∧ wr = w1) (fun i _ => fs.length - (intOf i).toNat)
  case atStart => exact ⟨0, Nat.zero_le _, rfl, rfl⟩
  case round =>
    obtain ⟨k, hk, rfl, rfl⟩ := hrel
    by_cases hlt : k < fs.length
    · obtain ⟨g, cur, rfl, hg, hcur⟩ := hin (by intro e; rw [e] at hlt; simp at hlt)
      have hx := cell_of_row hg (hcur k hlt).1
      have hxl := hlen _ (List.getElem_mem hlt)
      have c1 : (k : Int) < (fs.length : Int) := by omega
      have c0 : (0 : Int) ≤ (k : Int) := by omega
      have A1 : Hid (∀ W, Calls Tryz.prog 103 #[.string (ba p), .string (ba fs[k].1)] W fun e w' => e = .returned (.bool false) ∧ w' = W) := fun W => by
        have := HA.out p _ hp hxl W
        rw [(hno k hlt).2] at this
        exact this
      have A2 : Hid (∀ W, Calls Tryz.prog 103 #[.string (ba fs[k].1), .string (ba p)] W fun e w' => e = .returned (.bool false) ∧ w' = W) := fun W => by
        have := HA.out _ p hxl hp W
        rw [(hno k hlt).1] at this
        exact this
      clear hin hcur hg HF h1
      generalize fs[k].1 = x at *
      go_wp2_with fail
      refine (A1.out _).mono ?_
      rintro e w' ⟨rfl, rfl⟩
      go_wp2_with fail
      refine (A2.out _).mono ?_
      rintro e w' ⟨rfl, rfl⟩
      go_wp2
      go_roundw
      case rel => exact ⟨k + 1, by omega, by go_num, by first | rfl | trivial⟩
      case measure => simp [intOf]; omega
    · have c1 : (fs.length : Int) ≤ (k : Int) := by omega
      clear HA hno
      go_wp2_with fail
      refine HF.mono ?_
      rintro e w2 ⟨hres, rfl⟩
      have z60 : (fs.length : Int) < 60 := by omega
      rcases hres with ⟨k', hk', _, hp'⟩ | ⟨_, rfl⟩
      · exfalso
        have : Tf.hasP fs p = true := List.any_eq_true.2 ⟨fs[k'], List.getElem_mem hk', by simp [hp']⟩
        rw [this] at ht
        cases ht
      · obtain ⟨g, cur, rfl, hg, hcur⟩ := hin hne
        clear hin
        go_wp2
        go_loopw [9] (fun i wr => ∃ k : Nat, k ≤ fs.length ∧ i = .int .i64 k ∧ (∀ j (hj : j < fs.length), j < k → bytesBefore fs[j].1 p = true) ∧ wr = w2) (fun i _ => fs.length - (intOf i).toNat)
        case atStart => exact ⟨0, Nat.zero_le _, rfl, fun j _ h => absurd h (Nat.not_lt_zero _), rfl⟩
        case round =>
          obtain ⟨k', hk', rfl, hbef, hwr⟩ := hrel
          subst hwr
          have y0 : (0 : Int) ≤ (k' : Int) := by omega
          have y3 : (k' : Int) ≤ (fs.length : Int) := by omega
          have y4 : (fs.length : Int) ≤ (cap : Int) := by omega
          by_cases hlt' : k' < fs.length
          · have hx := cell_of_row hg (hcur k' hlt').1
            have y1 : (k' : Int) < (fs.length : Int) := by omega
            obtain ⟨x, hxe⟩ : ∃ x, fs[k'].1 = x := ⟨_, rfl⟩
            rw [hxe] at hx
            cases hbx : bytesBefore x p with
            | true =>
              have hl : Op.bytesLess x p = true := by rw [Tf.less_before]; exact hbx
              go_wp2
              go_roundw
              case rel => exact ⟨k' + 1, by omega, by go_num, fun j hj hjk => by
                rcases Nat.lt_or_ge j k' with h2 | h2
                · exact hbef j hj h2
                · obtain rfl : j = k' := by omega
                  rw [hxe]; exact hbx, by first | rfl | trivial⟩
              case measure => simp [intOf]; omega
            | false =>
              have hl : Op.bytesLess x p = false := by rw [Tf.less_before]; exact hbx
              have ep : Hid (Tf.put fs p b = fs.take k' ++ (p, b) :: fs.drop k') := put_new (b := b) hr ht hk' hbef (fun _ => by rw [hxe]; exact hbx)
              clear hbef
              have M0 := Made.start B wr tb
              have hBwr : B ≤ wr.heap.size := by have := h1.low; have := h1.lt; omega
              have src := h1.row.cells (g := g) rfl
              have src1 : ∀ j u, (entCells (fs.take k'))[j]? = some u → wr.cell? ((⟨g, 0, none⟩ : Addr).add j) = some u := fun j u hj => src j u (by rw [entCells_take, List.getElem?_take] at hj; split at hj; exact hj; cases hj)
              have src2 : ∀ j u, (entCells (fs.drop k'))[j]? = some u → wr.cell? ((⟨g, k' * 2, none⟩ : Addr).add j) = some u := fun j u hj => by
                rw [entCells_drop, List.getElem?_drop] at hj
                have := src _ u hj
                rw [add_plain] at this ⊢
                simpa using this
              have hfree := h1.free
              have zc : k' < cap ∨ k' = cap := by omega
              have ln1 : (fs.take k').length = k' := by rw [List.length_take]; omega
              have ln2 : (fs.drop k').length = fs.length - k' := List.length_drop
              have yd : ((fs.length - k' : Nat) : Int) = (fs.length : Int) - (k' : Int) := by omega
              clear hcur hg
              have htb := h1.lt
              have lnM : (fs.take k' ++ [(p, b)]).length = k' + 1 := by rw [List.length_append, ln1]; rfl
              have zc1 : (k' : Int) < (cap : Int) := by omega
              go_wp2_with (first
                | (at_builtin; have M2' := M2; refine wpList_append_own_at _ rfl _ _ 36 rfl B 51 i0 (.agg #[.string ⟨#[]⟩, .string ⟨#[]⟩]) 2 32 Tryz.underlying36 hi hz0 hz1 hz2 rfl (by decide) _ _ _ rfl M2'.row _ (fs.length - k') _ (entCells (fs.drop k')) rfl (by rw [entCells_len, ln2]) (fun j u hj => M2.cell (src2 j u hj)) (entCells_one _) (by unfold maxLen; rw [lnM]; omega) (by rw [lnM]; omega) (by have := M2.below.size; omega) ?_; intro v3 w5 o3 gr3 n3 loc3; (have M3 : Made B wr w5 tb v3 (fs.take k' ++ (p, b) :: fs.drop k') := by have := M2.more (m := fs.drop k') (by rw [ln2]; exact o3) gr3 rfl loc3; rwa [List.append_assoc] at this); (have hcell5 := M3.cell hcell); (have hfree5 := (M3.below.frozen (p := ⟨tb, 0, none⟩) htb).trans hfree); (obtain ⟨g3, c3, rfl⟩ := M3.shape (by simp) (fs.length + 1) (by rw [List.length_append, List.length_cons, ln1, ln2]; omega)))
                | (at_builtin; refine wpList_append_own_at _ rfl _ _ 36 rfl B 51 i0 (.agg #[.string ⟨#[]⟩, .string ⟨#[]⟩]) 2 32 Tryz.underlying36 hi hz0 hz1 hz2 rfl (by decide) _ _ _ rfl (M1.alloc _).row ⟨w3.heap.size, 0, none⟩ 1 1 [.string (ba p), .string (ba b)] rfl rfl (two_new _ _ _ _) (by simp [Value.oneCell']) (by unfold maxLen; rw [ln1]; omega) (by rw [ln1]; omega) (by have := M1.below.size; simp; omega) ?_; intro v2 w4 o2 gr2 n2 loc2; have M2 : Made B wr w4 tb v2 (fs.take k' ++ [(p, b)]) := (M1.alloc _).more (m := [(p, b)]) o2 gr2 rfl loc2; have hcell4 := M2.cell hcell)
                | (at_builtin; refine wpList_append_own_at _ rfl _ _ 36 rfl B 51 i0 (.agg #[.string ⟨#[]⟩, .string ⟨#[]⟩]) 2 32 Tryz.underlying36 hi hz0 hz1 hz2 rfl (by decide) (.slice none 0 0) 0 [] rfl (World.ownsRow_nil _ _ _ _) ⟨g, 0, none⟩ k' _ (entCells (fs.take k')) rfl (by rw [entCells_len, ln1]) src1 (entCells_one _) (by unfold maxLen; omega) (by omega) hBwr ?_; intro v1 w3 o1 gr1 n1 loc1; have M1 : Made B wr w3 tb v1 (fs.take k') := M0.more (l := []) (m := fs.take k') (by rw [ln1]; exact o1) gr1 rfl loc1; have hcell3 := M1.cell hcell)
                | go_in)
              all_goals
                go_wp2
                go_ret
                have hne3 : _ ≠ some tb := fun e => by have := M3.new tb e; omega
                rw [ep.out]
                refine ⟨rfl, ⟨_, .inr (fun j e => Nat.le_trans g1.size (M3.new j e)), h1.low, World.cell?_setCell_same' _ _ _ (by rw [hcell5]; rfl), by rw [World.frozen?_setCell]; exact hfree5, ?_, hne3, fun e => by simp at e⟩, ((g1.mono hBw).trans (M3.below.mono hBwr)).setCell (p := ⟨tb, 0, none⟩) h1.low _, ((Kept.of g1).trans (.of M3.below)).setCell (p := ⟨tb, 0, none⟩) (.inl rfl) _⟩
                exact ownsRow_setCell_other M3.row (a := ⟨tb, 0, none⟩) hne3 _
          · have y1 : (fs.length : Int) ≤ (k' : Int) := by omega
            have ep : Hid (Tf.put fs p b = fs.take k' ++ (p, b) :: fs.drop k') := put_new (b := b) hr ht hk' hbef (fun h => absurd h hlt')
            clear hbef
            have M0 := Made.start B wr tb
            have hBwr : B ≤ wr.heap.size := by have := h1.low; have := h1.lt; omega
            have src := h1.row.cells (g := g) rfl
            have src1 : ∀ j u, (entCells (fs.take k'))[j]? = some u → wr.cell? ((⟨g, 0, none⟩ : Addr).add j) = some u := fun j u hj => src j u (by rw [entCells_take, List.getElem?_take] at hj; split at hj; exact hj; cases hj)
            have src2 : ∀ j u, (entCells (fs.drop k'))[j]? = some u → wr.cell? ((⟨g, k' * 2, none⟩ : Addr).add j) = some u := fun j u hj => by
              rw [entCells_drop, List.getElem?_drop] at hj
              have := src _ u hj
              rw [add_plain] at this ⊢
              simpa using this
            have hfree := h1.free
            have zc : k' < cap ∨ k' = cap := by omega
            have ln1 : (fs.take k').length = k' := by rw [List.length_take]; omega
            have ln2 : (fs.drop k').length = fs.length - k' := List.length_drop
            have yd : ((fs.length - k' : Nat) : Int) = (fs.length : Int) - (k' : Int) := by omega
            clear hcur hg
            have htb := h1.lt
            have lnM : (fs.take k' ++ [(p, b)]).length = k' + 1 := by rw [List.length_append, ln1]; rfl
            have hd0 : fs.drop k' = [] := List.drop_eq_nil_of_le (by omega)
            rcases zc with zc | zc
            · have zc1 : (k' : Int) < (cap : Int) := by omega
              go_wp2_with (first
                | (at_builtin; have M2' := M2; refine wpList_append_own_at _ rfl _ _ 36 rfl B 51 i0 (.agg #[.string ⟨#[]⟩, .string ⟨#[]⟩]) 2 32 Tryz.underlying36 hi hz0 hz1 hz2 rfl (by decide) _ _ _ rfl M2'.row _ (fs.length - k') _ (entCells (fs.drop k')) rfl (by rw [entCells_len, ln2]) (fun j u hj => M2.cell (src2 j u hj)) (entCells_one _) (by unfold maxLen; rw [lnM]; omega) (by rw [lnM]; omega) (by have := M2.below.size; omega) ?_; intro v3 w5 o3 gr3 n3 loc3; (have M3 : Made B wr w5 tb v3 (fs.take k' ++ (p, b) :: fs.drop k') := by have := M2.more (m := fs.drop k') (by rw [ln2]; exact o3) gr3 rfl loc3; rwa [List.append_assoc] at this); (have hcell5 := M3.cell hcell); (have hfree5 := (M3.below.frozen (p := ⟨tb, 0, none⟩) htb).trans hfree); (obtain ⟨g3, c3, rfl⟩ := M3.shape (by simp) (fs.length + 1) (by rw [List.length_append, List.length_cons, ln1, ln2]; omega)))
                | (at_builtin; refine wpList_append_own_at _ rfl _ _ 36 rfl B 51 i0 (.agg #[.string ⟨#[]⟩, .string ⟨#[]⟩]) 2 32 Tryz.underlying36 hi hz0 hz1 hz2 rfl (by decide) _ _ _ rfl (M1.alloc _).row ⟨w3.heap.size, 0, none⟩ 1 1 [.string (ba p), .string (ba b)] rfl rfl (two_new _ _ _ _) (by simp [Value.oneCell']) (by unfold maxLen; rw [ln1]; omega) (by rw [ln1]; omega) (by have := M1.below.size; simp; omega) ?_; intro v2 w4 o2 gr2 n2 loc2; have M2 : Made B wr w4 tb v2 (fs.take k' ++ [(p, b)]) := (M1.alloc _).more (m := [(p, b)]) o2 gr2 rfl loc2; have hcell4 := M2.cell hcell)
                | (at_builtin; refine wpList_append_own_at _ rfl _ _ 36 rfl B 51 i0 (.agg #[.string ⟨#[]⟩, .string ⟨#[]⟩]) 2 32 Tryz.underlying36 hi hz0 hz1 hz2 rfl (by decide) (.slice none 0 0) 0 [] rfl (World.ownsRow_nil _ _ _ _) ⟨g, 0, none⟩ k' _ (entCells (fs.take k')) rfl (by rw [entCells_len, ln1]) src1 (entCells_one _) (by unfold maxLen; omega) (by omega) hBwr ?_; intro v1 w3 o1 gr1 n1 loc1; have M1 : Made B wr w3 tb v1 (fs.take k') := M0.more (l := []) (m := fs.take k') (by rw [ln1]; exact o1) gr1 rfl loc1; have hcell3 := M1.cell hcell)
                | go_in)
              all_goals
                go_wp2
                go_ret
                have hne3 : _ ≠ some tb := fun e => by have := M3.new tb e; omega
                rw [ep.out]
                refine ⟨rfl, ⟨_, .inr (fun j e => Nat.le_trans g1.size (M3.new j e)), h1.low, World.cell?_setCell_same' _ _ _ (by rw [hcell5]; rfl), by rw [World.frozen?_setCell]; exact hfree5, ?_, hne3, fun e => by simp at e⟩, ((g1.mono hBw).trans (M3.below.mono hBwr)).setCell (p := ⟨tb, 0, none⟩) h1.low _, ((Kept.of g1).trans (.of M3.below)).setCell (p := ⟨tb, 0, none⟩) (.inl rfl) _⟩
                exact ownsRow_setCell_other M3.row (a := ⟨tb, 0, none⟩) hne3 _
            · have zc1 : (cap : Int) = (k' : Int) := by omega
              subst zc
              go_wp2_with (first
                | (at_builtin; have M2' := M2; refine wpList_append_own_at _ rfl _ _ 36 rfl B 51 i0 (.agg #[.string ⟨#[]⟩, .string ⟨#[]⟩]) 2 32 Tryz.underlying36 hi hz0 hz1 hz2 rfl (by decide) _ _ _ rfl M2'.row _ _ _ (entCells (fs.drop k')) rfl (by rw [hd0]; first | rfl | (show 0 = _; omega)) (fun j u hj => by rw [hd0] at hj; simp [entCells] at hj) (entCells_one _) (by unfold maxLen; rw [lnM]; omega) (by rw [lnM]; omega) (by have := M2.below.size; omega) ?_; intro v3 w5 o3 gr3 n3 loc3; (have M3 : Made B wr w5 tb v3 (fs.take k' ++ (p, b) :: fs.drop k') := by have := M2.more (m := fs.drop k') (by rw [hd0] at o3 ⊢; simpa [entCells] using o3) gr3 rfl loc3; rwa [List.append_assoc] at this); (have hcell5 := M3.cell hcell); (have hfree5 := (M3.below.frozen (p := ⟨tb, 0, none⟩) htb).trans hfree); (obtain ⟨g3, c3, rfl⟩ := M3.shape (by simp) (fs.length + 1) (by rw [List.length_append, List.length_cons, ln1, ln2]; omega)))
                | (at_builtin; refine wpList_append_own_at _ rfl _ _ 36 rfl B 51 i0 (.agg #[.string ⟨#[]⟩, .string ⟨#[]⟩]) 2 32 Tryz.underlying36 hi hz0 hz1 hz2 rfl (by decide) _ _ _ rfl (M1.alloc _).row ⟨w3.heap.size, 0, none⟩ 1 1 [.string (ba p), .string (ba b)] rfl rfl (two_new _ _ _ _) (by simp [Value.oneCell']) (by unfold maxLen; rw [ln1]; omega) (by rw [ln1]; omega) (by have := M1.below.size; simp; omega) ?_; intro v2 w4 o2 gr2 n2 loc2; have M2 : Made B wr w4 tb v2 (fs.take k' ++ [(p, b)]) := (M1.alloc _).more (m := [(p, b)]) o2 gr2 rfl loc2; have hcell4 := M2.cell hcell)
                | (at_builtin; refine wpList_append_own_at _ rfl _ _ 36 rfl B 51 i0 (.agg #[.string ⟨#[]⟩, .string ⟨#[]⟩]) 2 32 Tryz.underlying36 hi hz0 hz1 hz2 rfl (by decide) (.slice none 0 0) 0 [] rfl (World.ownsRow_nil _ _ _ _) ⟨g, 0, none⟩ k' _ (entCells (fs.take k')) rfl (by rw [entCells_len, ln1]) src1 (entCells_one _) (by unfold maxLen; omega) (by omega) hBwr ?_; intro v1 w3 o1 gr1 n1 loc1; have M1 : Made B wr w3 tb v1 (fs.take k') := M0.more (l := []) (m := fs.take k') (by rw [ln1]; exact o1) gr1 rfl loc1; have hcell3 := M1.cell hcell)
                | go_in)
              all_goals
                go_wp2
                go_ret
                have hne3 : _ ≠ some tb := fun e => by have := M3.new tb e; omega
                rw [ep.out]
                refine ⟨rfl, ⟨_, .inr (fun j e => Nat.le_trans g1.size (M3.new j e)), h1.low, World.cell?_setCell_same' _ _ _ (by rw [hcell5]; rfl), by rw [World.frozen?_setCell]; exact hfree5, ?_, hne3, fun e => by simp at e⟩, ((g1.mono hBw).trans (M3.below.mono hBwr)).setCell (p := ⟨tb, 0, none⟩) h1.low _, ((Kept.of g1).trans (.of M3.below)).setCell (p := ⟨tb, 0, none⟩) (.inl rfl) _⟩
                exact ownsRow_setCell_other M3.row (a := ⟨tb, 0, none⟩) hne3 _
set_option maxRecDepth 100000 in
set_option maxHeartbeats 4000000 in
theorem rPutK_first {B : Nat} {w : World} {tb : Nat} {v : Value} (h : RTreeAt B w tb [] v) (p b : List UInt8) (hp : p.length ≤ 1000000) (hn : pathB p = true) (hb : b.length ≤ 2000) :
    Calls Tryz.prog 23 #[Ptr tb, .string (ba p), .string (ba b)] w fun e w' => e = .returned (.int .i64 0) ∧ (∃ v', RowON w v v' ∧ RTreeAt B w' tb [(p, b)] v') ∧ Below B w w' ∧ Kept (mS tb v) w w' := by
  have hBw : B ≤ w.heap.size := by have := h.low; have := h.lt; omega
  obtain ⟨i0, hi, hz0, hz1, hz2⟩ := info_parts Tryz.infoRFile
  have HI := isPath_hid p hp true hn w
  obtain rfl := h.nil rfl
  have z : (b.length : Int) ≤ 2000 := by omega
  clear hn hb
  go_enter Tryz.func23, Tryz.ntmps23
  go_wp2_with fail
  refine HI.out.mono ?_
  rintro e w1 ⟨rfl, g1⟩
  have h1 := h.below g1
  have HF := rFind_calls h1 (by simp) p
  have hcell := h1.cell
  have hfree := h1.free
  have htb := h1.lt
  have hBw1 : B ≤ w1.heap.size := Nat.le_trans hBw g1.size
  have M0 := Made.start B w1 tb
  clear HI
  go_wp2
  refine wp_loop_rounds 1 ?_
  rw [rounds_succ]
  go_wp2_with fail
  refine HF.mono ?_
  rintro e w2 ⟨hres, rfl⟩
  rcases hres with ⟨k', hk', _, _⟩ | ⟨_, rfl⟩
  · simp at hk'
  · go_wp2
    refine wp_loop_rounds 1 ?_
    rw [rounds_succ]
    go_wp2_with (first
      | (at_builtin; refine wpList_append_own_at _ rfl _ _ 36 rfl B 51 i0 (.agg #[.string ⟨#[]⟩, .string ⟨#[]⟩]) 2 32 Tryz.underlying36 hi hz0 hz1 hz2 rfl (by decide) _ _ _ rfl (M0.alloc _).row ⟨w2.heap.size, 0, none⟩ 1 1 [.string (ba p), .string (ba b)] rfl rfl (two_new _ _ _ _) (by simp [Value.oneCell']) (by unfold maxLen; simp) (by simp) (by simp; omega) ?_; intro v2 w4 o2 gr2 n2 loc2; have M2 : Made B w2 w4 tb v2 [(p, b)] := (M0.alloc _).more (l := []) (m := [(p, b)]) o2 gr2 rfl loc2; have hcell4 := M2.cell hcell; have hfree4 := (M2.below.frozen (p := ⟨tb, 0, none⟩) htb).trans hfree; (obtain ⟨g3, c3, rfl, hc3⟩ := M2.shape2 (by simp) 1 rfl); (have hc3' : (1 : Int) ≤ (c3 : Int) := by omega); (have hc3n : ¬ c3 < 1 := by omega))
      | go_in)
    go_wp2
    go_ret
    have hne3 : _ ≠ some tb := fun e => by have := M2.new tb e; omega
    refine ⟨rfl, ⟨_, .inr (fun j e => Nat.le_trans g1.size (M2.new j e)), h1.low, World.cell?_setCell_same' _ _ _ (by rw [hcell4]; rfl), by rw [World.frozen?_setCell]; exact hfree4, ?_, hne3, fun e => by simp at e⟩, ((g1.mono hBw).trans (M2.below.mono hBw1)).setCell (p := ⟨tb, 0, none⟩) h1.low _, ((Kept.of g1).trans (.of M2.below)).setCell (p := ⟨tb, 0, none⟩) (.inl rfl) _⟩
    exact ownsRow_setCell_other M2.row (a := ⟨tb, 0, none⟩) hne3 _
theorem rPutK_calls {B : Nat} {w : World} {tb : Nat} {fs : Fs} {v : Value} (h : RTreeAt B w tb fs v) (hw : Tf.Well pathB fs) (p b : List UInt8) (hp : p.length ≤ 1000000) :
    Calls Tryz.prog 23 #[Ptr tb, .string (ba p), .string (ba b)] w fun e w' => e = .returned (.int .i64 (Tf.putCode pathB fs p b)) ∧ (∃ v', RowON w v v' ∧ RTreeAt B w' tb (Tf.putF pathB fs p b) v') ∧ Below B w w' ∧ Kept (mS tb v) w w' := by
  have hBw : B ≤ w.heap.size := by have := h.low; have := h.lt; omega
  have hlen : ∀ f ∈ fs, f.1.length ≤ 1000000 := fun f hf => by have := well_len hw f hf; omega
  have hfew : fs.length ≤ 1000 := by have := hw.few; omega
  have keep : ∀ {c : Nat}, Tf.putCode pathB fs p b = c → c ≠ 0 → (Calls Tryz.prog 23 #[Ptr tb, .string (ba p), .string (ba b)] w fun e w' => e = .returned (.int .i64 (c : Int)) ∧ Below w.heap.size w w') →
      Calls Tryz.prog 23 #[Ptr tb, .string (ba p), .string (ba b)] w fun e w' => e = .returned (.int .i64 (Tf.putCode pathB fs p b)) ∧ (∃ v', RowON w v v' ∧ RTreeAt B w' tb (Tf.putF pathB fs p b) v') ∧ Below B w w' ∧ Kept (mS tb v) w w' := fun {c} e hc H => by
    rw [e, show Tf.putF pathB fs p b = fs by unfold Tf.putF; rw [e, if_neg hc]]
    exact H.mono fun _ _ ⟨h1, h2⟩ => ⟨h1, ⟨_, .inl rfl, h.below h2⟩, h2.mono hBw, .of h2⟩
  cases hn : pathB p with
  | false => exact keep (c := 4) (by simp [Tf.putCode, hn]) (by omega) (rPut_name w tb p b hp hn)
  | true =>
    rcases Nat.lt_or_ge 2000 b.length with hb | hb
    · exact keep (c := 2) (by simp [Tf.putCode, hn, hb]) (by omega) (rPut_bound w tb p b hp hn hb)
    · cases ht : Tf.hasP fs p with
      | true =>
        have e : Tf.putCode pathB fs p b = 0 := by unfold Tf.putCode; rw [if_neg (by simp [hn]), if_neg (by omega), if_pos ht]
        rw [e, show Tf.putF pathB fs p b = Tf.put fs p b by unfold Tf.putF; rw [if_pos e]]
        exact rPutK_there h hlen hfew p b hp hn hb (well_clash hw ht) hw.rises ht
      | false =>
        have e := putCode_new fs p b hn hb ht
        cases hc : Tf.clash fs p with
        | true => exact keep (c := 7) (by rw [e]; simp [newCode, hc]) (by omega) (rPut_clash h hlen hfew p b hp hn hb hc)
        | false =>
          rcases Nat.lt_or_ge fs.length 60 with h60 | h60
          · have e0 : Tf.putCode pathB fs p b = 0 := by rw [e]; simp [newCode, hc]; omega
            rw [e0, show Tf.putF pathB fs p b = Tf.put fs p b by unfold Tf.putF; rw [if_pos e0]]
            by_cases hne : fs = []
            · subst hne
              exact rPutK_first h p b hp hn hb
            · exact rPutK_new h hlen hfew p b hp hn hb hc hw.rises ht h60 hne
          · exact keep (c := 8) (by rw [e]; simp [newCode, hc, h60]) (by omega) (rPut_full h hlen hfew p b hp hn hb hc ht h60)
end Go.Proofs.YtbgkfmodbofalaaGreatDoor
namespace Go.Proofs.YtbgkfmodbofalaaGreatDoor
open Go.RowKit Go.Shelf Go.Lib Go.Maps
open Tf (Fs)
structure Both (B : Nat) (w : World) (T M : Nat) (fs : Fs) (o : Option Nat) (v : Value) : Prop where
  t : TreeAt B w T fs o
  m : RTreeAt B w M fs v
  well : Tf.Well pathB fs
  tm : T ≠ M
  om : o ≠ some M
  vt : v.ownBlock ≠ some T
  ov : ∀ j, o = some j → v.ownBlock ≠ some j
theorem TreeAt.map_lt {B : Nat} {w : World} {tb : Nat} {fs : Fs} {o : Option Nat} (h : TreeAt B w tb fs o) {j : Nat} (e : o = some j) : j < w.heap.size := by
  subst e
  exact h.isMap.2.2.lt
theorem RTreeAt.row_lt {B : Nat} {w : World} {tb : Nat} {fs : Fs} {v : Value} (h : RTreeAt B w tb fs v) {j : Nat} (e : v.ownBlock = some j) : j < w.heap.size := by
  rcases h.row.2 with ⟨rfl, _⟩ | ⟨g, cap, cur, rfl, _, hg, _⟩
  · cases e
  · cases e
    exact (Array.getElem?_eq_some_iff.1 hg).1
theorem Both.below {B : Nat} {w w' : World} {T M : Nat} {fs : Fs} {o : Option Nat} {v : Value} (h : Both B w T M fs o v) (hb : Below w.heap.size w w') : Both B w' T M fs o v :=
  ⟨h.t.below hb, h.m.below hb, h.well, h.tm, h.om, h.vt, h.ov⟩
structure Half (B : Nat) (w w1 : World) (T M : Nat) (fs fs' : Fs) (o o' : Option Nat) (v : Value) : Prop where
  t : TreeAt B w1 T fs' o'
  m : RTreeAt B w1 M fs v
  on : OldNew w o o'
  size : w.heap.size ≤ w1.heap.size
theorem Both.half {B : Nat} {w w1 : World} {T M : Nat} {fs fs' : Fs} {o o' : Option Nat} {v : Value} (h : Both B w T M fs o v) (ht : TreeAt B w1 T fs' o') (hon : OldNew w o o') (hk : Kept (tS T o) w w1) : Half B w w1 T M fs fs' o o' v :=
  ⟨ht, h.m.kept hk (fun e => e.elim (fun e => h.tm e.symm) h.om) (fun j e hs => hs.elim (fun e2 => h.vt (e2 ▸ e)) (fun e2 => h.ov j e2 e)), hon, hk.size⟩
theorem Half.both {B : Nat} {w w1 w2 : World} {T M : Nat} {fs fs' : Fs} {o o' : Option Nat} {v v' : Value} (hh : Half B w w1 T M fs fs' o o' v) (h : Both B w T M fs o v) (hm : RTreeAt B w2 M fs' v') (hon : RowON w1 v v') (hk : Kept (mS M v) w1 w2) (hw : Tf.Well pathB fs') : Both B w2 T M fs' o' v' := by
  have hM := h.m.lt
  have hT := h.t.lt
  have hs := hh.size
  have om' : o' ≠ some M := by
    rcases hh.on with rfl | ⟨j, rfl, hj⟩
    · exact h.om
    · intro e
      have := Option.some.inj e
      omega
  have ov1 : ∀ j, o' = some j → v.ownBlock ≠ some j := by
    intro j e e2
    rcases hh.on with rfl | ⟨i, rfl, hi⟩
    · exact h.ov j e e2
    · have := Option.some.inj e
      have := h.m.row_lt e2
      omega
  refine ⟨hh.t.kept hk (fun e => e.elim h.tm (fun e => h.vt e)) (fun j e hs => hs.elim (fun e2 => om' (e2 ▸ e)) (fun e2 => ov1 j e e2)), hm, hw, h.tm, om', ?_, ?_⟩
  · rcases hon with e | hn
    · rw [e]; exact h.vt
    · intro e
      have := hn T e
      omega
  · intro j e
    rcases hon with e2 | hn
    · rw [e2]; exact ov1 j e
    · intro e2
      have := hn j e2
      have := hh.t.map_lt e
      omega
end Go.Proofs.YtbgkfmodbofalaaGreatDoor
namespace Go.Proofs.YtbgkfmodbofalaaGreatDoor
open Go.RowKit Go.Shelf Go.Lib
open Tf (Fs)
def FIRow (w : World) (v : Value) (l : Fs) : Prop :=
  ∃ p cap, v = .slice p l.length cap ∧ (l ≠ [] → ∃ g o, p = some ⟨g, o, none⟩ ∧ g < w.heap.size ∧ ∀ j (hj : j < l.length), w.cell? ⟨g, o + j * 2, none⟩ = some (.string (ba l[j].1)) ∧ w.cell? ⟨g, o + j * 2 + 1, none⟩ = some (.string (ba l[j].2)))
theorem FIRow.below {w w' : World} {v : Value} {l : Fs} (h : FIRow w v l) (hb : Below w.heap.size w w') : FIRow w' v l := by
  obtain ⟨p, cap, e, h1⟩ := h
  refine ⟨p, cap, e, fun hl => ?_⟩
  obtain ⟨g, o, e, hg, hc⟩ := h1 hl
  exact ⟨g, o, e, Nat.lt_of_lt_of_le hg hb.size, fun j hj => ⟨cell_below' (hc j hj).1 hb, cell_below' (hc j hj).2 hb⟩⟩
structure ShortF (l : Fs) : Prop where
  few : l.length ≤ 30
  path : ∀ f ∈ l, f.1.length ≤ 100
  bytes : ∀ f ∈ l, f.2.length ≤ 4000
def Tf.taken (l : Fs) : Fs := l.foldl (fun t f => Tf.putF pathB t f.1 f.2) []
theorem Tf.taken_snoc (l : Fs) (f : List UInt8 × List UInt8) : Tf.taken (l ++ [f]) = Tf.putF pathB (Tf.taken l) f.1 f.2 := by simp [Tf.taken]
theorem Tf.putF_mem {fs : Fs} {p b : List UInt8} {f : List UInt8 × List UInt8} (h : f ∈ Tf.putF pathB fs p b) : f ∈ fs ∨ f = (p, b) := by
  unfold Tf.putF at h
  split at h
  · rcases Tf.mem_put.1 h with h1 | h1
    · exact .inr h1
    · exact .inl h1.1
  · exact .inl h
theorem Tf.taken_mem : ∀ (l : Fs) (f : List UInt8 × List UInt8), f ∈ Tf.taken l → f ∈ l := by
  have key : ∀ (l t : Fs) (f : List UInt8 × List UInt8), f ∈ l.foldl (fun t f => Tf.putF pathB t f.1 f.2) t → f ∈ t ∨ f ∈ l := by
    intro l
    induction l with
    | nil => intro t f h; exact .inl h
    | cons x r ih =>
      intro t f h
      rcases ih _ f h with h1 | h1
      · rcases Tf.putF_mem h1 with h2 | h2
        · exact .inl h2
        · exact .inr (by rw [h2]; simp)
      · exact .inr (List.mem_cons_of_mem _ h1)
  intro l f h
  rcases key l [] f h with h1 | h1
  · cases h1
  · exact h1
theorem Tf.putF_len (fs : Fs) (p b : List UInt8) : (Tf.putF pathB fs p b).length ≤ fs.length + 1 := by
  unfold Tf.putF
  split
  · unfold Tf.put
    rw [Tf.length_ins]
    have := Tf.length_del_le fs p
    omega
  · omega
theorem Tf.taken_len : ∀ (l : Fs), (Tf.taken l).length ≤ l.length := by
  have key : ∀ (l t : Fs), (l.foldl (fun t f => Tf.putF pathB t f.1 f.2) t).length ≤ t.length + l.length := by
    intro l
    induction l with
    | nil => intro t; simp
    | cons x r ih =>
      intro t
      have h1 := ih (Tf.putF pathB t x.1 x.2)
      have h2 := Tf.putF_len t x.1 x.2
      simp only [List.foldl_cons, List.length_cons]
      omega
  intro l
  have := key l []
  simpa [Tf.taken] using this
end Go.Proofs.YtbgkfmodbofalaaGreatDoor
