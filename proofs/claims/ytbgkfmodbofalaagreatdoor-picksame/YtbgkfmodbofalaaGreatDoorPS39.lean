import Derived.Test.YtbgkfmodbofalaaGreatDoorPS35
import Derived.Test.YtbgkfmodbofalaaGreatDoorPS11
import Derived.OneCell
namespace Go.Proofs.YtbgkfmodbofalaaGreatDoor
open Go.RowKit Go.Shelf Go.Lib Go.Maps
open Tf (Fs)
theorem isPath_hid (p : List UInt8) (hp : p.length ≤ 1000000) (x : Bool) (h : pathB p = x) (w : World) : Hid (Calls Tryz.prog 102 #[.string (ba p)] w fun e w' => e = .returned (.bool x) ∧ Below w.heap.size w w') := by
  have := IsPath_calls p hp w
  rw [← pathB_R, h] at this
  exact this
theorem rPut_name (w : World) (tb : Nat) (p b : List UInt8) (hp : p.length ≤ 1000000) (hn : pathB p = false) :
    Calls Tryz.prog 23 #[Ptr tb, .string (ba p), .string (ba b)] w fun e w' => e = .returned (.int .i64 4) ∧ Below w.heap.size w w' := by
  have HI := isPath_hid p hp false hn w
  clear hn
  go_enter Tryz.func23, Tryz.ntmps23
  go_wp2_with fail
  refine HI.out.mono ?_
  rintro e w1 ⟨rfl, g1⟩
  go_wp2
  go_ret
  exact ⟨rfl, g1⟩
theorem rPut_bound (w : World) (tb : Nat) (p b : List UInt8) (hp : p.length ≤ 1000000) (hn : pathB p = true) (hb : 2000 < b.length) :
    Calls Tryz.prog 23 #[Ptr tb, .string (ba p), .string (ba b)] w fun e w' => e = .returned (.int .i64 2) ∧ Below w.heap.size w w' := by
  have HI := isPath_hid p hp true hn w
  have z : (2000 : Int) < (b.length : Int) := by omega
  clear hn hb
  go_enter Tryz.func23, Tryz.ntmps23
  go_wp2_with fail
  refine HI.out.mono ?_
  rintro e w1 ⟨rfl, g1⟩
  go_wp2
  go_ret
  exact ⟨rfl, g1⟩
theorem first_clash : ∀ {fs : Fs} {p : List UInt8}, Tf.clash fs p = true → ∃ k, ∃ hk : k < fs.length, (Tf.above fs[k].1 p || Tf.above p fs[k].1) = true ∧ ∀ j (hj : j < fs.length), j < k → (Tf.above fs[j].1 p || Tf.above p fs[j].1) = false
  | f :: r, p, h => by
    cases hf : (Tf.above f.1 p || Tf.above p f.1) with
    | true => exact ⟨0, by simp, hf, fun j _ h => absurd h (Nat.not_lt_zero _)⟩
    | false =>
      have hr : Tf.clash r p = true := by
        unfold Tf.clash at h ⊢
        rw [List.any_cons, hf, Bool.false_or] at h
        exact h
      obtain ⟨k, hk, h1, h2⟩ := first_clash hr
      refine ⟨k + 1, by simpa using hk, h1, fun j hj hjk => ?_⟩
      cases j with
      | zero => exact hf
      | succ j => exact h2 j (by simpa using hj) (by omega)
set_option maxRecDepth 100000 in
set_option maxHeartbeats 4000000 in
theorem rPut_clash {B : Nat} {w : World} {tb : Nat} {fs : Fs} {v : Value} (h : RTreeAt B w tb fs v) (hlen : ∀ f ∈ fs, f.1.length ≤ 1000000) (hfew : fs.length ≤ 1000) (p b : List UInt8) (hp : p.length ≤ 1000000) (hn : pathB p = true) (hb : b.length ≤ 2000) (hc : Tf.clash fs p = true) :
    Calls Tryz.prog 23 #[Ptr tb, .string (ba p), .string (ba b)] w fun e w' => e = .returned (.int .i64 7) ∧ Below w.heap.size w w' := by
  have HI := isPath_hid p hp true hn w
  have HA : Hid (∀ (a c : List UInt8), a.length ≤ 1000000 → c.length ≤ 1000000 → ∀ W, Calls Tryz.prog 103 #[.string (ba a), .string (ba c)] W fun e w' => e = .returned (.bool (Tf.above a c)) ∧ w' = W) := fun a c ha hc W => rabove_calls a c ha hc W
  obtain ⟨k0, hk0, hcl, hno⟩ := first_clash hc
  have z : (b.length : Int) ≤ 2000 := by omega
  have zn : (fs.length : Int) ≤ 1000 := by omega
  clear hn hb hc
  go_enter Tryz.func23, Tryz.ntmps23
  go_wp2_with fail
  refine HI.out.mono ?_
  rintro e w1 ⟨rfl, g1⟩
  have h1 := h.below g1
  have hcell := h1.cell
  obtain ⟨pa, cap, rfl, hcap, hin⟩ := FRow.of_owns h1.row
  clear HI h h1
  go_wp2
  go_loopw [8] (fun i wr => ∃ k : Nat, k ≤ k0 ∧ i = .int .i64 k ∧ wr = w1) (fun i _ => k0 - (intOf i).toNat)
  case atStart => exact ⟨0, Nat.zero_le _, rfl, rfl⟩
  case round =>
    obtain ⟨k, hk, rfl, rfl⟩ := hrel
    have hlt : k < fs.length := by omega
    obtain ⟨g, cur, rfl, hg, hcur⟩ := hin (by intro e; rw [e] at hlt; simp at hlt)
    have hx := cell_of_row hg (hcur k hlt).1
    have hxl := hlen _ (List.getElem_mem hlt)
    have c1 : (k : Int) < (fs.length : Int) := by omega
    have c0 : (0 : Int) ≤ (k : Int) := by omega
    have A1 : Hid (∀ W, Calls Tryz.prog 103 #[.string (ba p), .string (ba fs[k].1)] W fun e w' => e = .returned (.bool (Tf.above p fs[k].1)) ∧ w' = W) := HA.out p _ hp hxl
    have A2 : Hid (∀ W, Calls Tryz.prog 103 #[.string (ba fs[k].1), .string (ba p)] W fun e w' => e = .returned (.bool (Tf.above fs[k].1 p)) ∧ w' = W) := HA.out _ p hxl hp
    have hor : (Tf.above fs[k].1 p || Tf.above p fs[k].1) = decide (k = k0) := by
      rcases Nat.lt_or_ge k k0 with h2 | h2
      · rw [hno k hlt h2]; simp; omega
      · obtain rfl : k = k0 := by omega
        rw [hcl]; simp
    clear hin hcur hg
    generalize fs[k].1 = x at *
    cases a1 : Tf.above p x with
    | true =>
      rw [a1] at A1 hor
      clear A2
      go_wp2_with fail
      refine (A1.out _).mono ?_
      rintro e w' ⟨rfl, rfl⟩
      go_wp2
      go_ret
      exact ⟨rfl, g1⟩
    | false =>
      rw [a1] at A1 hor
      cases a2 : Tf.above x p with
      | true =>
        rw [a2] at A2
        go_wp2_with fail
        refine (A1.out _).mono ?_
        rintro e w' ⟨rfl, rfl⟩
        go_wp2_with fail
        refine (A2.out _).mono ?_
        rintro e w' ⟨rfl, rfl⟩
        go_wp2
        go_ret
        exact ⟨rfl, g1⟩
      | false =>
        rw [a2] at A2 hor
        have hkk : k ≠ k0 := by intro e; subst e; simp at hor
        go_wp2_with fail
        refine (A1.out _).mono ?_
        rintro e w' ⟨rfl, rfl⟩
        go_wp2_with fail
        refine (A2.out _).mono ?_
        rintro e w' ⟨rfl, rfl⟩
        go_wp2
        go_roundw
        case rel => exact ⟨k + 1, by omega, by go_num, by first | rfl | trivial⟩
        case measure => simp [intOf]; omega
end Go.Proofs.YtbgkfmodbofalaaGreatDoor
namespace Go.Proofs.YtbgkfmodbofalaaGreatDoor
open Go.RowKit Go.Shelf Go.Lib Go.Maps
open Tf (Fs)
theorem ins_mid (x : List UInt8 × List UInt8) : ∀ (l1 l2 : Fs), (∀ f ∈ l1, bytesBefore f.1 x.1 = true) → (∀ f ∈ l2, bytesBefore x.1 f.1 = true) → Tf.ins x (l1 ++ l2) = l1 ++ x :: l2
  | [], [], _, _ => rfl
  | [], f :: r, _, h => by
    show Tf.ins x (f :: r) = _
    unfold Tf.ins
    rw [if_pos (h f (by simp))]
    rfl
  | f :: r, l2, h1, h2 => by
    show Tf.ins x (f :: (r ++ l2)) = _
    unfold Tf.ins
    have hb := h1 f (by simp)
    rw [if_neg (by
      intro e
      have := WideShapes.bytes_trans _ _ _ hb e
      rw [WideAt.bytes_irrefl] at this
      cases this), ins_mid x r l2 (fun g hg => h1 g (List.mem_cons_of_mem _ hg)) h2]
    rfl
theorem rises_ne {fs : Fs} (hr : Tf.Rises fs) {i j : Nat} (hi : i < fs.length) (hj : j < fs.length) (hij : i ≠ j) : fs[i].1 ≠ fs[j].1 := by
  intro e
  rcases Nat.lt_or_ge i j with h | h
  · have := List.pairwise_iff_getElem.1 hr i j hi hj h
    rw [e, WideAt.bytes_irrefl] at this
    cases this
  · have := List.pairwise_iff_getElem.1 hr j i hj hi (by omega)
    rw [e, WideAt.bytes_irrefl] at this
    cases this
theorem put_set {fs : Fs} (hr : Tf.Rises fs) {k : Nat} (hk : k < fs.length) (b : List UInt8) : Tf.put fs fs[k].1 b = fs.set k (fs[k].1, b) := by
  have hd : Tf.del fs fs[k].1 = fs.take k ++ fs.drop (k + 1) := by
    have e : fs = fs.take k ++ fs[k] :: fs.drop (k + 1) := by rw [List.getElem_cons_drop, List.take_append_drop]
    unfold Tf.del
    conv => lhs; arg 2; rw [e]
    rw [List.filter_append, List.filter_cons_of_neg (by simp)]
    congr 1
    · rw [List.filter_eq_self]
      intro f hf
      obtain ⟨j, hj, rfl⟩ := List.mem_iff_getElem.1 hf
      rw [List.length_take] at hj
      rw [List.getElem_take]
      simpa using rises_ne hr (by omega) hk (by omega)
    · rw [List.filter_eq_self]
      intro f hf
      obtain ⟨j, hj, rfl⟩ := List.mem_iff_getElem.1 hf
      rw [List.length_drop] at hj
      rw [List.getElem_drop]
      simpa using rises_ne hr (by omega) hk (by omega)
  unfold Tf.put
  rw [hd, ins_mid (fs[k].1, b) (fs.take k) (fs.drop (k + 1)) (fun f hf => hr.before_at hk f hf) (fun f hf => ?_), List.set_eq_take_append_cons_drop, if_pos hk]
  obtain ⟨j, hj, rfl⟩ := List.mem_iff_getElem.1 hf
  rw [List.length_drop] at hj
  rw [List.getElem_drop]
  exact List.pairwise_iff_getElem.1 hr k (k + 1 + j) hk (by omega) (by omega)
theorem put_new {fs : Fs} (hr : Tf.Rises fs) {p b : List UInt8} (ht : Tf.hasP fs p = false) {k : Nat} (hk : k ≤ fs.length) (hb : ∀ j (hj : j < fs.length), j < k → bytesBefore fs[j].1 p = true) (ha : ∀ (hj : k < fs.length), bytesBefore fs[k].1 p = false) :
    Tf.put fs p b = fs.take k ++ (p, b) :: fs.drop k := by
  unfold Tf.put
  rw [Tf.del_none ht]
  conv => lhs; arg 2; rw [← List.take_append_drop k fs]
  refine ins_mid _ _ _ (fun f hf => ?_) (fun f hf => ?_)
  · obtain ⟨j, hj, rfl⟩ := List.mem_iff_getElem.1 hf
    rw [List.length_take] at hj
    rw [List.getElem_take]
    exact hb j (by omega) (by omega)
  · obtain ⟨j, hj, rfl⟩ := List.mem_iff_getElem.1 hf
    rw [List.length_drop] at hj
    rw [List.getElem_drop]
    have hkl : k < fs.length := by omega
    have h1 : bytesBefore p fs[k].1 = true := by
      rcases WideAt.bytes_total fs[k].1 p (fun e => by
        have := List.any_eq_false.1 ht _ (List.getElem_mem hkl)
        simp [e] at this) with h | h
      · rw [ha hkl] at h; cases h
      · exact h
    cases j with
    | zero => simpa using h1
    | succ j => exact WideShapes.bytes_trans _ _ _ h1 (List.pairwise_iff_getElem.1 hr k (k + (j + 1)) hkl (by omega) (by omega))
theorem entCells_set : ∀ (fs : Fs) (k : Nat) (x : List UInt8 × List UInt8), k < fs.length → ((entCells fs).set (k * 2) (.string (ba x.1))).set (k * 2 + 1) (.string (ba x.2)) = entCells (fs.set k x)
  | f :: r, 0, x, _ => by simp [entCells]
  | f :: r, k + 1, x, h => by
    have ih := entCells_set r k x (by simpa using h)
    have e1 : entCells (f :: r) = .string (ba f.1) :: .string (ba f.2) :: entCells r := by simp [entCells]
    have e2 : entCells (f :: r.set k x) = .string (ba f.1) :: .string (ba f.2) :: entCells (r.set k x) := by simp [entCells]
    rw [List.set_cons_succ, e1, e2, ← ih, show (k + 1) * 2 = k * 2 + 1 + 1 by omega]
    rfl
set_option maxRecDepth 100000 in
set_option maxHeartbeats 4000000 in
theorem rPut_full {B : Nat} {w : World} {tb : Nat} {fs : Fs} {v : Value} (h : RTreeAt B w tb fs v) (hlen : ∀ f ∈ fs, f.1.length ≤ 1000000) (hfew : fs.length ≤ 1000) (p b : List UInt8) (hp : p.length ≤ 1000000) (hn : pathB p = true) (hb : b.length ≤ 2000) (hc : Tf.clash fs p = false) (ht : Tf.hasP fs p = false) (h60 : 60 ≤ fs.length) :
    Calls Tryz.prog 23 #[Ptr tb, .string (ba p), .string (ba b)] w fun e w' => e = .returned (.int .i64 8) ∧ Below w.heap.size w w' := by
  have HI := isPath_hid p hp true hn w
  have HA : Hid (∀ (a c : List UInt8), a.length ≤ 1000000 → c.length ≤ 1000000 → ∀ W, Calls Tryz.prog 103 #[.string (ba a), .string (ba c)] W fun e w' => e = .returned (.bool (Tf.above a c)) ∧ w' = W) := fun a c ha hc W => rabove_calls a c ha hc W
  have hno : ∀ j (hj : j < fs.length), Tf.above fs[j].1 p = false ∧ Tf.above p fs[j].1 = false := fun j hj => by
    have := List.any_eq_false.1 (show (fs.any fun f => Tf.above f.1 p || Tf.above p f.1) = false from hc) _ (List.getElem_mem hj)
    simpa using this
  have z : (b.length : Int) ≤ 2000 := by omega
  have zn : (fs.length : Int) ≤ 1000 := by omega
  clear hn hb hc
  go_enter Tryz.func23, Tryz.ntmps23
  go_wp2_with fail
  refine HI.out.mono ?_
  rintro e w1 ⟨rfl, g1⟩
  have h1 := h.below g1
  have HF := rFind_calls h1 hfew p
  have hcell := h1.cell
  have hrow := FRow.of_owns h1.row
  obtain ⟨pa, cap, rfl, hcap, hin⟩ := hrow
  clear HI
  go_wp2
  go_loopw [8] (fun i wr => ∃ k : Nat, k ≤ fs.length ∧ i = .int .i64 k ∧ wr = w1) (fun i _ => fs.length - (intOf i).toNat)
  case atStart => exact ⟨0, Nat.zero_le _, rfl, rfl⟩
  case round =>
    obtain ⟨k, hk, rfl, rfl⟩ := hrel
    by_cases hlt : k < fs.length
    · obtain ⟨g, cur, rfl, hg, hcur⟩ := hin (by intro e; rw [e] at hlt; simp at hlt)
      have hx := cell_of_row hg (hcur k hlt).1
      have hxl := hlen _ (List.getElem_mem hlt)
      have c1 : (k : Int) < (fs.length : Int) := by omega
      have c0 : (0 : Int) ≤ (k : Int) := by omega
      have A1 : Hid (∀ W, Calls Tryz.prog 103 #[.string (ba p), .string (ba fs[k].1)] W fun e w' => e = .returned (.bool false) ∧ w' = W) := fun W => by
        have := HA.out p _ hp hxl W
        rw [(hno k hlt).2] at this
        exact this
      have A2 : Hid (∀ W, Calls Tryz.prog 103 #[.string (ba fs[k].1), .string (ba p)] W fun e w' => e = .returned (.bool false) ∧ w' = W) := fun W => by
        have := HA.out _ p hxl hp W
        rw [(hno k hlt).1] at this
        exact this
      clear hin hcur hg HF h1
      generalize fs[k].1 = x at *
      go_wp2_with fail
      refine (A1.out _).mono ?_
      rintro e w' ⟨rfl, rfl⟩
      go_wp2_with fail
      refine (A2.out _).mono ?_
      rintro e w' ⟨rfl, rfl⟩
      go_wp2
      go_roundw
      case rel => exact ⟨k + 1, by omega, by go_num, by first | rfl | trivial⟩
      case measure => simp [intOf]; omega
    · have c1 : (fs.length : Int) ≤ (k : Int) := by omega
      clear HA hno
      go_wp2_with fail
      refine HF.mono ?_
      rintro e w2 ⟨hr, rfl⟩
      have z60 : (60 : Int) ≤ (fs.length : Int) := by omega
      rcases hr with ⟨k', hk', _, hp'⟩ | ⟨_, rfl⟩
      · exfalso
        have : Tf.hasP fs p = true := List.any_eq_true.2 ⟨fs[k'], List.getElem_mem hk', by simp [hp']⟩
        rw [this] at ht
        cases ht
      · clear hin
        go_wp2
        go_ret
        exact ⟨rfl, g1⟩
end Go.Proofs.YtbgkfmodbofalaaGreatDoor
namespace Go.Proofs.YtbgkfmodbofalaaGreatDoor
open Go.RowKit Go.Shelf Go.Lib Go.Maps
open Tf (Fs)
theorem Tryz.infoRFile : (Tryz.prog.info? 51).map (fun i => (i.zero, i.size, i.bytes)) = some (some (.agg #[.string ⟨#[]⟩, .string ⟨#[]⟩]), 2, 32) := by kernel_rfl
theorem entCells_take : ∀ (fs : Fs) (k : Nat), entCells (fs.take k) = (entCells fs).take (k * 2)
  | fs, 0 => by simp [entCells]
  | [], k + 1 => by simp [entCells]
  | f :: r, k + 1 => by
    have e1 : ∀ l : Fs, entCells (f :: l) = .string (ba f.1) :: .string (ba f.2) :: entCells l := fun l => by simp [entCells]
    rw [List.take_succ_cons, e1, e1, entCells_take r k, show (k + 1) * 2 = k * 2 + 1 + 1 by omega]
    rfl
theorem entCells_drop : ∀ (fs : Fs) (k : Nat), entCells (fs.drop k) = (entCells fs).drop (k * 2)
  | fs, 0 => by simp
  | [], k + 1 => by simp [entCells]
  | f :: r, k + 1 => by
    have e1 : entCells (f :: r) = .string (ba f.1) :: .string (ba f.2) :: entCells r := by simp [entCells]
    rw [List.drop_succ_cons, e1, entCells_drop r k, show (k + 1) * 2 = k * 2 + 1 + 1 by omega]
    rfl
theorem entCells_app (a b : Fs) : entCells (a ++ b) = entCells a ++ entCells b := by simp [entCells]
theorem entCells_one (fs : Fs) : ∀ u ∈ entCells fs, u.oneCell' = true := by
  intro u hu
  obtain ⟨e, _, h⟩ := List.mem_flatMap.1 hu
  rcases List.mem_cons.1 h with rfl | h
  · rfl
  · obtain rfl : u = .string (ba e.2) := by simpa using h
    rfl
structure Made (B : Nat) (w w' : World) (tb : Nat) (v : Value) (l : Fs) : Prop where
  row : w'.ownsRow B 51 2 v l.length (entCells l)
  new : ∀ g, v.ownBlock = some g → w.heap.size ≤ g
  below : Below w.heap.size w w'
theorem Made.start (B : Nat) (w : World) (tb : Nat) : Made B w w tb (.slice none 0 0) [] := ⟨World.ownsRow_nil _ _ _ _, (fun _ h => by cases h), Below.refl _ _⟩
theorem Made.cell {B : Nat} {w w' : World} {tb : Nat} {v : Value} {l : Fs} (h : Made B w w' tb v l) {a : Addr} {u : Value} (hc : w.cell? a = some u) : w'.cell? a = some u := cell_below' hc h.below
theorem Made.more {B : Nat} {w w1 w2 : World} {tb : Nat} {v v' : Value} {l m : Fs} {row : Option Nat} (h : Made B w w1 tb v l) (o : w2.ownsRow B 51 2 v' (l.length + m.length) (entCells l ++ entCells m)) (gr : w1.grownBy w2 row) (hrow : row = v.ownBlock) (loc : v'.ownBlock = v.ownBlock ∨ v'.ownBlock = some w1.heap.size) : Made B w w2 tb v' (l ++ m) := by
  subst hrow
  refine ⟨by rw [entCells_app, List.length_append]; exact o, fun g hg => ?_, h.below.grown gr h.below.size h.new⟩
  rcases loc with e | e
  · exact h.new g (e ▸ hg)
  · rw [e] at hg; cases hg; exact h.below.size
theorem Made.shape {B : Nat} {w w' : World} {tb : Nat} {v : Value} {l : Fs} (h : Made B w w' tb v l) (hne : l ≠ []) (N : Nat) (hN : l.length = N) : ∃ g c, v = .slice (some ⟨g, 0, none⟩) N c := by
  subst hN
  rcases h.row.2 with ⟨_, h0⟩ | ⟨g, c, cur, rfl, _⟩
  · exact absurd (List.length_eq_zero_iff.1 h0) hne
  · exact ⟨g, c, rfl⟩
theorem Made.alloc {B : Nat} {w w1 : World} {tb : Nat} {v : Value} {l : Fs} (h : Made B w w1 tb v l) (o : Obj) : Made B w (w1.alloc o) tb v l := ⟨h.row.alloc o, h.new, h.below.alloc h.below.size o⟩
end Go.Proofs.YtbgkfmodbofalaaGreatDoor
namespace Go.Proofs.YtbgkfmodbofalaaGreatDoor
open Go.RowKit Go.Shelf Go.Lib Go.Maps
open Tf (Fs)
theorem Made.shape2 {B : Nat} {w w' : World} {tb : Nat} {v : Value} {l : Fs} (h : Made B w w' tb v l) (hne : l ≠ []) (N : Nat) (hN : l.length = N) : ∃ g c, v = .slice (some ⟨g, 0, none⟩) N c ∧ N ≤ c := by
  subst hN
  rcases h.row.2 with ⟨_, h0⟩ | ⟨g, c, cur, rfl, _, _, h1, _⟩
  · exact absurd (List.length_eq_zero_iff.1 h0) hne
  · exact ⟨g, c, rfl, h1⟩
theorem well_clash {fs : Fs} (hw : Tf.Well pathB fs) {p : List UInt8} (ht : Tf.hasP fs p = true) : Tf.clash fs p = false := by
  obtain ⟨g, hg, e⟩ := List.any_eq_true.1 ht
  obtain rfl : g.1 = p := by simpa using e
  unfold Tf.clash
  rw [List.any_eq_false]
  intro f hf
  rw [hw.apart f hf g hg, hw.apart g hg f hf]
  simp
end Go.Proofs.YtbgkfmodbofalaaGreatDoor
