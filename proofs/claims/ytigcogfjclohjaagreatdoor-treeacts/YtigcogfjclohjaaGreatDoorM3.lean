/- Walks of package tree's readEntry and rise, where a text is well. -/
import Derived.Test.YtigcogfjclohjaaGreatDoorTreeText
import Derived.Test.YtigcogfjclohjaaGreatDoorANum
import Derived.OwnWalk
namespace Go.Proofs.YtigcogfjclohjaaGreatDoor
open Go.RowKit Go.Shelf Go.Lib Go.Maps
open Tf (Fs)

abbrev MaxAt (w : World) (m : Int) : Prop := w.cell? ⟨14, 0, none⟩ = some (.int .i64 m)

theorem numT_some {d : List UInt8} {n : Nat} (h : Tf.numT d = some n) : d.length ≤ 4 ∧ Lib.atoi d = some (n : Int) ∧ Lib.decDigits n = d := numM_some (k := 4) h

theorem readNumber_yes (d : List UInt8) (n : Nat) (h : Tf.numT d = some n) (hn : n ≤ 1000000) (w : World) (hP : Pow w) :
    Calls Tryz.prog 78 #[.string (ba d), .int .i64 4] w fun e w' => e = .returned (.tuple #[.int .i64 n, .bool true]) ∧ Below w.heap.size w w' := nRead_yes 4 (by omega) d n h hn w hP

theorem cut_calls (s sep : List UInt8) (hs : s.length ≤ 1000000) (m : Int) (w : World) (hm : MaxAt w m) :
    Calls Tryz.prog 77 #[.string (ba s), .string (ba sep)] w fun e w' => e = .returned (.tuple #[.string (ba (Lib.cut s sep).1), .string (ba (Lib.cut s sep).2.1), .bool (Lib.cut s sep).2.2]) ∧ Below w.heap.size w w' :=
  (Tryz.strings_Cut (ba s) (ba sep) m w (by rw [ba_size]; omega) hm).mono fun e w' ⟨h1, n, h2⟩ => ⟨h1, h2 ▸ below_draws (Below.refl _ w) n⟩

theorem ba_extract (t : List UInt8) (a b : Nat) : (ba t).extract a b = ba ((t.drop a).take (b - a)) := ba_eq (by rw [← Lib.toList_data, Lib.extract_toList])

theorem pair_new (w : World) (x y : Value) (t : TypeId) : (w.alloc (.cells #[x, y] t)).heap[w.heap.size]? = some (.cells #[x, y] t (0, 0)) := (MapKept.heap_alloc w _).1

abbrev entV (e : List UInt8 × List UInt8) : Value := .agg #[.string (ba e.1), .string (ba e.2)]

set_option maxRecDepth 100000 in
set_option maxHeartbeats 4000000 in
theorem readEntry_yes (s : List UInt8) (e : List UInt8 × List UInt8) (r : List UInt8) (h : Tf.readE s = some (e, r)) (hs : s.length ≤ 1000000) (m : Int) (w : World) (hP : Pow w) (hm : MaxAt w m) :
    Calls Tryz.prog 57 #[.string (ba s)] w fun e' w' => e' = .returned (.tuple #[entV e, .string (ba r), .bool true]) ∧ Below w.heap.size w w' := by
  unfold Tf.readE at h
  split at h
  · cases h
  rename_i c1
  split at h
  · cases h
  rename_i c2
  split at h
  · cases h
  rename_i n hnum
  split at h
  · cases h
  rename_i c3
  split at h
  · cases h
  rename_i c4
  have c1' : (Lib.cut s [10]).2.2 = true := by simpa using c1
  have c2' : (Lib.cut (Lib.cut s [10]).1 [32]).2.2 = true := by simpa using c2
  have c4' : Lib.hasPrefix ((Lib.cut s [10]).2.1.drop n) [10] = true := by simpa using c4
  have hlen : (Lib.cut s [10]).1.length ≤ 1000000 ∧ (Lib.cut s [10]).2.1.length ≤ 1000000 := by
    unfold Lib.cut
    split <;> simp <;> omega
  have g0 : Below w.heap.size w (w.alloc (.cells #[.string ⟨#[]⟩, .string ⟨#[]⟩] 75)) := (Below.refl _ w).alloc (Nat.le_refl _) _
  have H1 : Hid (∀ W, Below w.heap.size w W → Calls Tryz.prog 77 #[.string (ba s), .string (ba [10])] W fun e w' => e = .returned (.tuple #[.string (ba (Lib.cut s [10]).1), .string (ba (Lib.cut s [10]).2.1), .bool true]) ∧ Below W.heap.size W w') := fun W hW => by
    have := cut_calls s [10] hs m W (cell_below' hm hW)
    rw [c1'] at this
    exact this
  have H2 : Hid (∀ W, Below w.heap.size w W → Calls Tryz.prog 77 #[.string (ba (Lib.cut s [10]).1), .string (ba [32])] W fun e w' => e = .returned (.tuple #[.string (ba (Lib.cut (Lib.cut s [10]).1 [32]).1), .string (ba (Lib.cut (Lib.cut s [10]).1 [32]).2.1), .bool true]) ∧ Below W.heap.size W w') := fun W hW => by
    have := cut_calls (Lib.cut s [10]).1 [32] hlen.1 m W (cell_below' hm hW)
    rw [c2'] at this
    exact this
  have H3 : Hid (∀ W, Below w.heap.size w W → Calls Tryz.prog 78 #[.string (ba (Lib.cut (Lib.cut s [10]).1 [32]).2.1), .int .i64 4] W fun e w' => e = .returned (.tuple #[.int .i64 n, .bool true]) ∧ Below W.heap.size W w') := fun W hW =>
    readNumber_yes _ n hnum (by omega) W (pow_below hP hW)
  generalize (Lib.cut (Lib.cut s [10]).1 [32]).2.1 = d at *
  generalize (Lib.cut (Lib.cut s [10]).1 [32]).1 = p at *
  generalize (Lib.cut s [10]).1 = hd at *
  generalize (Lib.cut s [10]).2.1 = t at *
  obtain ⟨rfl, rfl⟩ : e = (p, t.take n) ∧ r = t.drop (n + 1) := by simp at h; exact ⟨h.1.symm, h.2.symm⟩
  have H4 : Hid (∀ W, Calls Tryz.prog 79 #[.string (ba (t.drop n)), .string (ba [10])] W fun e w' => e = .returned (.tuple #[.string (ba (t.drop (n + 1))), .bool true]) ∧ w' = W) := fun W => by
    have := Tryz.strings_CutPrefix (ba (t.drop n)) (ba [10]) W
    rw [show Lib.hasPrefix (ba (t.drop n)).data.toList (ba [10]).data.toList = true from c4', show Lib.trimPrefix (ba (t.drop n)).data.toList (ba [10]).data.toList = t.drop (n + 1) by
      show Lib.trimPrefix (t.drop n) [10] = _
      unfold Lib.trimPrefix
      rw [if_pos c4']
      simp] at this
    exact this
  have z3 : (n : Int) ≤ (t.length : Int) := by omega
  have z0 : (0 : Int) ≤ (n : Int) := by omega
  have zt : (t.length : Int) ≤ 1000000 := by omega
  clear h hnum c4 c4' c1 c1' c2 c2' hP hm
  go_enter Tryz.func57, Tryz.ntmps57
  go_wp2_with fail
  refine (H1.out _ g0).mono ?_
  rintro e w1 ⟨rfl, g1'⟩
  have g1 := g0.trans (g1'.mono g0.size)
  go_wp2_with fail
  refine (H2.out w1 g1).mono ?_
  rintro e w2 ⟨rfl, g2'⟩
  have g2 := g1.trans (g2'.mono g1.size)
  go_wp2_with fail
  refine (H3.out w2 g2).mono ?_
  rintro e w3 ⟨rfl, g3'⟩
  have g3 := g2.trans (g3'.mono g2.size)
  have hk : w3.heap[w.heap.size]? = some (.cells #[.string ⟨#[]⟩, .string ⟨#[]⟩] 75 (0, 0)) :=
    ((g3'.block _ (by have := g2'.size; have := g1'.size; simp at this; omega)).trans ((g2'.block _ (by have := g1'.size; simp at this; omega)).trans (g1'.block _ (by simp)))).trans (pair_new w _ _ _)
  have hcA : w3.cell? ⟨w.heap.size, 0, none⟩ = some (.string ⟨#[]⟩) := cell_of_row hk rfl
  have hcB : w3.cell? ⟨w.heap.size, 1, none⟩ = some (.string ⟨#[]⟩) := cell_of_row hk rfl
  have hfA : w3.frozen? ⟨w.heap.size, 0, none⟩ = false := by simp [World.frozen?, hk]
  have hfB : w3.frozen? ⟨w.heap.size, 1, none⟩ = false := by simp [World.frozen?, hk]
  have e1 : (ba t).extract n t.length = ba (t.drop n) := by rw [ba_extract, List.take_of_length_le (by simp)]
  have e2 : (ba t).extract 0 n = ba (t.take n) := by rw [ba_extract]; simp
  clear H1 H2 H3 hk
  go_wp2_with fail
  refine (H4.out _).mono ?_
  rintro e w' ⟨rfl, rfl⟩
  go_wp2
  have hs1 : (w'.setCell ⟨w.heap.size, 0, none⟩ (.string (ba p))).cell? ⟨w.heap.size, 0, none⟩ = some (.string (ba p)) := World.cell?_setCell_same' _ _ _ (by rw [hcA]; rfl)
  have hs2 : ((w'.setCell ⟨w.heap.size, 0, none⟩ (.string (ba p))).setCell ⟨w.heap.size, 1, none⟩ (.string (ba (t.take n)))).cell? ⟨w.heap.size, 0, none⟩ = some (.string (ba p)) := by
    rw [World.cell?_setCell_other _ _ _ _ (by simp)]; exact hs1
  have hs3 : ((w'.setCell ⟨w.heap.size, 0, none⟩ (.string (ba p))).setCell ⟨w.heap.size, 1, none⟩ (.string (ba (t.take n)))).cell? ⟨w.heap.size, 1, none⟩ = some (.string (ba (t.take n))) :=
    World.cell?_setCell_same' _ _ _ (by rw [World.cell?_setCell_other _ _ _ _ (by simp), hcB]; rfl)
  refine bodyPost_ret (v := .tuple #[entV (p, t.take n), .string (ba (t.drop (n + 1))), .bool true]) ?_ rfl ?_
  · simp [results, Tryz.f57, go_sem, hs2, hs3]
  · exact ⟨rfl, (g3.setCell (p := ⟨w.heap.size, 0, none⟩) (Nat.le_refl _) _).setCell (p := ⟨w.heap.size, 1, none⟩) (Nat.le_refl _) _⟩
end Go.Proofs.YtigcogfjclohjaaGreatDoor
/- Walks of package tree's readEntries and rise. -/
namespace Go.Proofs.YtigcogfjclohjaaGreatDoor
open Go.RowKit Go.Shelf Go.Lib Go.Maps
open Tf (Fs)

def entCells (es : Fs) : List Value := es.flatMap fun e => [.string (ba e.1), .string (ba e.2)]

theorem entCells_snoc (es : Fs) (e : List UInt8 × List UInt8) : entCells (es ++ [e]) = entCells es ++ [.string (ba e.1), .string (ba e.2)] := by simp [entCells]

theorem entCells_len (es : Fs) : (entCells es).length = es.length * 2 := by
  induction es with
  | nil => rfl
  | cons e r ih => simp [entCells] at ih ⊢; omega

theorem entCells_at : ∀ (es : Fs) (j : Nat) (hj : j < es.length), (entCells es)[j * 2]? = some (.string (ba es[j].1)) ∧ (entCells es)[j * 2 + 1]? = some (.string (ba es[j].2))
  | e :: r, 0, _ => by simp [entCells]
  | e :: r, j + 1, hj => by
    have := entCells_at r j (by simpa using hj)
    have e1 : entCells (e :: r) = .string (ba e.1) :: .string (ba e.2) :: entCells r := by simp [entCells]
    rw [e1, show (j + 1) * 2 = j * 2 + 1 + 1 by omega]
    simpa using this

/-- A slice of entries in memory. -/
def ERow (w : World) (v : Value) (es : Fs) : Prop :=
  ∃ p cap, v = .slice p es.length cap ∧ es.length ≤ cap ∧ (es ≠ [] → ∃ g cur, p = some ⟨g, 0, none⟩ ∧ w.heap[g]? = some (.cells cur 75 (0, 0)) ∧ ∀ j (hj : j < es.length), cur[j * 2]? = some (.string (ba es[j].1)) ∧ cur[j * 2 + 1]? = some (.string (ba es[j].2)))

theorem ERow.of_owns {w : World} {base : Nat} {v : Value} {es : Fs} (h : w.ownsRow base 75 2 v es.length (entCells es)) : ERow w v es := by
  rcases h.2 with ⟨rfl, hn⟩ | ⟨g, cap, cur, rfl, _, hb, h1, _, _, h4⟩
  · obtain rfl : es = [] := by simpa using hn
    exact ⟨none, 0, rfl, Nat.le_refl _, fun h => absurd rfl h⟩
  · refine ⟨_, cap, rfl, h1, fun _ => ⟨g, cur, rfl, hb, fun j hj => ?_⟩⟩
    obtain ⟨h5, h6⟩ := entCells_at es j hj
    rw [← h4, List.getElem?_take, if_pos (by omega), Array.getElem?_toList] at h5 h6
    exact ⟨h5, h6⟩

theorem ERow.keep {w w' : World} {v : Value} {es : Fs} {B : Nat} (h : ERow w v es) (hB : w.heap.size ≤ B) (hb : ∀ k, k < B → w'.heap[k]? = w.heap[k]?) : ERow w' v es := by
  obtain ⟨p, cap, e, h0, h1⟩ := h
  refine ⟨p, cap, e, h0, fun hl => ?_⟩
  obtain ⟨g, cur, e, hg, hc⟩ := h1 hl
  exact ⟨g, cur, e, (hb g (by have := (Array.getElem?_eq_some_iff.1 hg).1; omega)).trans hg, hc⟩

theorem row_low {w : World} {base : Nat} {e : TypeId} {size : Nat} {v : Value} {n : Nat} {xs : List Value} (h : w.ownsRow base e size v n xs) : ∀ k, v.ownBlock = some k → base ≤ k := by
  intro k hk
  rcases h.2 with ⟨rfl, _⟩ | ⟨g, cap, cur, rfl, hb, _⟩
  · cases hk
  · cases hk; exact hb

theorem ownsRow_below {w w' : World} {base : Nat} {e : TypeId} {size : Nat} {v : Value} {n : Nat} {xs : List Value} (h : w.ownsRow base e size v n xs) (hb : Below w.heap.size w w') : w'.ownsRow base e size v n xs := by
  obtain ⟨h0, h1⟩ := h
  refine ⟨h0, h1.imp id ?_⟩
  rintro ⟨g, cap, cur, e1, e2, e3, e4⟩
  exact ⟨g, cap, cur, e1, e2, (hb.block g (Array.getElem?_eq_some_iff.1 e3).1).trans e3, e4⟩

theorem cut_rest {s : List UInt8} (h : (Lib.cut s [10]).2.2 = true) (hs : s ≠ []) : (Lib.cut s [10]).2.1.length < s.length := by
  unfold Lib.cut at h ⊢
  have := List.length_pos_iff.2 hs
  split at h
  · rename_i h0
    simp only [h0, if_true, List.length_drop, List.length_cons, List.length_nil]
    omega
  · cases h

theorem readE_lt {s r : List UInt8} {e : List UInt8 × List UInt8} (h : Tf.readE s = some (e, r)) (hs : s ≠ []) : r.length < s.length := by
  unfold Tf.readE at h
  split at h
  · cases h
  rename_i c1
  split at h
  · cases h
  split at h
  · cases h
  split at h
  · cases h
  split at h
  · cases h
  have := cut_rest (by simpa using c1) hs
  simp at h
  rw [← h.2, List.length_drop]
  omega

def strLen : Value → Nat
  | .string b => b.size
  | _ => 0

theorem Tryz.infoEntry : (Tryz.prog.info? 75).map (fun i => (i.zero, i.size, i.bytes)) = some (some (.agg #[.string ⟨#[]⟩, .string ⟨#[]⟩]), 2, 32) := by kernel_rfl

theorem two_new (W : World) (x y : Value) (t : TypeId) (j : Nat) (u : Value) (h : [x, y][j]? = some u) : (W.alloc (.cells #[x, y] t)).cell? ((⟨W.heap.size, 0, none⟩ : Addr).add j) = some u := by
  have hk := pair_new W x y t
  match j, h with
  | 0, h => cases h; exact cell_of_row hk rfl
  | 1, h => cases h; exact cell_of_row hk rfl

theorem two_new' (W : World) (x y : Value) (t : TypeId) (n : Nat) (hn : W.heap.size = n) (j : Nat) (u : Value) (h : [x, y][j]? = some u) : (W.alloc (.cells #[x, y] t)).cell? ((⟨n, 0, none⟩ : Addr).add j) = some u := by
  subst hn
  exact two_new W x y t j u h

set_option maxRecDepth 100000 in
set_option maxHeartbeats 4000000 in
theorem readEntries_yes (s : List UInt8) (es : Fs) (hp : Tf.Parse s es) (hs : s.length ≤ 1000000) (hn : es.length ≤ 1000) (m : Int) (w : World) (hP : Pow w) (hm : MaxAt w m) :
    Calls Tryz.prog 37 #[.string (ba s)] w fun e w' => ∃ v, e = .returned (.tuple #[v, .bool true]) ∧ w'.ownsRow w.heap.size 75 2 v es.length (entCells es) ∧ Below w.heap.size w w' := by
  have HR : Hid (∀ (t r : List UInt8) (e : List UInt8 × List UInt8), Tf.readE t = some (e, r) → t.length ≤ 1000000 → ∀ W, Below w.heap.size w W → Calls Tryz.prog 57 #[.string (ba t)] W fun e' w' => e' = .returned (.tuple #[entV e, .string (ba r), .bool true]) ∧ Below W.heap.size W w') :=
    fun t r e h ht W hW => readEntry_yes t e r h ht m W (pow_below hP hW) (cell_below' hm hW)
  obtain ⟨i0, hi, hz0, hz1, hz2⟩ := info_parts Tryz.infoEntry
  clear hP hm
  go_enter Tryz.func37, Tryz.ntmps37
  go_wp2
  go_loopw [0, 4] (fun s0 s4 wr => ∃ (dn rs : Fs) (r : List UInt8), es = dn ++ rs ∧ Tf.Parse r rs ∧ r.length ≤ s.length ∧ s0 = .string (ba r) ∧ wr.ownsRow w.heap.size 75 2 s4 dn.length (entCells dn) ∧ Below w.heap.size w wr) (fun s0 _ _ => strLen s0)
  case atStart => exact ⟨[], es, s, rfl, hp, Nat.le_refl _, rfl, World.ownsRow_nil _ _ _ _, Below.refl _ _⟩
  case round =>
    obtain ⟨dn, rs, r, hes, hpar, hrl, rfl, hrow, hB⟩ := hrel
    cases hpar with
    | nil =>
      go_wp2
      go_ret2
      rw [List.append_nil] at hes
      subst hes
      exact ⟨_, rfl, hrow, hB⟩
    | @cons _ r' e rs' hne hre hpar' =>
      have hz : r.isEmpty = false := by simpa using hne
      have hlt := readE_lt hre hne
      have HE := HR.out r r' e hre (by omega) wr hB
      have hdn : dn.length < 1000 := by rw [hes] at hn; simp at hn; omega
      clear HR hre
      go_wp2_with fail
      refine HE.mono ?_
      rintro e' w1 ⟨rfl, g1⟩
      have hrow1 := ownsRow_below hrow g1
      have G1 := hB.trans (g1.mono hB.size)
      have hsz1 := G1.size
      clear hrow g1 HE
      go_wp2_with (first
        | (at_builtin; refine wpList_append_own _ rfl _ _ 71 rfl w.heap.size 75 i0 (.agg #[.string ⟨#[]⟩, .string ⟨#[]⟩]) 2 32 Tryz.underlying71 hi hz0 hz1 hz2 rfl (by decide) _ _ _ rfl ((hrow1.alloc _).alloc _) ⟨w1.heap.size + 1, 0, none⟩ 1 1 [.string (ba e.1), .string (ba e.2)] rfl rfl (two_new' _ _ _ _ _ (by simp)) (by simp [Value.oneCell']) (by unfold maxLen; omega) (by omega) (by simp; omega) ?_; intro v' w2 hown' hgrow hnil; go_frame)
        | go_in)
      go_wp2
      go_roundw
      case rel =>
        refine ⟨dn ++ [e], rs', r', by rw [hes]; simp, hpar', by omega, rfl, ?_, ?_⟩
        · rw [entCells_snoc]; simpa using hown'
        · exact ((G1.alloc hsz1 _).alloc (by simp; omega) _).grown hgrow (by simp; omega) (row_low hrow1)
      case measure => simp only [strLen, ba_size]; exact hlt

set_option maxRecDepth 100000 in
set_option maxHeartbeats 4000000 in
theorem rise_yes {w : World} {v : Value} {es : Fs} (h : ERow w v es) (hr : Tf.Rises es) (hn : es.length ≤ 1000) :
    Calls Tryz.prog 38 #[v] w fun e w' => e = .returned (.bool true) ∧ ∃ q, w' = w.drewN q := by
  obtain ⟨p, cap, rfl, hcap, hin⟩ := h
  have zn : (es.length : Int) ≤ 1000 := by omega
  go_enter Tryz.func38, Tryz.ntmps38
  go_wp2
  go_loopw [3] (fun i wr => ∃ k : Nat, 1 ≤ k ∧ k ≤ 1000 ∧ i = .int .i64 k ∧ ∃ q, wr = w.drewN q) (fun i _ => 1001 - (intOf i).toNat)
  case atStart => exact ⟨1, by omega, by omega, rfl, 0, rfl⟩
  case round =>
    obtain ⟨k, hk1, hk, rfl, q, rfl⟩ := hrel
    by_cases hlt : k < es.length
    · obtain ⟨g, cur, rfl, hg, hcur⟩ := hin (by intro e; rw [e] at hlt; simp at hlt)
      have c1 : (k : Int) < (es.length : Int) := by omega
      have c0 : (1 : Int) ≤ (k : Int) := by omega
      have c2 : (0 : Int) ≤ (k : Int) := by omega
      have h1 := cell_of_row hg (hcur (k - 1) (by omega)).1
      have h2 := cell_of_row hg (hcur k hlt).1
      have hb : Op.bytesLess es[k - 1].1 es[k].1 = true := by
        rw [Tf.less_before]
        exact List.pairwise_iff_getElem.1 hr (k - 1) k (by omega) hlt (by omega)
      obtain ⟨j, rfl⟩ : ∃ j, k = j + 1 := ⟨k - 1, by omega⟩
      simp only [Nat.add_sub_cancel] at h1 hb
      clear hin hcur hg
      generalize es[j].1 = x at *
      generalize es[j + 1].1 = y at *
      go_wp2
      go_region
      go_wp2
      go_roundw
      case rel => exact ⟨j + 1 + 1, by omega, by omega, by go_num, q + 1, rfl⟩
      case measure => simp [intOf]; omega
    · have c1 : (es.length : Int) ≤ (k : Int) := by omega
      clear hin
      go_wp2
      go_ret
      exact ⟨rfl, q, rfl⟩
end Go.Proofs.YtigcogfjclohjaaGreatDoor
/- The walk of package tree's Read at a text that is read. -/
namespace Go.Proofs.YtigcogfjclohjaaGreatDoor
open Go.RowKit Go.Shelf Go.Lib Go.Maps
open Tf (Fs)

theorem well_len {fs : Fs} (h : Tf.Well pathB fs) : ∀ f ∈ fs, f.1.length ≤ 64 := by
  intro f hf
  have h1 := (h.each f hf).1
  unfold pathB allB at h1
  simp only [Bool.and_eq_true, decide_eq_true_eq, List.all_eq_true] at h1
  have h2 : ∀ x ∈ Kf.parts f.1, x.length ≤ 12 := fun x hx => by
    have := h1.2 x hx
    unfold nameK at this
    simp only [Bool.and_eq_true, decide_eq_true_eq] at this
    have e : (ba x).size = x.length := ba_size x
    revert this
    simp [e]
    omega
  have h3 := Kf.tot_parts f.1
  have h4 : Kf.tot (Kf.parts f.1) ≤ (Kf.parts f.1).length * 13 := by
    generalize Kf.parts f.1 = l at h2
    clear h1 h3
    induction l with
    | nil => simp [Kf.tot]
    | cons x r ih =>
      have := ih fun y hy => h2 y (List.mem_cons_of_mem _ hy)
      have := h2 x (by simp)
      simp [Kf.tot] at *
      omega
  omega
end Go.Proofs.YtigcogfjclohjaaGreatDoor
