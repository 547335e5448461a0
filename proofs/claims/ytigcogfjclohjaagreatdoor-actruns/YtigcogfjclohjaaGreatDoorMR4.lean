/- plain.Code of a *api.Fault that holds a sentinel: the walk; coded, SameInts. -/
import Derived.Test.YtigcogfjclohjaaGreatDoorCode
import Derived.Test.YtigcogfjclohjaaGreatDoorErrHit
import Derived.Test.YtigcogfjclohjaaGreatDoorMR3
namespace Go.Proofs.YtigcogfjclohjaaGreatDoor
open Go.RowKit Go.Extern.Stop Go.Stop Go.Extern

set_option maxHeartbeats 2000000 in
theorem Code_fault (pb : Nat) (n : Int) (m : Nat) (hm : m < 12) (es : Nat → Addr) (w : World) (hE : E12 w es)
    (h0 : w.cell? ⟨pb, 0, none⟩ = some (.int .i64 n)) (h1 : w.cell? ⟨pb, 1, none⟩ = some (.iface 236 (.pointer (some (es m))))) :
    Calls Tryz.prog 40 #[.iface 111 (.pointer (some ⟨pb, 0, none⟩))] w fun e w' => e = .returned (.tuple #[.int .i64 ((m : Int) + 1), .int .i64 n]) ∧ Below w.heap.size w w' := by
  have hB0 : Below w.heap.size w (w.alloc (.cells #[.pointer none] 111)) := (Below.refl _ w).alloc (Nat.le_refl _) _
  have hE0 := hE.below hB0
  go_enter Tryz.func40, Tryz.ntmps40
  go_wp2_with fail
  refine (as_hit ⟨pb, 0, none⟩ ⟨w.heap.size, 0, none⟩ (.pointer none) _ hE0.t (by simp) (by simp)).mono ?_
  rintro e w1 ⟨rfl, hw1⟩
  have hB1 : Below w.heap.size w w1 := by
    rw [hw1]
    exact (((((hB0.alloc (by simp) _).alloc (by simp; omega) _).alloc (by simp; omega) _).alloc (by simp; omega) _).setCell (p := ⟨w.heap.size, 0, none⟩) (Nat.le_refl _) _)
  have hc1 : w1.cell? ⟨w.heap.size, 0, none⟩ = some (.pointer (some ⟨pb, 0, none⟩)) := by
    rw [hw1]
    refine World.cell?_setCell_same' _ _ _ ?_
    rw [World.cell?_alloc_lt _ _ ⟨w.heap.size, 0, none⟩ (by simp; omega), World.cell?_alloc_lt _ _ ⟨w.heap.size, 0, none⟩ (by simp; omega), World.cell?_alloc_lt _ _ ⟨w.heap.size, 0, none⟩ (by simp; omega), World.cell?_alloc_lt _ _ ⟨w.heap.size, 0, none⟩ (by simp)]
    simp
  clear hw1
  have hE1 := hE.below hB1
  have g0 := cell_below h0 hB1
  have g1 := cell_below h1 hB1
  have k0 := hE1.c0; have k1 := hE1.c1; have k2 := hE1.c2; have k3 := hE1.c3; have k4 := hE1.c4; have k5 := hE1.c5
  have k6 := hE1.c6; have k7 := hE1.c7; have k8 := hE1.c8; have k9 := hE1.c9; have k10 := hE1.c10; have k11 := hE1.c11
  clear hE0 hB0
  go_wp2
  have hB2 : Below w1.heap.size w1 (w1.alloc (.cells (esV es) 25)) := (Below.refl _ w1).alloc (Nat.le_refl _) _
  have hE2 := hE1.below hB2
  have g2 := cell_below g1 hB2
  have hBB := hB1.trans (hB2.mono hB1.size)
  have hsl := es_cells es w1
  unfold esV at hB2 hE2 g2 hBB hsl
  clear k0 k1 k2 k3 k4 k5 k6 k7 k8 k9 k10 k11 hE1 hB2 hE g0 g1 h0 h1 hc1
  generalize w1.alloc _ = W2 at *
  have HE : Hid (E12 W2 es) := hE2
  clear hE2
  go_loop [3, 30] (fun a i => a = .int .i64 n ∧ ∃ k : Nat, k ≤ m ∧ i = .int .i64 k) (fun _ i => 12 - (intOf i).toNat)
  case atStart => exact ⟨rfl, 0, by omega, rfl⟩
  case round =>
    obtain ⟨rfl, k, hk, rfl⟩ := hrel
    have hlt : k < 12 := by omega
    have hck := hsl k hlt
    have hlt' : (k : Int) < 12 := by omega
    have hk0 : (0 : Int) ≤ (k : Int) := by omega
    by_cases hek : k = m
    · subst hek
      clear hsl
      go_wp2_with fail
      refine (is_fault_same pb (es k) _ g2).mono ?_
      rintro e w' ⟨rfl, rfl⟩
      go_wp2
      go_ret2
      exact ⟨rfl, hBB⟩
    · obtain ⟨c, t, hr⟩ := HE.out.rows k hlt
      obtain ⟨c', t', hr'⟩ := HE.out.rows m hm
      have hio := is_fault_other pb (es m) (es k) c' c t' t W2 g2 (HE.out.inj m k hm hlt (fun e => hek e.symm)) hr' hr
      have HI : Hid (Calls Tryz.prog 59 #[.iface 111 (.pointer (some ⟨pb, 0, none⟩)), .iface 236 (.pointer (some (es k)))] W2 fun e w' => e = .returned (.bool false) ∧ w' = W2) := hio
      have hkm : k < m := by omega
      clear hio hsl hr hr' hek
      go_wp2_with fail
      refine HI.out.mono ?_
      rintro e w' ⟨rfl, rfl⟩
      go_wp2
      go_round
      case rel => exact ⟨rfl, k + 1, by omega, by go_num⟩
      case measure => simp [intOf]; omega

theorem coded_nil (c : Int) (w : World) : Calls Tryz.prog 12 #[.nilIface, .int .i64 c] w fun e w' => e = .returned (.bool (decide (0 = c))) ∧ w' = w := by
  by_cases h : 0 = c
  · subst h
    go_enter Tryz.func12, Tryz.ntmps12
    go_wp2_with fail
    refine (Code_nil _).mono ?_
    rintro e w' ⟨rfl, rfl⟩
    go_wp2
    go_ret
    exact ⟨rfl, rfl⟩
  · have hb : ((0 : Int) == c) = false := by simpa using h
    have hd : decide (0 = c) = false := by simpa using h
    rw [hd]
    go_enter Tryz.func12, Tryz.ntmps12
    go_wp2_with fail
    refine (Code_nil _).mono ?_
    rintro e w' ⟨rfl, rfl⟩
    go_wp2
    go_ret
    exact ⟨rfl, rfl⟩

theorem coded_ptr (c : Int) (x : Addr) (es : Nat → Addr) (cx : Array Value) (tx : TypeId) (w : World) (hE : E12 w es) (hx : w.heap[x.block]? = some (.cells cx tx (0, 0))) :
    Calls Tryz.prog 12 #[.iface 236 (.pointer (some x)), .int .i64 c] w fun e w' => e = .returned (.bool (decide (codeOf es x = c))) ∧ Below w.heap.size w w' := by
  have HC : Hid (Calls Tryz.prog 40 #[.iface 236 (.pointer (some x))] w fun e w' => e = .returned (.tuple #[.int .i64 (codeOf es x), .int .i64 (-1)]) ∧ Below w.heap.size w w') := Code_ptr x es cx tx w hE hx
  generalize codeOf es x = y at *
  clear hE hx
  by_cases h : y = c
  · subst h
    have hd : decide (y = y) = true := by simp
    rw [hd]
    go_enter Tryz.func12, Tryz.ntmps12
    go_wp2_with fail
    refine HC.out.mono ?_
    rintro e w' ⟨rfl, hb⟩
    go_wp2
    go_ret
    exact ⟨rfl, hb⟩
  · have hb : (y == c) = false := by simpa using h
    have hd : decide (y = c) = false := by simpa using h
    rw [hd]
    go_enter Tryz.func12, Tryz.ntmps12
    go_wp2_with fail
    refine HC.out.mono ?_
    rintro e w' ⟨rfl, hb⟩
    go_wp2
    go_ret
    exact ⟨rfl, hb⟩
end Go.Proofs.YtigcogfjclohjaaGreatDoor
/- coded at a sentinel and its number, and at nil and 0; the errors of package tree by their numbers. -/
namespace Go.Proofs.YtigcogfjclohjaaGreatDoor
open Go.RowKit

theorem codeOf_es {w : World} {es : Nat → Addr} (h : E12 w es) (k : Nat) (hk : k < 12) : codeOf es (es k) = (k : Int) + 1 :=
  codeOf_some hk rfl (fun j hj => h.inj j k (by omega) hk (by omega))

/-- coded at a sentinel and its number: true. -/
theorem coded_es (k : Nat) (hk : k < 12) (es : Nat → Addr) (w : World) (hE : E12 w es) :
    Calls Tryz.prog 12 #[.iface 236 (.pointer (some (es k))), .int .i64 ((k : Int) + 1)] w fun e w' => e = .returned (.bool true) ∧ Below w.heap.size w w' := by
  obtain ⟨c, t, hr⟩ := hE.rows k hk
  have := coded_ptr ((k : Int) + 1) (es k) es c t w hE hr
  rwa [codeOf_es hE k hk, show decide ((k : Int) + 1 = (k : Int) + 1) = true from decide_eq_true rfl] at this
theorem coded_none (w : World) : Calls Tryz.prog 12 #[.nilIface, .int .i64 0] w fun e w' => e = .returned (.bool true) ∧ Below w.heap.size w w' :=
  (coded_nil 0 w).mono fun _ _ ⟨he, hw⟩ => ⟨he, hw ▸ Below.refl _ _⟩

/-- The errors, by their numbers. -/
def erOf (es : Nat → Addr) : Nat → Value
  | 0 => .nilIface
  | k + 1 => .iface 236 (.pointer (some (es k)))

theorem coded_er (c : Nat) (hc : c = 0 ∨ ∃ k, k < 12 ∧ c = k + 1) (es : Nat → Addr) (w : World) (hE : E12 w es) :
    Calls Tryz.prog 12 #[erOf es c, .int .i64 (c : Int)] w fun e w' => e = .returned (.bool true) ∧ Below w.heap.size w w' := by
  rcases hc with rfl | ⟨k, hk, rfl⟩
  · exact coded_none w
  · exact coded_es k hk es w hE
end Go.Proofs.YtigcogfjclohjaaGreatDoor
/- The law ActRuns: LongTexts, OwnTexts. -/
namespace Go.Proofs.YtigcogfjclohjaaGreatDoor
open Go.RowKit Go.Shelf Go.Lib

set_option maxRecDepth 100000 in
set_option maxHeartbeats 4000000 in
theorem LongTexts_calls {w : World} (v : Value) (ls : List (List UInt8)) (hrow : IRow w v ls) :
    Calls Tryz.prog 32 #[v, .int .i64 12, .int .i64 3000] w fun e w' => ∃ r : Int, e = .returned (.int .i64 r) ∧ w' = w ∧ (r = 1 ∨ (r = 0 ∧ ls.length ≤ 12 ∧ ∀ x ∈ ls, x.length ≤ 3000)) := by
  obtain ⟨p, cap, rfl, hin⟩ := hrow
  have HI := hid1 hin
  clear hin
  by_cases h12 : ls.length ≤ 12
  · have z12 : (ls.length : Int) ≤ 12 := by omega
    go_enter Tryz.func32, Tryz.ntmps32
    go_wp2
    go_loopw [7, 8] (fun n i wr => ∃ k m : Nat, k ≤ ls.length ∧ m ≤ 3000 ∧ n = .int .i64 m ∧ i = .int .i64 k ∧ (∀ j (hj : j < ls.length), j < k → ls[j].length ≤ 3000) ∧ w = wr) (fun _ i _ => ls.length - (intOf i).toNat)
    case atStart => exact ⟨0, 0, Nat.zero_le _, Nat.zero_le _, rfl, rfl, fun j hj h => by omega, rfl⟩
    case round =>
      obtain ⟨k, m, hk, hm, rfl, rfl, hall, rfl⟩ := hrel
      have HA := hid1 hall
      clear hall
      have c0 : (0 : Int) ≤ (k : Int) := by omega
      have zm : (m : Int) ≤ 3000 := by omega
      have q8 : IntKind.i64.wrap (k : Int) = (k : Int) := by rw [IntKind.wrap_i64]; omega
      by_cases hlt : k < ls.length
      · have c1 : (k : Int) < (ls.length : Int) := by omega
        obtain ⟨g, o, rfl, hg, hcur⟩ := HI.out (by intro e; rw [e] at hlt; simp at hlt)
        have hcell := hcur k hlt
        have HS : Hid (ls[k].length ≤ 3000 → ∀ j (hj : j < ls.length), j < k + 1 → ls[j].length ≤ 3000) := by
          refine hid1 fun h j hj hjk => ?_
          by_cases e : j = k
          · subst e; exact h
          · exact HA.out j hj (by omega)
        clear hcur HI HA
        generalize ls[k] = y at *
        by_cases hy : y.length ≤ 3000
        · have zy : (y.length : Int) ≤ 3000 := by omega
          have HN := hid1 (HS.out hy)
          clear HS
          have q7 : IntKind.i64.wrap ((m : Int) + (y.length : Int)) = ((m + y.length : Nat) : Int) := by rw [IntKind.wrap_i64]; omega
          by_cases hs : m + y.length ≤ 3000
          · have zs : ((m + y.length : Nat) : Int) ≤ 3000 := by omega
            generalize hmy : m + y.length = m1 at *
            clear hmy
            go_wp2
            exact ⟨⟨k + 1, m1, by omega, hs, rfl, by go_num, HN.out, trivial⟩, by simp [intOf]; omega⟩
          · have zs : (3000 : Int) < ((m + y.length : Nat) : Int) := by omega
            generalize hmy : m + y.length = m1 at *
            clear hmy
            go_wp2
            go_ret
            exact ⟨1, rfl, rfl, .inl rfl⟩
        · have zy : (3000 : Int) < (y.length : Int) := by omega
          clear HS
          go_wp2
          go_ret
          exact ⟨1, rfl, rfl, .inl rfl⟩
      · obtain rfl : k = ls.length := by omega
        have c1 : ¬ (ls.length : Int) < (ls.length : Int) := by omega
        have HF : Hid (∀ x ∈ ls, x.length ≤ 3000) := by
          refine hid1 fun x hx => ?_
          obtain ⟨j, hj, rfl⟩ := List.getElem_of_mem hx
          exact HA.out j hj hj
        clear HI HA
        go_wp2
        go_ret
        exact ⟨0, rfl, rfl, .inr ⟨rfl, HF.out⟩⟩
  · have z12 : (12 : Int) < (ls.length : Int) := by omega
    go_enter Tryz.func32, Tryz.ntmps32
    go_wp2
    go_ret
    exact ⟨1, rfl, rfl, .inl rfl⟩

set_option maxRecDepth 100000 in
set_option maxHeartbeats 4000000 in
theorem OwnTexts_nil (w : World) :
    Calls Tryz.prog 33 #[.slice none 0 0] w fun e w' => ∃ v', e = .returned v' ∧ TRow w' v' [] ∧ Below w.heap.size w w' := by
  obtain ⟨i0, hi, hz0, hz1, hz2⟩ := info_parts Tryz.infoStr
  have n1 : World.ownsRow w w.heap.size 9 1 (.slice none 0 0) 0 [] := World.ownsRow_nil _ _ _ _
  go_enter Tryz.func33, Tryz.ntmps33
  go_wp2_with (first
    | (at_builtin; refine wpList_append_own_none rfl _ _ 41 rfl w.heap.size 9 i0 1 Tryz.underlying41 hi _ _ _ rfl n1 rfl ?_)
    | go_in)
  go_ret
  exact ⟨_, rfl, TRow.of_owns (l := []) n1, Below.refl _ _⟩

set_option maxRecDepth 100000 in
set_option maxHeartbeats 4000000 in
theorem OwnTexts_some (w : World) (a : Addr) (cap : Nat) (ls : List (List UInt8)) (hn : ls.length ≤ 12) (hsrc : ∀ j u, (ls.map sv)[j]? = some u → w.cell? (a.add j) = some u) :
    Calls Tryz.prog 33 #[.slice (some a) ls.length cap] w fun e w' => ∃ v', e = .returned v' ∧ TRow w' v' ls ∧ Below w.heap.size w w' := by
  obtain ⟨i0, hi, hz0, hz1, hz2⟩ := info_parts Tryz.infoStr
  have n1 : World.ownsRow w w.heap.size 9 1 (.slice none 0 0) 0 [] := World.ownsRow_nil _ _ _ _
  go_enter Tryz.func33, Tryz.ntmps33
  go_wp2_with (first
    | (at_builtin; refine wpList_append_own _ rfl _ _ 41 rfl w.heap.size 9 i0 (.string ⟨#[]⟩) 1 16 Tryz.underlying41 hi hz0 hz1 hz2 rfl (by decide) _ _ _ rfl n1 a ls.length cap (ls.map sv) rfl (by simp) hsrc one_sv (by unfold maxLen; omega) (by omega) (Nat.le_refl _) ?_; intro v1 w1 hown1 hgrow1 _; have b1 := lay_b1 n1 hgrow1; clear hsrc n1 hgrow1)
    | go_in)
  go_ret
  exact ⟨_, rfl, TRow.of_owns hown1, b1⟩

theorem OwnTexts_calls {w : World} (v : Value) (ls : List (List UInt8)) (hrow : IRow w v ls) (hv : v = .slice none 0 0 ∨ ∃ a n cap, v = .slice (some a) n cap) (h12 : ls.length ≤ 12) :
    Calls Tryz.prog 33 #[v] w fun e w' => ∃ v', e = .returned v' ∧ TRow w' v' ls ∧ Below w.heap.size w w' := by
  obtain ⟨p, cap, rfl, hin⟩ := hrow
  rcases hv with e | ⟨a, n, c, e⟩
  · obtain ⟨rfl, e2, rfl⟩ : p = none ∧ ls.length = 0 ∧ cap = 0 := by simpa using e
    obtain rfl := List.length_eq_zero_iff.1 e2
    exact OwnTexts_nil w
  · obtain ⟨rfl, rfl, rfl⟩ : p = some a ∧ ls.length = n ∧ cap = c := by simpa using e
    refine OwnTexts_some w a cap ls h12 fun j u hj => ?_
    have hjl : j < ls.length := by simpa using (List.getElem?_eq_some_iff.1 hj).1
    obtain ⟨g, o, e1, hg, hcur⟩ := hin (by intro e; rw [e] at hjl; simp at hjl)
    obtain rfl := Option.some.inj e1
    rw [List.getElem?_map, List.getElem?_eq_getElem hjl] at hj
    simp only [Option.map_some, Option.some.injEq] at hj
    rw [← hj, add_at2]
    exact hcur j hjl
end Go.Proofs.YtigcogfjclohjaaGreatDoor
/- The law ActRuns: the walk. -/
namespace Go.Proofs.YtigcogfjclohjaaGreatDoor
open Go.RowKit Go.Shelf Go.Lib

theorem E12.ae {w : World} {es : Nat → Addr} (h : E12 w es) (hm : ∃ m, w.cell? ⟨14, 0, none⟩ = some (.int .i64 m)) (hP : Pow w) (hS : SynAt w) (hb : 20 < w.heap.size) : AE w (erOf es) :=
  ⟨⟨hm, hP, h.c2, h.c9, hb⟩, hS, h.c4, fun _ => ⟨_, _, rfl⟩, rfl⟩
theorem AE.stays {w W : World} {er : Nat → Value} (h : AE w er) (hb : Below w.heap.size w W) : AE W er := by
  have h0 := h.aw.big
  exact ⟨h.aw.stays hb, h.syn.below hb, (cell_below2 hb (by omega)).trans h.kind, h.iface, h.zero⟩
theorem actE_le (nm wd : List UInt8) (n : Int) : Af.actE nm wd n = 0 ∨ ∃ k, k < 12 ∧ Af.actE nm wd n = k + 1 := by
  unfold Af.actE
  split
  · exact .inr ⟨4, by omega, rfl⟩
  · split
    · exact .inr ⟨2, by omega, rfl⟩
    · split
      · exact .inr ⟨9, by omega, rfl⟩
      · exact .inl rfl
theorem actO_le (nm wd : List UInt8) (ls : List (List UInt8)) : (Af.actO nm wd ls).2 = 0 ∨ ∃ k, k < 12 ∧ (Af.actO nm wd ls).2 = k + 1 := by
  unfold Af.actO
  split
  · split
    · split
      · exact .inr ⟨9, by omega, rfl⟩
      · exact .inl rfl
    · exact .inr ⟨4, by omega, rfl⟩
  · exact actE_le nm wd _

set_option maxRecDepth 100000 in
set_option maxHeartbeats 4000000 in
theorem ActRuns_calls (nm wd : List UInt8) (v : Value) (ls : List (List UInt8)) (w : World) (es : Nat → Addr) (hE : E12 w es) (hA : AE w (erOf es)) (hrow : IRow w v ls) (hv : v = .slice none 0 0 ∨ ∃ a n cap, v = .slice (some a) n cap) :
    Calls Tryz.prog 8 #[.string (ba nm), .string (ba wd), v] w fun e w' => e = .returned (.bool true) ∧ Below w.heap.size w w' := by
  have HT := hid1 (acted_calls hA.aw)
  by_cases h60 : 60 < nm.length
  · have z : (60 : Int) < (nm.length : Int) := by omega
    clear hE hA
    go_enter Tryz.func8, Tryz.ntmps8
    go_wp2_with fail
    refine HT.out.mono ?_
    rintro e w1 ⟨rfl, g1⟩
    go_wp2
    go_ret
    exact ⟨rfl, g1⟩
  have z60 : (nm.length : Int) ≤ 60 := by omega
  by_cases h150 : 150 < wd.length
  · have z : (150 : Int) < (wd.length : Int) := by omega
    clear hE hA
    go_enter Tryz.func8, Tryz.ntmps8
    go_wp2_with fail
    refine HT.out.mono ?_
    rintro e w1 ⟨rfl, g1⟩
    go_wp2
    go_ret
    exact ⟨rfl, g1⟩
  have z150 : (wd.length : Int) ≤ 150 := by omega
  have HL := hid1 fun W (hW : Below w.heap.size w W) => LongTexts_calls v ls (hrow.below hW)
  have HO := hid1 fun W (hW : Below w.heap.size w W) (h12 : ls.length ≤ 12) => OwnTexts_calls v ls (hrow.below hW) hv h12
  have HR := hid1 fun W (hW : Below w.heap.size w W) u (hu : TRow W u ls) (hx : ∀ x ∈ ls, x.length ≤ 3000) => Run_any (hA.stays hW) nm wd (by omega) u ls hu hx
  have HF := hid1 fun W (hW : Below w.heap.size w W) (hx : ∀ x ∈ ls, x.length ≤ 3000) => ActOf_calls nm wd (by omega) v ls (hrow.below hW) hx
  have HK := hid1 fun W (hW : Below w.heap.size w W) => Check_any (hA.stays hW) nm wd ls.length (by omega)
  have HE := hid1 fun W => ActError_calls nm wd ls.length (by omega) W
  have HC1 := hid1 fun W (hW : Below w.heap.size w W) => coded_er _ (actE_le nm wd ls.length) es W (hE.below hW)
  have HC2 := hid1 fun W (hW : Below w.heap.size w W) => coded_er _ (actO_le nm wd ls) es W (hE.below hW)
  obtain ⟨t, c, hO⟩ : ∃ t c, Af.actO nm wd ls = (t, c) := ⟨_, _, rfl⟩
  rw [hO] at HR HF HC2
  simp only at HR HF HC2
  generalize Af.actE nm wd ls.length = c' at *
  generalize erOf es c = ev at *
  generalize erOf es c' = ev' at *
  generalize (c : Int) = ci at *
  generalize (c' : Int) = ci' at *
  obtain ⟨p, cap, rfl, _⟩ := hrow
  clear hE hA hO hv
  go_enter Tryz.func8, Tryz.ntmps8
  go_wp2_with fail
  refine HT.out.mono ?_
  rintro e w1 ⟨rfl, g1⟩
  go_wp2_with fail
  refine (HL.out w1 g1).mono ?_
  rintro e w1' ⟨r, rfl, rfl, rfl | ⟨rfl, h12, hx⟩⟩
  · go_wp2
    go_ret
    exact ⟨rfl, g1⟩
  · go_wp2_with fail
    refine (HO.out _ g1 h12).mono ?_
    rintro e w2 ⟨u, rfl, hu, g2'⟩
    have g2 := g1.trans (g2'.mono g1.size)
    have HR2 := HR.out _ g2 u hu hx
    have HF2 := hid1 fun W hW => HF.out W hW hx
    clear HO HL HT hx hu HF HR
    go_wp2_with fail
    refine HR2.mono ?_
    rintro e w3 ⟨rfl, g3'⟩
    have g3 := g2.trans (g3'.mono g2.size)
    go_wp2_with fail
    refine (HF2.out _ g3).mono ?_
    rintro e w4 ⟨rfl, g4'⟩
    have g4 := g3.trans (g4'.mono g3.size)
    go_wp2_with fail
    refine (HK.out _ g4).mono ?_
    rintro e w5 ⟨rfl, g5'⟩
    have g5 := g4.trans (g5'.mono g4.size)
    go_wp2_with fail
    refine (HE.out _).mono ?_
    rintro e w6 ⟨rfl, g6'⟩
    have g6 := g5.trans (g6'.mono g5.size)
    go_wp2_with fail
    refine (HC1.out _ g6).mono ?_
    rintro e w7 ⟨rfl, g7'⟩
    have g7 := g6.trans (g7'.mono g6.size)
    go_wp2_with fail
    refine (HC2.out _ g7).mono ?_
    rintro e w8 ⟨rfl, g8'⟩
    have g8 := g7.trans (g8'.mono g7.size)
    go_wp2
    go_ret
    exact ⟨rfl, g8⟩
end Go.Proofs.YtigcogfjclohjaaGreatDoor
