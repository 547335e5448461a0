import Derived.Test.YtmhipgompplkdaaGreatDoorWL07
import Derived.Test.YtmhipgompplkdaaGreatDoorWL08
import Derived.Test.YtmhipgompplkdaaGreatDoorWL11
import Derived.Lib.IndexLaws
import Derived.Test.YtmhipgompplkdaaGreatDoorWL15
import Derived.Deep.RegionHeld3
import Derived.Lib.ConvBytes
import Derived.Laws.BytesArg
import Derived.Lib.Replace
namespace Go.Proofs.YtmhipgompplkdaaGreatDoor
open Go.RowKit Go.Shelf Go.Lib Go.Maps
def SynAt (w : World) : Prop := ∃ ev, w.cell? ⟨15, 0, none⟩ = some ev ∧ (ev = .nilIface ∨ ∃ te pe, ev = .iface te pe)
theorem SynAt.below {w w' : World} (h : SynAt w) (hb : Below w.heap.size w w') : SynAt w' := by
  obtain ⟨ev, h1, h2⟩ := h
  exact ⟨ev, cell_below' h1 hb, h2⟩
def numM (k : Nat) (d : List UInt8) : Option Nat :=
  if k < d.length then none else match Lib.atoi d with
    | some n => if 0 ≤ n ∧ Lib.itoa n = d then some n.toNat else none
    | none => none
theorem numM_some {k : Nat} {d : List UInt8} {n : Nat} (h : numM k d = some n) : d.length ≤ k ∧ Lib.atoi d = some (n : Int) ∧ Lib.decDigits n = d := by
  unfold numM at h
  split at h
  · cases h
  rename_i h4
  split at h
  · rename_i z hz
    split at h
    · rename_i hc
      obtain ⟨h0, h1⟩ := hc
      have e : z = (n : Int) := by
        have := Option.some.inj h
        omega
      subst e
      rw [Lib.itoa_nonneg] at h1
      exact ⟨by omega, hz, h1⟩
    · cases h
  · cases h
theorem atoi_small {d : List UInt8} {z : Int} (h : Lib.atoi d = some z) (h4 : d.length ≤ 4) : -100000 ≤ z ∧ z ≤ 100000 := by
  obtain ⟨b0, r, rfl, hc⟩ := Lib.atoi_cases h
  have key : ∀ (l : List UInt8) (m : Nat), l.length ≤ 4 → Lib.decFrom 0 l = some m → m < 100000 := fun l m hl hm => by
    have h1 := Lib.decFrom_lt l 0 m hm
    have h2 : 10 ^ l.length ≤ 10 ^ 4 := Nat.pow_le_pow_right (by omega) hl
    omega
  have hr : r.length ≤ 4 := by simp at h4; omega
  rcases hc with ⟨_, m, _, hm, rfl⟩ | ⟨_, m, _, hm, rfl⟩ | ⟨_, _, m, hm, rfl⟩
  · have := key _ m hr hm; omega
  · have := key _ m hr hm; omega
  · have := key _ m h4 hm; omega
set_option maxRecDepth 100000 in
theorem nRead_yes (k : Nat) (hk : k ≤ 4) (d : List UInt8) (n : Nat) (h : numM k d = some n) (hn : n ≤ 1000000) (w : World) (hP : Pow w) :
    Calls Tryz.prog 186 #[.string (ba d), .int .i64 k] w fun e w' => e = .returned (.tuple #[.int .i64 n, .bool true]) ∧ Below w.heap.size w w' := by
  obtain ⟨h4, ha, hd⟩ := numM_some h
  have HA : Hid (Calls Tryz.prog 262 #[.string (ba d)] w fun e w' => e = .returned (.tuple #[.int .i64 n, .nilIface]) ∧ Below w.heap.size w w') :=
    (Tryz.strconv_Atoi (ba d) (n : Int) (by rw [ba_size]; omega) ha w).mono fun e w' ⟨h1, t, h2⟩ => ⟨h1, h2 ▸ Go.Joins.below_bytesWorld _ w 5 t (Nat.le_refl _)⟩
  have HI : Hid (∀ W, Below w.heap.size w W → Calls Tryz.prog 86 #[.int .i64 n] W fun e w' => e = .returned (.string (ba d)) ∧ Below W.heap.size W w') := fun W hW => by
    refine (Tryz.strconv_Itoa (n : Int) (by omega) (by omega) W (pow_below hP hW)).mono ?_
    rintro e w' ⟨rfl, k, os, rfl⟩
    rw [Lib.itoa_nonneg, hd]
    exact ⟨rfl, below_grow W k os⟩
  have z4 : (d.length : Int) ≤ (k : Int) := by omega
  have z0 : (0 : Int) ≤ (n : Int) := by omega
  clear h ha hd h4 hP
  go_enter Tryz.func186, Tryz.ntmps186
  go_wp2_with fail
  refine HA.out.mono ?_
  rintro e w1 ⟨rfl, g1⟩
  go_wp2_with fail
  refine (HI.out w1 g1).mono ?_
  rintro e w2 ⟨rfl, g2⟩
  go_wp2
  go_ret2
  exact ⟨by first | rfl | simp, g1.trans (g2.mono g1.size)⟩
set_option maxRecDepth 100000 in
theorem nRead_no (k : Nat) (hk : k ≤ 4) (d : List UInt8) (h : numM k d = none) (hd : d.length ≤ 1000000) (w : World) (hP : Pow w) (hS : SynAt w) :
    Calls Tryz.prog 186 #[.string (ba d), .int .i64 k] w fun e w' => e = .returned (.tuple #[.int .i64 0, .bool false]) ∧ Below w.heap.size w w' := by
  by_cases h4 : k < d.length
  · have z4 : (k : Int) < (d.length : Int) := by omega
    have zd : (d.length : Int) ≤ 1000000 := by omega
    clear h hP hS
    go_enter Tryz.func186, Tryz.ntmps186
    go_wp2
    go_ret2
    exact ⟨rfl, Below.refl _ _⟩
  have z4 : (d.length : Int) ≤ (k : Int) := by omega
  cases ha : Lib.atoi d with
  | none =>
    obtain ⟨ev, hv, hev⟩ := hS
    have HA : Hid (Calls Tryz.prog 262 #[.string (ba d)] w fun e w' => (∃ t v, e = .returned (.tuple #[.int .i64 0, .iface t v])) ∧ Below w.heap.size w w') :=
      (Tryz.strconv_Atoi_err (ba d) (by rw [ba_size]; omega) ha ev w hv hev).mono fun e w' ⟨N, h1, _, _, h2⟩ => ⟨⟨_, _, h1⟩, h2⟩
    clear h hP ha hv hev h4
    go_enter Tryz.func186, Tryz.ntmps186
    go_wp2_with fail
    refine HA.out.mono ?_
    rintro e w1 ⟨⟨t, v, rfl⟩, g1⟩
    go_wp2
    go_ret2
    exact ⟨rfl, g1⟩
  | some z =>
    obtain ⟨hz0, hz1⟩ := atoi_small ha (by omega)
    have HA : Hid (Calls Tryz.prog 262 #[.string (ba d)] w fun e w' => e = .returned (.tuple #[.int .i64 z, .nilIface]) ∧ Below w.heap.size w w') :=
      (Tryz.strconv_Atoi (ba d) z (by rw [ba_size]; omega) ha w).mono fun e w' ⟨h1, t, h2⟩ => ⟨h1, h2 ▸ Go.Joins.below_bytesWorld _ w 5 t (Nat.le_refl _)⟩
    by_cases hz : 0 ≤ z
    · have hne : (Lib.itoa z == d) = false := by
        unfold numM at h
        rw [if_neg h4, ha] at h
        simp only at h
        split at h
        · cases h
        · rename_i hc
          simp
          exact fun e => hc ⟨hz, e⟩
      have HI : Hid (∀ W, Below w.heap.size w W → Calls Tryz.prog 86 #[.int .i64 z] W fun e w' => e = .returned (.string (ba (Lib.itoa z))) ∧ Below W.heap.size W w') := fun W hW => by
        refine (Tryz.strconv_Itoa z (by omega) (by omega) W (pow_below hP hW)).mono ?_
        rintro e w' ⟨rfl, k, os, rfl⟩
        exact ⟨rfl, below_grow W k os⟩
      generalize Lib.itoa z = y at *
      clear h ha h4 hP hS
      go_enter Tryz.func186, Tryz.ntmps186
      go_wp2_with fail
      refine HA.out.mono ?_
      rintro e w1 ⟨rfl, g1⟩
      go_wp2_with fail
      refine (HI.out w1 g1).mono ?_
      rintro e w2 ⟨rfl, g2⟩
      go_wp2
      go_ret2
      exact ⟨rfl, g1.trans (g2.mono g1.size)⟩
    · have hz' : z < 0 := by omega
      clear h ha h4 hP hS hz
      go_enter Tryz.func186, Tryz.ntmps186
      go_wp2_with fail
      refine HA.out.mono ?_
      rintro e w1 ⟨rfl, g1⟩
      go_wp2
      go_ret2
      exact ⟨rfl, g1⟩
end Go.Proofs.YtmhipgompplkdaaGreatDoor
namespace Go.Proofs.YtmhipgompplkdaaGreatDoor
open Go.RowKit Go.Shelf Go.Lib
open Go.Sort (grow Holds putRow)
set_option maxRecDepth 100000 in
set_option maxHeartbeats 4000000 in
theorem ofOne_calls (word out : ByteArray) (x : List UInt8) (f b g n cap : Nat) (w : World) (hb : w.cell? ⟨b, 0, none⟩ = some (fn f)) (hx : w.cell? ⟨g, 0, none⟩ = some (.string (ba x))) (hbl : b < w.heap.size) (hgl : g < w.heap.size) (hn : 1 ≤ n)
    (ef : ∀ args w, (callFunc f args).run Tryz.prog w = .ok (.enter f args) w)
    (HF : Hid (∀ W, Below w.heap.size w W → Calls Tryz.prog f #[.string word, .string (ba x)] W fun e w' => e = .returned (.string out) ∧ Below W.heap.size W w')) :
    Calls Tryz.prog 277 #[.string word, .slice (some ⟨g, 0, none⟩) n cap, .pointer (some ⟨b, 0, none⟩)] w fun e w' => e = .returned (.string out) ∧ Below w.heap.size w w' := by
  have n0 : 0 < n := hn
  go_enter Tryz.func277, Tryz.ntmps277
  go_wp2
  go_region_held3 (fun w' => w'.cell? ⟨b, 0, none⟩ = some (fn f) ∧ w'.cell? ⟨g, 0, none⟩ = some (.string (ba x))) (first | go_keep | fail)
    (first | (go_at_fn f; refine Calls.mono (HF.out _ (by exact (Below.refl _ w).drew)) ?_; rintro e w3 ⟨rfl, g3⟩; have e2 := (cell_below2 g3 (j := 0) hbl).trans hb; have e3 := (cell_below2 g3 (j := 0) hgl).trans hx))
  all_goals
    go_wp2
    go_ret
    exact ⟨rfl, below_then (below_draws (Below.refl _ w) 1) g3⟩
theorem num_many (wd : List UInt8) : wd.length ≤ 1000000 → ∀ (w : World), Pow w → SynAt w → Calls Tryz.prog 186 #[.string (ba wd), .int .i64 3] w fun e w' => (∃ x : Int, e = .returned (.tuple #[.int .i64 x, .bool (numM 3 wd).isSome])) ∧ Below w.heap.size w w' := fun hl w hP hS => by
  cases h : numM 3 wd with
  | none => exact (nRead_no 3 (by omega) wd h hl w hP hS).mono fun e w' ⟨h1, h2⟩ => ⟨⟨0, h1⟩, h2⟩
  | some n =>
    obtain ⟨h4, ha, _⟩ := numM_some h
    have := atoi_small ha (by omega)
    exact (nRead_yes 3 (by omega) wd n h (by omega) w hP).mono fun e w' ⟨h1, h2⟩ => ⟨⟨n, h1⟩, h2⟩
set_option maxHeartbeats 2000000 in
theorem isMany_calls (wd : List UInt8) (hl : wd.length ≤ 1000000) (w : World) (hP : Pow w) (hS : SynAt w) :
    Calls Tryz.prog 218 #[.string (ba wd)] w fun e w' => e = .returned (.bool (numM 3 wd).isSome) ∧ Below w.heap.size w w' := by
  have HA := hid1 (num_many wd hl w hP hS)
  generalize (numM 3 wd).isSome = r at *
  clear hP hS
  go_enter Tryz.func218, Tryz.ntmps218
  go_wp2_with fail
  refine Calls.mono HA.out ?_
  rintro e w1 ⟨⟨x, rfl⟩, g1⟩
  go_wp2
  go_ret
  exact ⟨rfl, g1⟩
set_option maxRecDepth 100000 in
set_option maxHeartbeats 4000000 in
theorem head_calls (wd s : List UInt8) (n : Nat) (hn : numM 3 wd = some n) (hs : s.length ≤ 100000) (m : Int) (w : World) (hm : w.cell? ⟨14, 0, none⟩ = some (.int .i64 m)) (hP : Pow w) :
    Calls Tryz.prog 219 #[.string (ba wd), .string (ba s)] w fun e w' => e = .returned (.string (ba (Af.told ((Af.lines s).take n)))) ∧ Below w.heap.size w w' := by
  obtain ⟨h4, ha, _⟩ := numM_some hn
  have hn1 := atoi_small ha (by omega)
  have HA := hid1 (nRead_yes 3 (by omega) wd n hn (by omega) w hP)
  have HL := hid1 (fun W hW => linesOf_calls s (by omega) m W (cell_below' (w' := W) hm hW))
  have hlen : (Af.told ((Af.lines s).take n)).length ≤ 100000000 := by
    have h1 := told_take_len (l := Af.lines s) n
    have h2 := (Af.told_lines_len s).2
    omega
  have hll := Af.lines_len s
  generalize Af.lines s = L at *
  have HT := hid1 (fun (v : Value) (W : World) (h : CRow W v (L.take n)) => told_calls v (L.take n) W h hlen)
  have hlt : (L.take n).length = min n L.length := by simp
  generalize Af.told (L.take n) = out at *
  clear hn hm hP ha
  go_enter Tryz.func219, Tryz.ntmps219
  go_wp2_with fail
  refine Calls.mono HA.out ?_
  rintro e w1 ⟨rfl, g1⟩
  have HL1 := HL.out w1 g1
  go_wp2_with fail
  refine Calls.mono HL1 ?_
  rintro e w2 ⟨v, rfl, ⟨g, cap, cur, rfl, hg0, hcap, hblk, hcur⟩, g2⟩
  have G2 := g1.trans (g2.mono g1.size)
  have hC : CRow w2 (.slice (some ⟨g, 0, none⟩) (min n L.length) cap) (L.take n) := ⟨_, cap, by rw [hlt], fun k hk => ⟨g, rfl, (Array.getElem?_eq_some_iff.1 hblk).1, by
    have hk' : k < L.length := by rw [hlt] at hk; omega
    have := cell_of_row hblk (hcur k hk')
    rw [List.getElem_take]
    exact this⟩⟩
  have HT2 := HT.out _ w2 hC
  clear HL1 HL HT hC hcur hlt
  have zn : (n : Int) ≤ 100000 := by omega
  have zl : (L.length : Int) ≤ 100000 := by omega
  have zc : (L.length : Int) ≤ (cap : Int) := by omega
  have hmin : min (n : Int) (L.length : Int) = ((min n L.length : Nat) : Int) := by omega
  have zm : ((min n L.length : Nat) : Int) ≤ (cap : Int) := by omega
  have zm2 : min n L.length ≤ cap := by omega
  have zm3 : (0 : Int) ≤ ((min n L.length : Nat) : Int) := by omega
  go_wp2_with fail
  refine Calls.mono HT2 ?_
  rintro e w3 ⟨rfl, g3⟩
  go_wp2
  go_ret
  exact ⟨rfl, G2.trans (g3.mono G2.size)⟩
end Go.Proofs.YtmhipgompplkdaaGreatDoor
namespace Go.Proofs.YtmhipgompplkdaaGreatDoor
open Go.RowKit Go.Shelf Go.Lib
def Af.up (c : UInt8) : UInt8 := if 97 ≤ c.toNat ∧ c.toNat ≤ 122 then UInt8.ofNat (c.toNat - 32) else c
def Af.upper (s : List UInt8) : List UInt8 := s.map Af.up
theorem wrap8 {n : Int} (h0 : 0 ≤ n) (h1 : n ≤ 255) : IntKind.u8.wrap n = n := by
  have e : IntKind.u8.wrap n = n % 256 := by
    simp [IntKind.wrap, IntKind.bits, IntKind.signed]
  rw [e]
  omega
theorem strOfNums_ba (l : List UInt8) : strOfNums (l.map fun c => (c.toNat : Int)) = ba l := by
  refine ba_eq ?_
  rw [strOfNums_data, List.map_map]
  conv => rhs; rw [← List.map_id l]
  exact List.map_congr_left fun c _ => by simp
set_option maxRecDepth 100000 in
set_option maxHeartbeats 4000000 in
theorem upper_calls (s : List UInt8) (hs : s.length ≤ 100000) (w : World) :
    Calls Tryz.prog 211 #[.string (ba s)] w fun e w' => e = .returned (.string (ba (Af.upper s))) ∧ Below w.heap.size w w' := by
  have hconv := Lib.run_convert_string_bytes (P := Tryz.prog) w 9 141 5 (ba s) Tryz.underlying9 Tryz.underlying141 Tryz.underlying5
  have hB : Below w.heap.size w (Lib.bytesWorld w 5 (ba s)) := Go.Joins.below_bytesWorld _ w 5 (ba s) (Nat.le_refl _)
  have hc : ∀ j (hj : j < s.length), (Lib.bytesWorld w 5 (ba s)).cell? ⟨w.heap.size, j, none⟩ = some (.int .u8 (s[j].toNat : Int)) := fun j hj => by
    rw [Lib.bytesWorld_cell _ _ _ _ (by rw [ba_size]; exact hj)]
    have : (ba s).data.toList.getD j 0 = s[j] := by
      show s.getD j 0 = s[j]
      simp [hj]
    rw [this]
  have hf : ∀ j, j < s.length → (Lib.bytesWorld w 5 (ba s)).frozen? ⟨w.heap.size, j, none⟩ = false := fun j hj => by
    have hsz : s.length ≤ (Lib.bytesCells w 5 (ba s)).size := by
      have := ba_size s
      simp [Lib.bytesCells, ByteArray.size] at this ⊢
    simp [World.frozen?, Lib.bytesWorld_at_new]
    omega
  have hsz : ((ba s).size : Int) = (s.length : Int) := by rw [ba_size]
  rw [ba_size] at hconv
  generalize grownCap w s.length 0 5 = cap at *
  generalize Lib.bytesWorld w 5 (ba s) = W1 at *
  have zs : (s.length : Int) ≤ 100000 := by omega
  go_enter Tryz.func211, Tryz.ntmps211
  go_wp2
  go_loopw [10] (fun i wr => ∃ k : Nat, k ≤ s.length ∧ i = .int .i64 k ∧ (∀ j (hj : j < s.length), wr.cell? ⟨w.heap.size, j, none⟩ = some (.int .u8 ((if j < k then Af.up s[j] else s[j]).toNat : Int))) ∧ (∀ j, j < s.length → wr.frozen? ⟨w.heap.size, j, none⟩ = false) ∧ Below w.heap.size w wr) (fun i _ => s.length - (intOf i).toNat)
  case atStart => exact ⟨0, Nat.zero_le _, rfl, fun j hj => by simpa using hc j hj, hf, hB⟩
  case round =>
    obtain ⟨k, hk, rfl, hck, hfk, hBk⟩ := hrel
    by_cases hlt : k < s.length
    · have c1 : (k : Int) < (s.length : Int) := by omega
      have c0 : (0 : Int) ≤ (k : Int) := by omega
      have hcell := hck k hlt
      rw [if_neg (Nat.lt_irrefl k)] at hcell
      have hfr := hfk k hlt
      have HU : Hid (Af.up s[k] = (if 97 ≤ s[k].toNat ∧ s[k].toNat ≤ 122 then UInt8.ofNat (s[k].toNat - 32) else s[k])) := rfl
      have hck' := hid1 hck
      clear hck
      have key : ∀ (W : World), (∀ j (hj : j < s.length), j ≠ k → W.cell? ⟨w.heap.size, j, none⟩ = wr.cell? ⟨w.heap.size, j, none⟩) → W.cell? ⟨w.heap.size, k, none⟩ = some (.int .u8 ((Af.up s[k]).toNat : Int)) →
          ∀ j (hj : j < s.length), W.cell? ⟨w.heap.size, j, none⟩ = some (.int .u8 ((if j < k + 1 then Af.up s[j] else s[j]).toNat : Int)) := fun W h1 h2 j hj => by
        by_cases e : j = k
        · subst e
          rw [if_pos (by omega)]
          exact h2
        · rw [h1 j hj e, hck'.out j hj]
          by_cases h3 : j < k
          · rw [if_pos h3, if_pos (by omega)]
          · rw [if_neg h3, if_neg (by omega)]
      have hkey := hid1 key
      clear key
      generalize hx : s[k] = x at *
      have x0 : (0 : Int) ≤ (x.toNat : Int) := by omega
      have x1 : (x.toNat : Int) ≤ 255 := by have := x.toNat_lt; omega
      by_cases hlo : 97 ≤ x.toNat
      · have d1 : decide ((97 : Int) ≤ (x.toNat : Int)) = true := decide_eq_true (by omega)
        by_cases hhi : x.toNat ≤ 122
        · have d2 : decide ((x.toNat : Int) ≤ 122) = true := decide_eq_true (by omega)
          have y1 : IntKind.u8.wrap ((x.toNat : Int) - 97) = (x.toNat : Int) - 97 := wrap8 (by omega) (by omega)
          have y2 : IntKind.u8.wrap ((x.toNat : Int) - 97 + 65) = (x.toNat : Int) - 97 + 65 := wrap8 (by omega) (by omega)
          have hup : ((Af.up x).toNat : Int) = (x.toNat : Int) - 97 + 65 := by
            rw [HU.out, if_pos ⟨hlo, hhi⟩]
            simp
            omega
          have hne : ∀ j, j < s.length → j ≠ k → (wr.setCell ⟨w.heap.size, k, none⟩ (.int .u8 ((x.toNat : Int) - 97 + 65))).cell? ⟨w.heap.size, j, none⟩ = wr.cell? ⟨w.heap.size, j, none⟩ := fun j _ hj => World.cell?_setCell_other _ _ _ _ (fun e => hj (by cases e; rfl))
          have hsm : (wr.setCell ⟨w.heap.size, k, none⟩ (.int .u8 ((x.toNat : Int) - 97 + 65))).cell? ⟨w.heap.size, k, none⟩ = some (.int .u8 ((Af.up x).toNat : Int)) := by
            rw [hup]
            exact World.cell?_setCell_same' _ _ _ (by rw [hcell]; rfl)
          have hall := hid1 (hkey.out _ hne hsm)
          clear hne hsm hkey hck' hup
          go_wp2
          refine ⟨⟨k + 1, by omega, by go_num, hall.out, fun j hj => ?_, hBk.setCell (p := ⟨w.heap.size, k, none⟩) (Nat.le_refl _) _⟩, by simp [intOf]; omega⟩
          rw [World.frozen?_setCell]
          exact hfk j hj
        · have d2 : decide ((x.toNat : Int) ≤ 122) = false := decide_eq_false (by omega)
          have hall := hid1 (hkey.out wr (fun _ _ _ => rfl) (by rw [HU.out, if_neg (by omega)]; exact hcell))
          clear hkey hck'
          go_wp2
          go_roundw
          case rel => exact ⟨k + 1, by omega, by go_num, hall.out, hfk, hBk⟩
          case measure => simp [intOf]; omega
      · have d1 : decide ((97 : Int) ≤ (x.toNat : Int)) = false := decide_eq_false (by omega)
        have hall := hid1 (hkey.out wr (fun _ _ _ => rfl) (by rw [HU.out, if_neg (by omega)]; exact hcell))
        clear hkey hck'
        go_wp2
        go_roundw
        case rel => exact ⟨k + 1, by omega, by go_num, hall.out, hfk, hBk⟩
        case measure => simp [intOf]; omega
    · have c1 : (s.length : Int) ≤ (k : Int) := by omega
      have hback := run_convert_bytes_arg (P := Tryz.prog) wr 141 5 Tryz.underlying141 Tryz.underlying5 w.heap.size 0 s.length cap ((Af.upper s).map fun c => (c.toNat : Int)) (by simp [Af.upper]) (fun i hi => by
        rw [Nat.zero_add, hck i hi, if_pos (by omega)]
        simp [Af.upper, hi]) 9 Tryz.underlying9
      rw [strOfNums_ba] at hback
      clear hck hfk
      go_wp2
      go_ret
      exact ⟨rfl, hBk⟩
end Go.Proofs.YtmhipgompplkdaaGreatDoor
namespace Go.Proofs.YtmhipgompplkdaaGreatDoor
open Go.RowKit Go.Shelf Go.Lib
def Af.isSwap (wd : List UInt8) : Bool := (Lib.cut wd [61]).2.2 && !(Lib.cut wd [61]).1.isEmpty && !(Lib.contains (Lib.cut wd [61]).2.1 [61])
def Af.swap (wd s : List UInt8) : List UInt8 := Lib.replaceAll s (Lib.cut wd [61]).1 (Lib.cut wd [61]).2.1
theorem cut_lens (s sep : List UInt8) : (Lib.cut s sep).1.length ≤ s.length ∧ (Lib.cut s sep).2.1.length ≤ s.length := by
  unfold Lib.cut
  split <;> simp <;> omega
set_option maxRecDepth 100000 in
set_option maxHeartbeats 4000000 in
theorem isSwap_calls (wd : List UInt8) (hl : wd.length ≤ 1000000) (m : Int) (w : World) (hm : w.cell? ⟨14, 0, none⟩ = some (.int .i64 m)) :
    Calls Tryz.prog 216 #[.string (ba wd)] w fun e w' => e = .returned (.bool (Af.isSwap wd)) ∧ Below w.heap.size w w' := by
  have HC := hid1 (strCutG wd [61] m w hl hm)
  have hle := cut_lens wd [61]
  have HQ : Hid (Af.isSwap wd = ((Lib.cut wd [61]).2.2 && !(Lib.cut wd [61]).1.isEmpty && !(Lib.contains (Lib.cut wd [61]).2.1 [61]))) := rfl
  generalize Af.isSwap wd = r at *
  generalize (Lib.cut wd [61]).1 = a at *
  generalize (Lib.cut wd [61]).2.1 = b at *
  generalize (Lib.cut wd [61]).2.2 = ok at *
  have HB : Hid (∀ q, Calls Tryz.prog 282 #[.string (ba b), .string ⟨#[61]⟩] (w.drewN q) fun e w' => e = .returned (.bool (Lib.contains b [61])) ∧ w' = w.drewN q) := fun q => Tryz.strings_Contains (ba b) (ba [61]) m (w.drewN q) (by rw [ba_size]; omega) hm
  generalize Lib.contains b [61] = cb at *
  clear hm
  cases ok with
  | false =>
    go_enter Tryz.func216, Tryz.ntmps216
    go_wp2_with fail
    refine Calls.mono HC.out ?_
    rintro e w1 ⟨rfl, q, rfl⟩
    go_wp2
    go_ret
    exact ⟨ret_bool (by rw [HQ.out]; rfl), below_draws (Below.refl _ w) q⟩
  | true =>
    by_cases ha : a = []
    · subst ha
      go_enter Tryz.func216, Tryz.ntmps216
      go_wp2_with fail
      refine Calls.mono HC.out ?_
      rintro e w1 ⟨rfl, q, rfl⟩
      go_wp2
      go_ret
      exact ⟨ret_bool (by rw [HQ.out]; rfl), below_draws (Below.refl _ w) q⟩
    · have d1 : a.isEmpty = false := empty_not ha
      go_enter Tryz.func216, Tryz.ntmps216
      go_wp2_with fail
      refine Calls.mono HC.out ?_
      rintro e w1 ⟨rfl, q, rfl⟩
      have HB1 := HB.out q
      go_wp2_with fail
      refine Calls.mono HB1 ?_
      rintro e w2 ⟨rfl, rfl⟩
      go_wp2
      go_ret
      exact ⟨ret_bool (by rw [HQ.out, d1]; cases cb <;> rfl), below_draws (Below.refl _ w) q⟩
set_option maxRecDepth 100000 in
set_option maxHeartbeats 4000000 in
theorem swap_calls (wd s : List UInt8) (hl : wd.length ≤ 100) (hs : s.length ≤ 10000) (ha : 1 ≤ (Lib.cut wd [61]).1.length) (m : Int) (w : World) (hm : w.cell? ⟨14, 0, none⟩ = some (.int .i64 m)) :
    Calls Tryz.prog 217 #[.string (ba wd), .string (ba s)] w fun e w' => e = .returned (.string (ba (Af.swap wd s))) ∧ Below w.heap.size w w' := by
  have HC := hid1 (strCutG wd [61] m w (by omega) hm)
  have hle := cut_lens wd [61]
  have HQ : Hid (Af.swap wd s = Lib.replaceAll s (Lib.cut wd [61]).1 (Lib.cut wd [61]).2.1) := rfl
  generalize Af.swap wd s = out at *
  generalize (Lib.cut wd [61]).1 = a at *
  generalize (Lib.cut wd [61]).2.1 = b at *
  generalize (Lib.cut wd [61]).2.2 = ok at *
  have HR : Hid (∀ q, Calls Tryz.prog 284 #[.string (ba s), .string (ba a), .string (ba b)] (w.drewN q) fun e w' => e = .returned (.string (ba out)) ∧ Below (w.drewN q).heap.size (w.drewN q) w') := fun q => by
    have hcount : Lib.countB (ba s) (ba a) ≤ s.length + 1 := Lib.count_le s a
    have := Tryz.strings_ReplaceAll (ba s) (ba a) (ba b) m (w.drewN q) (by rw [ba_size]; omega) hm (by rw [ba_size]; exact ha) (by
      rw [ba_size, ba_size]
      have h1 : Lib.countB (ba s) (ba a) * b.length ≤ (s.length + 1) * 100 := Nat.mul_le_mul hcount (by omega)
      omega)
    refine this.mono ?_
    rintro e w' ⟨rfl, g⟩
    refine ⟨?_, g⟩
    rw [HQ.out]
  clear hm
  go_enter Tryz.func217, Tryz.ntmps217
  go_wp2_with fail
  refine Calls.mono HC.out ?_
  rintro e w1 ⟨rfl, q, rfl⟩
  have HR1 := HR.out q
  go_wp2_with fail
  refine Calls.mono HR1 ?_
  rintro e w2 ⟨rfl, g2⟩
  go_wp2
  go_ret
  exact ⟨rfl, below_then (below_draws (Below.refl _ w) q) g2⟩
end Go.Proofs.YtmhipgompplkdaaGreatDoor
