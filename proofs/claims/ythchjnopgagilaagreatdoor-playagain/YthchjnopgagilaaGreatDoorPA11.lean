import Derived.Test.YthchjnopgagilaaGreatDoorPA10
import Derived.Deep.RegionHeld3
import Derived.Lib.ConvBytes
import Derived.Laws.BytesArg
import Derived.Lib.Replace
import Derived.Shelf.GgClosure.Gives
set_option maxRecDepth 100000
set_option maxHeartbeats 4000000
namespace Go.Proofs.YthchjnopgagilaaGreatDoor
open Go.RowKit Go.Shelf Go.Lib
open Go.Sort (grow Holds putRow)
theorem ofOne_calls (word out : ByteArray) (x : List UInt8) (f b g n cap : Nat) (w : World) (hb : w.cell? ⟨b,0,none⟩ = some (fn f)) (hx : w.cell? ⟨g,0,none⟩ = some (.string (ba x))) (hbl : b < w.heap.size) (hgl : g < w.heap.size) (hn : 1 ≤ n)
  (ef : ∀ args w,(callFunc f args).run Tryz.prog w = .ok (.enter f args) w)
  (HF : Hid (∀ W,Below w.heap.size w W → Calls Tryz.prog f #[.string word,.string (ba x)] W fun e w' => e = .returned (.string out) ∧ Below W.heap.size W w')) :
  Calls Tryz.prog 317 #[.string word,.slice (some ⟨g,0,none⟩) n cap,.pointer (some ⟨b,0,none⟩)] w fun e w' => e = .returned (.string out) ∧ Below w.heap.size w w' := by
 have n0 : 0 < n := hn
 go_enter Tryz.func317,Tryz.ntmps317
 go_wp2
 go_region_held3 (fun w' => w'.cell? ⟨b,0,none⟩ = some (fn f) ∧ w'.cell? ⟨g,0,none⟩ = some (.string (ba x))) (first | go_keep | fail)
  (first | (go_at_fn f;refine Calls.mono (HF.out _ (by exact (Below.refl _ w).drew)) ?_;rintro e w3 ⟨rfl,g3⟩;have e2 := (cell_below2 g3 (j := 0) hbl).trans hb;have e3 := (cell_below2 g3 (j := 0) hgl).trans hx))
 all_goals
  go_wp2
  go_ret
  exact ⟨rfl,below_then (below_draws (Below.refl _ w) 1) g3⟩
theorem num_many (wd : List UInt8) : wd.length ≤ 1000000 → ∀ (w : World),Pow w → SynAt w → Calls Tryz.prog 223 #[.string (ba wd),.int .i64 3] w fun e w' => (∃ x : Int,e = .returned (.tuple #[.int .i64 x,.bool (numM 3 wd).isSome])) ∧ Below w.heap.size w w' := fun hl w hP hS => by
 cases h : numM 3 wd with
 | none => exact (nRead_no 3 (by omega) wd h hl w hP hS).mono fun e w' ⟨h1,h2⟩ => ⟨⟨0,h1⟩,h2⟩
 | some n =>
  obtain ⟨h4,ha,_⟩ := numM_some h
  have := atoi_small ha (by omega)
  exact (nRead_yes 3 (by omega) wd n h (by omega) w hP).mono fun e w' ⟨h1,h2⟩ => ⟨⟨n,h1⟩,h2⟩
theorem isMany_calls (wd : List UInt8) (hl : wd.length ≤ 1000000) (w : World) (hP : Pow w) (hS : SynAt w) :
  Calls Tryz.prog 254 #[.string (ba wd)] w fun e w' => e = .returned (.bool (numM 3 wd).isSome) ∧ Below w.heap.size w w' := by
 have HA := hid1 (num_many wd hl w hP hS)
 generalize (numM 3 wd).isSome = r at *
 clear hP hS
 go_enter Tryz.func254,Tryz.ntmps254
 go_wp2_with fail
 refine Calls.mono HA.out ?_
 rintro e w1 ⟨⟨x,rfl⟩,g1⟩
 go_wp2
 go_ret
 exact ⟨rfl,g1⟩
theorem head_calls (wd s : List UInt8) (n : Nat) (hn : numM 3 wd = some n) (hs : s.length ≤ 100000) (m : Int) (w : World) (hm : w.cell? ⟨14,0,none⟩ = some (.int .i64 m)) (hP : Pow w) :
  Calls Tryz.prog 255 #[.string (ba wd),.string (ba s)] w fun e w' => e = .returned (.string (ba (Af.told ((Af.lines s).take n)))) ∧ Below w.heap.size w w' := by
 obtain ⟨h4,ha,_⟩ := numM_some hn
 have hn1 := atoi_small ha (by omega)
 have HA := hid1 (nRead_yes 3 (by omega) wd n hn (by omega) w hP)
 have HL := hid1 (fun W hW => linesOf_calls s (by omega) m W (cell_below' (w' := W) hm hW))
 have hlen : (Af.told ((Af.lines s).take n)).length ≤ 100000000 := by
  have h1 := told_take_len (l := Af.lines s) n
  have h2 := (Af.told_lines_len s).2
  omega
 have hll := Af.lines_len s
 generalize Af.lines s = L at *
 have HT := hid1 (fun (v : Value) (W : World) (h : CRow W v (L.take n)) => told_calls v (L.take n) W h hlen)
 have hlt : (L.take n).length = min n L.length := by simp
 generalize Af.told (L.take n) = out at *
 clear hn hm hP ha
 go_enter Tryz.func255,Tryz.ntmps255
 go_wp2_with fail
 refine Calls.mono HA.out ?_
 rintro e w1 ⟨rfl,g1⟩
 have HL1 := HL.out w1 g1
 go_wp2_with fail
 refine Calls.mono HL1 ?_
 rintro e w2 ⟨v,rfl,⟨g,cap,cur,rfl,hg0,hcap,hblk,hcur⟩,g2⟩
 have G2 := g1.trans (g2.mono g1.size)
 have hC : CRow w2 (.slice (some ⟨g,0,none⟩) (min n L.length) cap) (L.take n) := ⟨_,cap,by rw [hlt],fun k hk => ⟨g,rfl,(Array.getElem?_eq_some_iff.1 hblk).1,by
  have hk' : k < L.length := by rw [hlt] at hk;omega
  have := cell_of_row hblk (hcur k hk')
  rw [List.getElem_take]
  exact this⟩⟩
 have HT2 := HT.out _ w2 hC
 clear HL1 HL HT hC hcur hlt
 have zn : (n : Int) ≤ 100000 := by omega
 have zl : (L.length : Int) ≤ 100000 := by omega
 have zc : (L.length : Int) ≤ (cap : Int) := by omega
 have hmin : min (n : Int) (L.length : Int) = ((min n L.length : Nat) : Int) := by omega
 have zm : ((min n L.length : Nat) : Int) ≤ (cap : Int) := by omega
 have zm2 : min n L.length ≤ cap := by omega
 have zm3 : (0 : Int) ≤ ((min n L.length : Nat) : Int) := by omega
 go_wp2_with fail
 refine Calls.mono HT2 ?_
 rintro e w3 ⟨rfl,g3⟩
 go_wp2
 go_ret
 exact ⟨rfl,G2.trans (g3.mono G2.size)⟩
end Go.Proofs.YthchjnopgagilaaGreatDoor
namespace Go.Proofs.YthchjnopgagilaaGreatDoor
open Go.RowKit Go.Shelf Go.Lib
def Af.up (c : UInt8) : UInt8 := if 97 ≤ c.toNat ∧ c.toNat ≤ 122 then UInt8.ofNat (c.toNat - 32) else c
def Af.upper (s : List UInt8) : List UInt8 := s.map Af.up
theorem wrap8 {n : Int} (h0 : 0 ≤ n) (h1 : n ≤ 255) : IntKind.u8.wrap n = n := by
 have e : IntKind.u8.wrap n = n % 256 := by
  simp [IntKind.wrap,IntKind.bits,IntKind.signed]
 rw [e]
 omega
theorem strOfNums_ba (l : List UInt8) : strOfNums (l.map fun c => (c.toNat : Int)) = ba l := by
 refine ba_eq ?_
 rw [strOfNums_data,List.map_map]
 conv => rhs;rw [← List.map_id l]
 exact List.map_congr_left fun c _ => by simp
theorem upper_calls (s : List UInt8) (hs : s.length ≤ 100000) (w : World) :
  Calls Tryz.prog 247 #[.string (ba s)] w fun e w' => e = .returned (.string (ba (Af.upper s))) ∧ Below w.heap.size w w' := by
 have hconv := Lib.run_convert_string_bytes (P := Tryz.prog) w 9 161 5 (ba s) Tryz.underlying9 Tryz.underlying161 Tryz.underlying5
 have hB : Below w.heap.size w (Lib.bytesWorld w 5 (ba s)) := Go.Joins.below_bytesWorld _ w 5 (ba s) (Nat.le_refl _)
 have hc : ∀ j (hj : j < s.length),(Lib.bytesWorld w 5 (ba s)).cell? ⟨w.heap.size,j,none⟩ = some (.int .u8 (s[j].toNat : Int)) := fun j hj => by
  rw [Lib.bytesWorld_cell _ _ _ _ (by rw [ba_size];exact hj)]
  have : (ba s).data.toList.getD j 0 = s[j] := by
   show s.getD j 0 = s[j]
   simp [hj]
  rw [this]
 have hf : ∀ j,j < s.length → (Lib.bytesWorld w 5 (ba s)).frozen? ⟨w.heap.size,j,none⟩ = false := fun j hj => by
  have hsz : s.length ≤ (Lib.bytesCells w 5 (ba s)).size := by
   have := ba_size s
   simp [Lib.bytesCells,ByteArray.size] at this ⊢
  simp [World.frozen?,Lib.bytesWorld_at_new]
  omega
 have hsz : ((ba s).size : Int) = (s.length : Int) := by rw [ba_size]
 rw [ba_size] at hconv
 generalize grownCap w s.length 0 5 = cap at *
 generalize Lib.bytesWorld w 5 (ba s) = W1 at *
 have zs : (s.length : Int) ≤ 100000 := by omega
 go_enter Tryz.func247,Tryz.ntmps247
 go_wp2
 go_loopw [10] (fun i wr => ∃ k : Nat,k ≤ s.length ∧ i = .int .i64 k ∧ (∀ j (hj : j < s.length),wr.cell? ⟨w.heap.size,j,none⟩ = some (.int .u8 ((if j < k then Af.up s[j] else s[j]).toNat : Int))) ∧ (∀ j,j < s.length → wr.frozen? ⟨w.heap.size,j,none⟩ = false) ∧ Below w.heap.size w wr) (fun i _ => s.length - (intOf i).toNat)
 case atStart => exact ⟨0,Nat.zero_le _,rfl,fun j hj => by simpa using hc j hj,hf,hB⟩
 case round =>
  obtain ⟨k,hk,rfl,hck,hfk,hBk⟩ := hrel
  by_cases hlt : k < s.length
  ·have c1 : (k : Int) < (s.length : Int) := by omega
   have c0 : (0 : Int) ≤ (k : Int) := by omega
   have hcell := hck k hlt
   rw [if_neg (Nat.lt_irrefl k)] at hcell
   have hfr := hfk k hlt
   have HU : Hid (Af.up s[k] = (if 97 ≤ s[k].toNat ∧ s[k].toNat ≤ 122 then UInt8.ofNat (s[k].toNat - 32) else s[k])) := rfl
   have hck' := hid1 hck
   clear hck
   have key : ∀ (W : World),(∀ j (hj : j < s.length),j ≠ k → W.cell? ⟨w.heap.size,j,none⟩ = wr.cell? ⟨w.heap.size,j,none⟩) → W.cell? ⟨w.heap.size,k,none⟩ = some (.int .u8 ((Af.up s[k]).toNat : Int)) →
     ∀ j (hj : j < s.length),W.cell? ⟨w.heap.size,j,none⟩ = some (.int .u8 ((if j < k + 1 then Af.up s[j] else s[j]).toNat : Int)) := fun W h1 h2 j hj => by
    by_cases e : j = k
    ·subst e
     rw [if_pos (by omega)]
     exact h2
    ·rw [h1 j hj e,hck'.out j hj]
     by_cases h3 : j < k
     ·rw [if_pos h3,if_pos (by omega)]
     ·rw [if_neg h3,if_neg (by omega)]
   have hkey := hid1 key
   clear key
   generalize hx : s[k] = x at *
   have x0 : (0 : Int) ≤ (x.toNat : Int) := by omega
   have x1 : (x.toNat : Int) ≤ 255 := by have := x.toNat_lt;omega
   by_cases hlo : 97 ≤ x.toNat
   ·have d1 : decide ((97 : Int) ≤ (x.toNat : Int)) = true := decide_eq_true (by omega)
    by_cases hhi : x.toNat ≤ 122
    ·have d2 : decide ((x.toNat : Int) ≤ 122) = true := decide_eq_true (by omega)
     have y1 : IntKind.u8.wrap ((x.toNat : Int) - 97) = (x.toNat : Int) - 97 := wrap8 (by omega) (by omega)
     have y2 : IntKind.u8.wrap ((x.toNat : Int) - 97 + 65) = (x.toNat : Int) - 97 + 65 := wrap8 (by omega) (by omega)
     have hup : ((Af.up x).toNat : Int) = (x.toNat : Int) - 97 + 65 := by
      rw [HU.out,if_pos ⟨hlo,hhi⟩]
      simp
      omega
     have hne : ∀ j,j < s.length → j ≠ k → (wr.setCell ⟨w.heap.size,k,none⟩ (.int .u8 ((x.toNat : Int) - 97 + 65))).cell? ⟨w.heap.size,j,none⟩ = wr.cell? ⟨w.heap.size,j,none⟩ := fun j _ hj => World.cell?_setCell_other _ _ _ _ (fun e => hj (by cases e;rfl))
     have hsm : (wr.setCell ⟨w.heap.size,k,none⟩ (.int .u8 ((x.toNat : Int) - 97 + 65))).cell? ⟨w.heap.size,k,none⟩ = some (.int .u8 ((Af.up x).toNat : Int)) := by
      rw [hup]
      exact World.cell?_setCell_same' _ _ _ (by rw [hcell];rfl)
     have hall := hid1 (hkey.out _ hne hsm)
     clear hne hsm hkey hck' hup
     go_wp2
     refine ⟨⟨k + 1,by omega,by go_num,hall.out,fun j hj => ?_,hBk.setCell (p := ⟨w.heap.size,k,none⟩) (Nat.le_refl _) _⟩,by simp [intOf];omega⟩
     rw [World.frozen?_setCell]
     exact hfk j hj
    ·have d2 : decide ((x.toNat : Int) ≤ 122) = false := decide_eq_false (by omega)
     have hall := hid1 (hkey.out wr (fun _ _ _ => rfl) (by rw [HU.out,if_neg (by omega)];exact hcell))
     clear hkey hck'
     go_wp2
     go_roundw
     case rel => exact ⟨k + 1,by omega,by go_num,hall.out,hfk,hBk⟩
     case measure => simp [intOf];omega
   ·have d1 : decide ((97 : Int) ≤ (x.toNat : Int)) = false := decide_eq_false (by omega)
    have hall := hid1 (hkey.out wr (fun _ _ _ => rfl) (by rw [HU.out,if_neg (by omega)];exact hcell))
    clear hkey hck'
    go_wp2
    go_roundw
    case rel => exact ⟨k + 1,by omega,by go_num,hall.out,hfk,hBk⟩
    case measure => simp [intOf];omega
  ·have c1 : (s.length : Int) ≤ (k : Int) := by omega
   have hback := run_convert_bytes_arg (P := Tryz.prog) wr 161 5 Tryz.underlying161 Tryz.underlying5 w.heap.size 0 s.length cap ((Af.upper s).map fun c => (c.toNat : Int)) (by simp [Af.upper]) (fun i hi => by
    rw [Nat.zero_add,hck i hi,if_pos (by omega)]
    simp [Af.upper,hi]) 9 Tryz.underlying9
   rw [strOfNums_ba] at hback
   clear hck hfk
   go_wp2
   go_ret
   exact ⟨rfl,hBk⟩
end Go.Proofs.YthchjnopgagilaaGreatDoor
namespace Go.Proofs.YthchjnopgagilaaGreatDoor
open Go.RowKit Go.Shelf Go.Lib
def Af.isSwap (wd : List UInt8) : Bool := (Lib.cut wd [61]).2.2 && !(Lib.cut wd [61]).1.isEmpty && !(Lib.contains (Lib.cut wd [61]).2.1 [61])
def Af.swap (wd s : List UInt8) : List UInt8 := Lib.replaceAll s (Lib.cut wd [61]).1 (Lib.cut wd [61]).2.1
theorem cut_lens (s sep : List UInt8) : (Lib.cut s sep).1.length ≤ s.length ∧ (Lib.cut s sep).2.1.length ≤ s.length := by
 unfold Lib.cut
 split <;> simp <;> omega
theorem isSwap_calls (wd : List UInt8) (hl : wd.length ≤ 1000000) (m : Int) (w : World) (hm : w.cell? ⟨14,0,none⟩ = some (.int .i64 m)) :
  Calls Tryz.prog 252 #[.string (ba wd)] w fun e w' => e = .returned (.bool (Af.isSwap wd)) ∧ Below w.heap.size w w' := by
 have HC := hid1 (strCutG wd [61] m w hl hm)
 have hle := cut_lens wd [61]
 have HQ : Hid (Af.isSwap wd = ((Lib.cut wd [61]).2.2 && !(Lib.cut wd [61]).1.isEmpty && !(Lib.contains (Lib.cut wd [61]).2.1 [61]))) := rfl
 generalize Af.isSwap wd = r at *
 generalize (Lib.cut wd [61]).1 = a at *
 generalize (Lib.cut wd [61]).2.1 = b at *
 generalize (Lib.cut wd [61]).2.2 = ok at *
 have HB : Hid (∀ q,Calls Tryz.prog 322 #[.string (ba b),.string ⟨#[61]⟩] (w.drewN q) fun e w' => e = .returned (.bool (Lib.contains b [61])) ∧ w' = w.drewN q) := fun q => Tryz.strings_Contains (ba b) (ba [61]) m (w.drewN q) (by rw [ba_size];omega) hm
 generalize Lib.contains b [61] = cb at *
 clear hm
 cases ok with
 | false =>
  go_enter Tryz.func252,Tryz.ntmps252
  go_wp2_with fail
  refine Calls.mono HC.out ?_
  rintro e w1 ⟨rfl,q,rfl⟩
  go_wp2
  go_ret
  exact ⟨ret_bool (by rw [HQ.out];rfl),below_draws (Below.refl _ w) q⟩
 | true =>
  by_cases ha : a = []
  ·subst ha
   go_enter Tryz.func252,Tryz.ntmps252
   go_wp2_with fail
   refine Calls.mono HC.out ?_
   rintro e w1 ⟨rfl,q,rfl⟩
   go_wp2
   go_ret
   exact ⟨ret_bool (by rw [HQ.out];rfl),below_draws (Below.refl _ w) q⟩
  ·have d1 : a.isEmpty = false := empty_not ha
   go_enter Tryz.func252,Tryz.ntmps252
   go_wp2_with fail
   refine Calls.mono HC.out ?_
   rintro e w1 ⟨rfl,q,rfl⟩
   have HB1 := HB.out q
   go_wp2_with fail
   refine Calls.mono HB1 ?_
   rintro e w2 ⟨rfl,rfl⟩
   go_wp2
   go_ret
   exact ⟨ret_bool (by rw [HQ.out,d1];cases cb <;> rfl),below_draws (Below.refl _ w) q⟩
theorem swap_calls (wd s : List UInt8) (hl : wd.length ≤ 100) (hs : s.length ≤ 10000) (ha : 1 ≤ (Lib.cut wd [61]).1.length) (m : Int) (w : World) (hm : w.cell? ⟨14,0,none⟩ = some (.int .i64 m)) :
  Calls Tryz.prog 253 #[.string (ba wd),.string (ba s)] w fun e w' => e = .returned (.string (ba (Af.swap wd s))) ∧ Below w.heap.size w w' := by
 have HC := hid1 (strCutG wd [61] m w (by omega) hm)
 have hle := cut_lens wd [61]
 have HQ : Hid (Af.swap wd s = Lib.replaceAll s (Lib.cut wd [61]).1 (Lib.cut wd [61]).2.1) := rfl
 generalize Af.swap wd s = out at *
 generalize (Lib.cut wd [61]).1 = a at *
 generalize (Lib.cut wd [61]).2.1 = b at *
 generalize (Lib.cut wd [61]).2.2 = ok at *
 have HR : Hid (∀ q,Calls Tryz.prog 324 #[.string (ba s),.string (ba a),.string (ba b)] (w.drewN q) fun e w' => e = .returned (.string (ba out)) ∧ Below (w.drewN q).heap.size (w.drewN q) w') := fun q => by
  have hcount : Lib.countB (ba s) (ba a) ≤ s.length + 1 := Lib.count_le s a
  have := Tryz.strings_ReplaceAll (ba s) (ba a) (ba b) m (w.drewN q) (by rw [ba_size];omega) hm (by rw [ba_size];exact ha) (by
   rw [ba_size,ba_size]
   have h1 : Lib.countB (ba s) (ba a) * b.length ≤ (s.length + 1) * 100 := Nat.mul_le_mul hcount (by omega)
   omega)
  refine this.mono ?_
  rintro e w' ⟨rfl,g⟩
  refine ⟨?_,g⟩
  rw [HQ.out]
 clear hm
 go_enter Tryz.func253,Tryz.ntmps253
 go_wp2_with fail
 refine Calls.mono HC.out ?_
 rintro e w1 ⟨rfl,q,rfl⟩
 have HR1 := HR.out q
 go_wp2_with fail
 refine Calls.mono HR1 ?_
 rintro e w2 ⟨rfl,g2⟩
 go_wp2
 go_ret
 exact ⟨rfl,below_then (below_draws (Below.refl _ w) q) g2⟩
end Go.Proofs.YthchjnopgagilaaGreatDoor
namespace Go.Proofs.YthchjnopgagilaaGreatDoor
open Go.RowKit Go.Shelf Go.Lib
open Go.Sort (grow Holds putRow)
abbrev Short : Type := { l : List UInt8 // l.length ≤ 1000000 }
instance : Inhabited Short := ⟨⟨[],by simp⟩⟩
abbrev encS : Short → Value := fun x => Value.string (ba x.1)
theorem with_gives (wd : List UInt8) (x : Short) (b : Nat) (W : World) (m : Int) (hb : W.cell? ⟨b,0,none⟩ = some (.string (ba wd))) (hm : W.cell? ⟨14,0,none⟩ = some (.int .i64 m)) :
  FnGives Tryz.prog 321 #[.pointer (some ⟨b,0,none⟩)] #[encS x] (.bool (!(Lib.contains x.1 wd))) W := by
 obtain ⟨x,hx⟩ := x
 have HC : Hid (Calls Tryz.prog 322 #[.string (ba x),.string (ba wd)] W fun e w' => e = .returned (.bool (Lib.contains x wd)) ∧ w' = W) := Tryz.strings_Contains (ba x) (ba wd) m W (by rw [ba_size];omega) hm
 suffices goal : Calls Tryz.prog 321 #[.string (ba x),.pointer (some ⟨b,0,none⟩)] W fun e w' => e = .returned (.bool !(Lib.contains x wd)) ∧ w' = W from Calls.mono goal fun e w' ⟨h1,h2⟩ => ⟨h1,0,h2⟩
 generalize Lib.contains x wd = r at *
 clear hm
 go_enter Tryz.func321,Tryz.ntmps321
 go_wp2_with fail
 refine Calls.mono HC.out ?_
 rintro e w1 ⟨rfl,rfl⟩
 go_wp2
 go_ret
 exact ⟨rfl,rfl⟩
def shorts (L : List (List UInt8)) (h : ∀ x ∈ L,x.length ≤ 1000000) : List Short := L.attach.map fun x => ⟨x.1,h x.1 x.2⟩
theorem shorts_val (L : List (List UInt8)) (h : ∀ x ∈ L,x.length ≤ 1000000) : (shorts L h).map (·.1) = L := by
 unfold shorts
 rw [List.map_map]
 exact List.attach_map_subtype_val L
theorem shorts_len (L : List (List UInt8)) (h : ∀ x ∈ L,x.length ≤ 1000000) : (shorts L h).length = L.length := by
 rw [← congrArg List.length (shorts_val L h),List.length_map]
theorem shorts_at (L : List (List UInt8)) (h : ∀ x ∈ L,x.length ≤ 1000000) (j : Nat) (hj : j < L.length) : encS ((shorts L h).toArray[j]!) = .string (ba L[j]) := by
 have hj' : j < (shorts L h).length := by rw [shorts_len];exact hj
 have e : (shorts L h).toArray[j]! = (shorts L h)[j] := by simp [hj']
 rw [e]
 show Value.string (ba ((shorts L h)[j]).1) = _
 have : ((shorts L h)[j]).1 = L[j] := by
  have := congrArg (fun z => z[j]?) (shorts_val L h)
  simp only [List.getElem?_map,List.getElem?_eq_getElem hj',List.getElem?_eq_getElem hj,Option.map_some] at this
  exact Option.some.inj this
 rw [this]
theorem shorts_filter (L : List (List UInt8)) (h : ∀ x ∈ L,x.length ≤ 1000000) (p : List UInt8 → Bool) : ((shorts L h).filter fun x => p x.1).map (·.1) = L.filter p := by
 conv => rhs;rw [← shorts_val L h]
 rw [List.filter_map]
 rfl
def Af.withW (wd : List UInt8) (L : List (List UInt8)) : List (List UInt8) := L.filter fun x => Lib.contains x wd
theorem withW_len (wd : List UInt8) (L : List (List UInt8)) : (Af.told (Af.withW wd L)).length ≤ (Af.told L).length := by
 unfold Af.withW
 induction L with
 | nil => simp
 | cons x r ih =>
  rw [List.filter_cons]
  simp only [Af.told,List.flatMap_cons,List.length_append] at ih ⊢
  split
  ·simp only [List.flatMap_cons,List.length_append];omega
  ·omega
theorem delete_calls (wd : List UInt8) (L : List (List UInt8)) (hL : ∀ x ∈ L,x.length ≤ 1000000) (hl : L.length ≤ 1000000) (b g cap : Nat) (cur : Array Value) (W : World) (m : Int) (hb : W.cell? ⟨b,0,none⟩ = some (.string (ba wd))) (hm : W.cell? ⟨14,0,none⟩ = some (.int .i64 m))
  (hbg : b ≠ g) (hmg : 14 ≠ g) (hbl : b < W.heap.size) (hml : 14 < W.heap.size) (hcap : L.length ≤ cap) (hblk : W.heap[g]? = some (.cells cur 9 (0,0))) (hcur : ∀ j (hj : j < L.length),cur[j]? = some (.string (ba L[j]))) (B : Nat) (hB : B ≤ g) (hBw : B ≤ W.heap.size) :
  Calls Tryz.prog 319 #[.slice (some ⟨g,0,none⟩) L.length cap,.func (.func 321) #[] #[.pointer (some ⟨b,0,none⟩)]] W fun e w' => ∃ v,e = .returned v ∧ CRow w' v (Af.withW wd L) ∧ Below B W w' := by
 have hH : Holds encS W g 0 (shorts L hL).toArray := fun j hj => by
  have hj' : j < L.length := by simpa [shorts_len] using hj
  refine ⟨?_,by simp [World.frozen?,hblk]⟩
  rw [Nat.zero_add,cell_of_row hblk (hcur j hj'),shorts_at L hL j hj']
 have hgl : g < W.heap.size := (Array.getElem?_eq_some_iff.1 hblk).1
 have key := Tryz.slices_DeleteFunc encS (fun _ => rfl) (fun x => !(Lib.contains x.1 wd)) 321 #[.pointer (some ⟨b,0,none⟩)] (enters_of Tryz.func321 (by kernel_rfl) rfl) default (fun w => by kernel_rfl) g 0 cap (shorts L hL).toArray W
  (fun V x hV => with_gives wd x b V m ((cell_below2 hV hbl).trans hb) ((cell_below2 hV hml).trans hm))
  (fun n os dk x _ => by
   have o : ∀ k,k ≠ g → k < W.heap.size → (sortWorld encS W g 0 n dk os).cell? ⟨k,0,none⟩ = W.cell? ⟨k,0,none⟩ := fun k h1 h2 => by
    unfold sortWorld
    rw [Go.Sort.cell?_grow _ _ _ (by show k < (putRow _ _ _ _ _).heap.size;rw [Go.Sort.size_putRow];exact h2),Go.Sort.cell?_putRow_other _ _ g 0 _ _ (Or.inl h1)]
    rfl
   exact with_gives wd x b _ m ((o b hbg hbl).trans hb) ((o _ hmg hml).trans hm))
  hH (by simp [shorts_len];omega) (by simp [shorts_len];exact hcap)
 have e0 : (shorts L hL).toArray.size = L.length := by simp [shorts_len]
 rw [e0] at key
 refine Calls.mono key ?_
 rintro e w' ⟨rfl,q,rfl⟩
 have e1 : ((shorts L hL).toArray.toList.filter fun x => !(!(Lib.contains x.1 wd))) = (shorts L hL).filter fun x => Lib.contains x.1 wd := by simp
 rw [e1]
 have e2 : ((shorts L hL).filter fun x => Lib.contains x.1 wd).map (·.1) = Af.withW wd L := shorts_filter L hL fun x => Lib.contains x wd
 have hlen : ((shorts L hL).filter fun x => Lib.contains x.1 wd).length = (Af.withW wd L).length := by rw [← e2,List.length_map]
 have hle : (Af.withW wd L).length ≤ L.length := List.length_filter_le _ _
 have hp := Go.Sort.holds_putRow encS (Sort.ahead W q) g 0 (shorts L hL).toArray (((shorts L hL).filter fun x : Short => Lib.contains x.1 wd) ++ List.replicate (L.length - ((shorts L hL).filter fun x : Short => Lib.contains x.1 wd).length) default).toArray hH (by simp only [List.size_toArray,List.length_append,List.length_replicate,shorts_len];rw [hlen];omega)
 refine ⟨_,rfl,⟨some ⟨g,0,none⟩,cap,by rw [hlen],fun k hk => ⟨g,rfl,by rw [Go.Sort.size_putRow];exact hgl,?_⟩⟩,?_⟩
 ·have hk' : k < ((shorts L hL).filter fun x => Lib.contains x.1 wd).length := by rw [hlen];exact hk
  have p1 := (hp k (by simp;omega)).1
  rw [Nat.zero_add] at p1
  rw [p1]
  have e3 : (((shorts L hL).filter fun x : Short => Lib.contains x.1 wd) ++ List.replicate (L.length - ((shorts L hL).filter fun x : Short => Lib.contains x.1 wd).length) default).toArray[k]! = ((shorts L hL).filter fun x => Lib.contains x.1 wd)[k] := by
   simp [List.getElem?_append_left hk',hk']
  rw [e3]
  have e4 : (((shorts L hL).filter fun x => Lib.contains x.1 wd)[k]).1 = (Af.withW wd L)[k] := by
   have := congrArg (fun z => z[k]?) e2
   simp only [List.getElem?_map,List.getElem?_eq_getElem hk',List.getElem?_eq_getElem hk,Option.map_some] at this
   exact Option.some.inj this
  show some (Value.string (ba _)) = _
  rw [e4]
 ·refine (Below.refl B W).grown (row := some g) ⟨rfl,rfl,rfl,by rw [Go.Sort.size_putRow];exact Nat.le_refl _,fun k _ hk => ?_⟩ hBw (fun j hj => by cases hj;exact hB)
  have : g ≠ k := fun e => hk (by rw [e])
  simp [putRow,Go.Sort.mapBlock,Go.Sort.ahead,Array.getElem?_modify,this]
end Go.Proofs.YthchjnopgagilaaGreatDoor
namespace Go.Proofs.YthchjnopgagilaaGreatDoor
open Go.RowKit Go.Shelf Go.Lib
open Go.Sort (grow Holds putRow)
theorem linesWith_calls (wd s : List UInt8) (hs : s.length ≤ 100000) (m : Int) (w : World) (hm : w.cell? ⟨14,0,none⟩ = some (.int .i64 m)) (hbig : 20 < w.heap.size) :
  Calls Tryz.prog 248 #[.string (ba wd),.string (ba s)] w fun e w' => e = .returned (.string (ba (Af.told (Af.withW wd (Af.lines s))))) ∧ Below w.heap.size w w' := by
 have g0 : Below w.heap.size w (w.alloc (.cells #[.string (ba wd)] 9)) := (Below.refl _ w).alloc (Nat.le_refl _) _
 have hs0 : (w.alloc (.cells #[.string (ba wd)] 9)).heap.size = w.heap.size + 1 := by simp
 have c0 : (w.alloc (.cells #[.string (ba wd)] 9)).cell? ⟨w.heap.size,0,none⟩ = some (.string (ba wd)) := by
  rw [World.cell?_alloc_at _ _ _ _ rfl];rfl
 have m0 := cell_below' hm g0
 have HL := hid1 (linesOf_calls s (by omega) m _ m0)
 have hL : ∀ x ∈ Af.lines s,x.length ≤ 1000000 := fun x h => by have := Af.line_len h;omega
 have hll := Af.lines_len s
 have hlen : (Af.told (Af.withW wd (Af.lines s))).length ≤ 100000000 := by
  have h1 := withW_len wd (Af.lines s)
  have h2 := (Af.told_lines_len s).2
  omega
 generalize Af.lines s = L at *
 go_enter Tryz.func248,Tryz.ntmps248
 go_wp2_with fail
 refine Calls.mono HL.out ?_
 rintro e w2 ⟨v,rfl,⟨g,cap,cur,rfl,hg0,hcap,hblk,hcur⟩,g2⟩
 rw [hs0] at hg0 g2
 have G2 : Below w.heap.size w w2 := g0.trans (g2.mono (by omega))
 have hw2 : w.heap.size + 1 ≤ w2.heap.size := by have := g2.size;rw [hs0] at this;exact this
 have HD := hid1 (delete_calls wd L hL (by omega) w.heap.size g cap cur w2 m ((cell_below2 g2 (by omega)).trans c0) ((cell_below2 g2 (by omega)).trans m0) (by omega) (by omega) (by omega) (by omega) hcap hblk hcur w.heap.size (by omega) (by omega))
 clear HL c0 m0 hm g0
 go_wp2_with fail
 refine Calls.mono HD.out ?_
 rintro e w3 ⟨v3,rfl,hr,g3⟩
 have G3 := G2.trans g3
 have HT := hid1 (told_calls v3 _ w3 hr hlen)
 clear HD
 go_wp2_with fail
 refine Calls.mono HT.out ?_
 rintro e w4 ⟨rfl,g4⟩
 go_wp2
 go_ret
 exact ⟨rfl,G3.trans (g4.mono G3.size)⟩
theorem trow_one {w W : World} {pa : Option Addr} {n cap : Nat} {x : List UInt8} (h : TRow w (.slice pa n cap) [x]) (hW : Below w.heap.size w W) : ∃ g,pa = some ⟨g,0,none⟩ ∧ n = 1 ∧ W.cell? ⟨g,0,none⟩ = some (.string (ba x)) ∧ g < W.heap.size := by
 obtain ⟨p,c,e,h1,h2⟩ := h.below hW
 obtain ⟨g,cur,rfl,hg,hcur⟩ := h2 (by simp)
 simp only [Value.slice.injEq,List.length_cons,List.length_nil] at e
 exact ⟨g,e.1,e.2.1,cell_of_row hg (hcur 0 (by simp)),(Array.getElem?_eq_some_iff.1 hg).1⟩
end Go.Proofs.YthchjnopgagilaaGreatDoor
namespace Go.Proofs.YthchjnopgagilaaGreatDoor
open Go.RowKit Go.Shelf Go.Lib
open Go.Sort (grow Holds putRow)
inductive Af.Kd where
 | write | join | upper | lines | sort | count | swap | head
namespace Af
def Kd.name : Kd → List UInt8
 | .write => [119,114,105,116,101]
 | .join => [106,111,105,110]
 | .upper => [117,112,112,101,114]
 | .lines => [108,105,110,101,115]
 | .sort => [115,111,114,116]
 | .count => [99,111,117,110,116]
 | .swap => [115,119,97,112]
 | .head => [104,101,97,100]
def Kd.least : Kd → Nat
 | .write => 0
 | _ => 1
def Kd.most : Kd → Nat
 | .write => 0
 | .join => 8
 | .sort => 8
 | .count => 8
 | _ => 1
def Kd.takes (wd : List UInt8) : Kd → Bool
 | .upper => decide (wd ∈ [[]])
 | .count => decide (wd ∈ [[]])
 | .sort => decide (wd ∈ [[],oncew])
 | .swap => isSwap wd
 | .head => (numM 3 wd).isSome
 | _ => true
def Kd.out (wd : List UInt8) (ls : List (List UInt8)) : Kd → List UInt8
 | .write => wd
 | .join => Lib.join ls wd
 | .upper => Af.upper (ls.headD [])
 | .lines => told (withW wd (Af.lines (ls.headD [])))
 | .sort => sorted wd ls
 | .count => Af.count ls
 | .swap => Af.swap wd (ls.headD [])
 | .head => told ((Af.lines (ls.headD [])).take ((numM 3 wd).getD 0))
def kindOf (nm : List UInt8) : Option Kd :=
 if nm = Kd.write.name then some .write else if nm = Kd.join.name then some .join else if nm = Kd.upper.name then some .upper else if nm = Kd.lines.name then some .lines
 else if nm = Kd.sort.name then some .sort else if nm = Kd.count.name then some .count else if nm = Kd.swap.name then some .swap else if nm = Kd.head.name then some .head else none
theorem kindOf_name (k : Kd) : kindOf k.name = some k := by cases k <;> rfl
theorem kindOf_some {nm : List UInt8} {k : Kd} (h : kindOf nm = some k) : nm = k.name := by
 unfold kindOf at h
 repeat' split at h
 all_goals first | (cases h;assumption) | cases h
def actE (nm wd : List UInt8) (n : Int) : Nat :=
 match kindOf nm with
 | none => 5
 | some k => if n < k.least ∨ (k.most : Int) < n ∨ k.takes wd = false then 3 else if 100 < wd.length then 10 else 0
def tf : Kd → Nat
 | .write => 241
 | .join => 241
 | .lines => 241
 | .swap => 252
 | .head => 254
 | _ => 316
def tc (B : Nat) : Kd → Array Value
 | .upper => #[.pointer (some ⟨B + 1 + 1,0,none⟩)]
 | .sort => #[.pointer (some ⟨B + 1 + 5,0,none⟩)]
 | .count => #[.pointer (some ⟨B + 1 + 7,0,none⟩)]
 | _ => #[]
def rf : Kd → Nat
 | .write => 242
 | .join => 243
 | .sort => 249
 | .count => 250
 | _ => 317
def rc (B : Nat) : Kd → Array Value
 | .upper => #[.pointer (some ⟨B + 1 + 2,0,none⟩)]
 | .lines => #[.pointer (some ⟨B + 1 + 3,0,none⟩)]
 | .swap => #[.pointer (some ⟨B + 1 + 8,0,none⟩)]
 | .head => #[.pointer (some ⟨B + 1 + 9,0,none⟩)]
 | _ => #[]
def ix : Kd → Nat
 | .write => 0
 | .join => 1
 | .upper => 2
 | .lines => 3
 | .sort => 4
 | .count => 5
 | .swap => 6
 | .head => 7
end Af
open Af (Kd)
theorem found (k : Kd) (B : Nat) : Instr.findNow .string (.string (ba k.name)) (kindsE B) 0 = some (some (Af.ix k,kd k.least k.most (tfn (Af.tf k) (Af.tc B k)) (tfn (Af.rf k) (Af.rc B k)))) := by
 cases k <;> rfl
theorem same_no {nm key : List UInt8} (h : nm ≠ key) : Instr.sameNow .string (.string (ba nm)) (txtv key) = some false := by
 have e : (nm.toArray == key.toArray) = false := by simpa using h
 exact congrArg some e
theorem found_none {nm : List UInt8} (h : Af.kindOf nm = none) (B : Nat) : Instr.findNow .string (.string (ba nm)) (kindsE B) 0 = some none := by
 have hne : ∀ k : Kd,nm ≠ k.name := fun k e => by rw [e,Af.kindOf_name] at h;cases h
 have h1 := same_no (hne .write)
 have h2 := same_no (hne .join)
 have h3 := same_no (hne .upper)
 have h4 := same_no (hne .lines)
 have h5 := same_no (hne .sort)
 have h6 := same_no (hne .count)
 have h7 := same_no (hne .swap)
 have h8 := same_no (hne .head)
 simp only [Af.Kd.name] at h1 h2 h3 h4 h5 h6 h7 h8
 simp only [kindsE,Instr.findNow,h1,h2,h3,h4,h5,h6,h7,h8]
theorem tf_enters (k : Kd) : ∀ args w,(callFunc (Af.tf k) args).run Tryz.prog w = .ok (.enter (Af.tf k) args) w := by
 cases k
 ·exact enters_of Tryz.func241 (by kernel_rfl) rfl
 ·exact enters_of Tryz.func241 (by kernel_rfl) rfl
 ·exact enters_of Tryz.func316 (by kernel_rfl) rfl
 ·exact enters_of Tryz.func241 (by kernel_rfl) rfl
 ·exact enters_of Tryz.func316 (by kernel_rfl) rfl
 ·exact enters_of Tryz.func316 (by kernel_rfl) rfl
 ·exact enters_of Tryz.func252 (by kernel_rfl) rfl
 ·exact enters_of Tryz.func254 (by kernel_rfl) rfl
theorem rf_enters (k : Kd) : ∀ args w,(callFunc (Af.rf k) args).run Tryz.prog w = .ok (.enter (Af.rf k) args) w := by
 cases k
 ·exact enters_of Tryz.func242 (by kernel_rfl) rfl
 ·exact enters_of Tryz.func243 (by kernel_rfl) rfl
 ·exact enters_of Tryz.func317 (by kernel_rfl) rfl
 ·exact enters_of Tryz.func317 (by kernel_rfl) rfl
 ·exact enters_of Tryz.func249 (by kernel_rfl) rfl
 ·exact enters_of Tryz.func250 (by kernel_rfl) rfl
 ·exact enters_of Tryz.func317 (by kernel_rfl) rfl
 ·exact enters_of Tryz.func317 (by kernel_rfl) rfl
theorem takes_calls {w : World} {es el : Value} (hA : AW w es el) (hS : SynAt w) (wd : List UInt8) (hl : wd.length ≤ 1000000) (k : Kd) (W : World) (hW : Below w.heap.size w W) (hO : Objs W (w.heap.size + 1)) :
  Calls Tryz.prog (Af.tf k) (#[.string (ba wd)] ++ Af.tc (w.heap.size + 1) k) W fun e w' => e = .returned (.bool (k.takes wd)) ∧ Below W.heap.size W w' := by
 obtain ⟨m,hm⟩ := hA.len
 cases k
 ·exact anyWord_calls (ba wd) W
 ·exact anyWord_calls (ba wd) W
 ·exact none_takes 1 (.inl rfl) wd hO
 ·exact anyWord_calls (ba wd) W
 ·exact sort_takes wd hO
 ·exact none_takes 7 (.inr rfl) wd hO
 ·exact isSwap_calls wd hl m W (cell_below' hm hW)
 ·exact isMany_calls wd hl W (pow_below hA.pow hW) (hS.below hW)
theorem kupper_calls (word : ByteArray) (x : List UInt8) (hx : x.length ≤ 100000) (w : World) :
  Calls Tryz.prog 246 #[.string word,.string (ba x)] w fun e w' => e = .returned (.string (ba (Af.upper x))) ∧ Below w.heap.size w w' := by
 have HA := hid1 (upper_calls x hx w)
 go_enter Tryz.func246,Tryz.ntmps246
 go_wp2_with fail
 refine Calls.mono HA.out ?_
 rintro e w1 ⟨rfl,g1⟩
 go_wp2
 go_ret
 exact ⟨rfl,g1⟩
end Go.Proofs.YthchjnopgagilaaGreatDoor
namespace Go.Proofs.YthchjnopgagilaaGreatDoor
open Go.RowKit Go.Shelf Go.Lib
theorem occAt_far {s wd : List UInt8} {i : Nat} (h : s.length < i + wd.length) (hi : i ≤ s.length) : Lib.occAt s wd i = false := by
 cases ho : Lib.occAt s wd i with
 | false => rfl
 | true =>
  rcases Lib.occAt_room ho with h1 | h1
  ·omega
  ·subst h1
   simp at h
   omega
theorem has_calls (s wd : List UInt8) (i : Nat) (hs : s.length ≤ 1000000) (hw : wd.length ≤ 1000000) (hi : i ≤ s.length) (w : World) :
  Calls Tryz.prog 185 #[.string (ba s),.int .i64 i,.string (ba wd)] w fun e w' => e = .returned (.bool (Lib.occAt s wd i)) ∧ w' = w := by
 have z1 : (s.length : Int) ≤ 1000000 := by omega
 have z2 : (wd.length : Int) ≤ 1000000 := by omega
 have z3 : (i : Int) ≤ (s.length : Int) := by omega
 have z4 : (0 : Int) ≤ (i : Int) := by omega
 have z5 : (0 : Int) ≤ (wd.length : Int) := by omega
 by_cases hr : i + wd.length ≤ s.length
 ·have ho := Lib.occAt_iff_take s wd i hr
  have d1 : decide ((i : Int) + (wd.length : Int) ≤ (s.length : Int)) = true := decide_eq_true (by omega)
  have d2 : (i : Int) + (wd.length : Int) ≤ (s.length : Int) := by omega
  have d3 : (i : Int) ≤ (i : Int) + (wd.length : Int) := by omega
  have e1 : (ba s).extract i (i + wd.length) = ba ((s.drop i).take wd.length) := by
   have := (Txt.mk (bs := ba s) (s := s) rfl).extract i (i + wd.length)
   rw [this]
   congr 1
   rw [List.drop_take,Nat.add_sub_cancel_left]
  have HO := hid1 ho
  generalize Lib.occAt s wd i = r at *
  generalize (s.drop i).take wd.length = y at *
  clear ho
  go_enter Tryz.func185,Tryz.ntmps185
  go_wp2
  go_ret
  exact ⟨ret_bool HO.out.symm,rfl⟩
 ·have ho := occAt_far (s := s) (wd := wd) (i := i) (by omega) hi
  have d1 : decide ((i : Int) + (wd.length : Int) ≤ (s.length : Int)) = false := decide_eq_false (by omega)
  rw [ho]
  clear ho
  go_enter Tryz.func185,Tryz.ntmps185
  go_wp2
  go_ret
  exact ⟨rfl,rfl⟩
end Go.Proofs.YthchjnopgagilaaGreatDoor
namespace Go.Proofs.YthchjnopgagilaaGreatDoor
open Go.RowKit Go.Shelf Go.Lib
def IRow (w : World) (v : Value) (l : List (List UInt8)) : Prop :=
 ∃ p cap,v = .slice p l.length cap ∧ (l ≠ [] → ∃ g o,p = some ⟨g,o,none⟩ ∧ g < w.heap.size ∧ ∀ j (hj : j < l.length),w.cell? ⟨g,o + j,none⟩ = some (.string (ba l[j])))
def XRow (w : World) (v : Value) (l : List (List UInt8)) : Prop :=
 ∃ p cap,v = .slice p l.length cap ∧ l.length ≤ cap ∧ (p = none → cap = 0) ∧ (l ≠ [] → ∃ g o,p = some ⟨g,o,none⟩ ∧ g < w.heap.size ∧ ∀ j (hj : j < l.length),w.cell? ⟨g,o + j,none⟩ = some (.string (ba l[j])))
theorem XRow.below {w w' : World} {v : Value} {l : List (List UInt8)} (h : XRow w v l) (hb : Below w.heap.size w w') : XRow w' v l := by
 obtain ⟨p,cap,e,h0,hn,h1⟩ := h
 refine ⟨p,cap,e,h0,hn,fun hl => ?_⟩
 obtain ⟨g,o,e,hg,hc⟩ := h1 hl
 exact ⟨g,o,e,Nat.lt_of_lt_of_le hg hb.size,fun j hj => (hb.cell (p := ⟨g,o + j,none⟩) hg).trans (hc j hj)⟩
theorem XRow.irow {w : World} {v : Value} {l : List (List UInt8)} (h : XRow w v l) : IRow w v l := by
 obtain ⟨p,cap,e,_,_,h1⟩ := h
 exact ⟨p,cap,e,h1⟩
theorem XRow.nil (w : World) : XRow w (.slice none 0 0) [] := ⟨none,0,rfl,Nat.le_refl _,fun _ => rfl,fun h => absurd rfl h⟩
theorem XRow.of_owns {w : World} {base : Nat} {v : Value} {l : List (List UInt8)} {n : Nat} (h : w.ownsRow base 9 1 v n (l.map sv)) : XRow w v l := by
 have hn : n = l.length := by have := h.1;simp at this;omega
 subst hn
 rcases h.2 with ⟨rfl,hn⟩ | ⟨g,cap,cur,rfl,_,hb,h1,_,_,h4⟩
 ·obtain rfl : l = [] := by simpa using hn
  exact XRow.nil w
 ·refine ⟨_,cap,rfl,h1,fun h => (by cases h),fun _ => ⟨g,0,rfl,(Array.getElem?_eq_some_iff.1 hb).1,fun j hj => ?_⟩⟩
  have := congrArg (fun x => x[j]?) h4
  simp only [Nat.mul_one,List.getElem?_take,hj,if_true,List.getElem?_map,List.getElem?_eq_getElem hj,Option.map_some,Array.getElem?_toList] at this
  rw [Nat.zero_add]
  exact cell_of_row hb this
theorem add_at2 (g k j : Nat) : (⟨g,k,none⟩ : Addr).add j = ⟨g,k + j,none⟩ := by
 by_cases h0 : j = 0 <;> simp [Addr.add,h0]
end Go.Proofs.YthchjnopgagilaaGreatDoor
namespace Go.Proofs.YthchjnopgagilaaGreatDoor
open Go.RowKit Go.Shelf Go.Lib
theorem rIndex_calls {w : World} (v : Value) (l : List (List UInt8)) (x : List UInt8) (hrow : IRow w v l) (hl : l.length ≤ 1000000) :
  Calls Tryz.prog 74 #[v,.string (ba x)] w fun e w' => ∃ r : Int,e = .returned (.int .i64 r) ∧ w' = w ∧ ((r = -1 ∧ x ∉ l) ∨ ∃ k : Nat,r = k ∧ ∃ h : k < l.length,l[k] = x ∧ x ∉ l.take k) := by
 obtain ⟨p,cap,rfl,hin⟩ := hrow
 have HI := hid1 hin
 clear hin
 have zl : (l.length : Int) ≤ 1000000 := by omega
 go_enter Tryz.func74,Tryz.ntmps74
 go_wp2
 go_loopw [5] (fun i wr => ∃ k : Nat,k ≤ l.length ∧ i = .int .i64 k ∧ x ∉ l.take k ∧ w = wr) (fun i _ => l.length - (intOf i).toNat)
 case atStart => exact ⟨0,Nat.zero_le _,rfl,by simp,rfl⟩
 case round =>
  obtain ⟨k,hk,rfl,hz,rfl⟩ := hrel
  have HZ := hid1 hz
  clear hz
  have c0 : (0 : Int) ≤ (k : Int) := by omega
  by_cases hlt : k < l.length
  ·have c1 : (k : Int) < (l.length : Int) := by omega
   obtain ⟨g',o,rfl,hg,hcur⟩ := HI.out (by intro e;rw [e] at hlt;simp at hlt)
   have hcell := hcur k hlt
   have HT : Hid (l[k] ≠ x → x ∉ l.take (k + 1)) := hid1 fun hne => by
    rw [List.take_succ_eq_append_getElem hlt]
    simp only [List.mem_append,List.mem_singleton,not_or]
    exact ⟨HZ.out,fun e => hne e.symm⟩
   have HP : Hid (l[k] = x → ∃ j : Nat,(k : Int) = j ∧ ∃ h : j < l.length,l[j] = x ∧ x ∉ l.take j) := hid1 fun he => ⟨k,rfl,hlt,he,HZ.out⟩
   clear hcur HI HZ
   generalize l[k] = y at *
   by_cases he : y = x
   ·subst he
    have HPP := hid1 (HP.out rfl)
    clear HP HT
    go_wp2
    go_ret
    exact ⟨_,rfl,rfl,.inr HPP.out⟩
   ·have e1 : (y == x) = false := by simpa using he
    have HTT := hid1 (HT.out he)
    clear HP HT
    go_wp2
    exact ⟨⟨k + 1,by omega,by go_num,HTT.out,trivial⟩,by simp [intOf];omega⟩
  ·have c1 : (l.length : Int) ≤ (k : Int) := by omega
   have HN : Hid (x ∉ l) := hid1 (by
    have := HZ.out
    rwa [List.take_of_length_le (by omega)] at this)
   clear HI HZ
   go_wp2
   go_ret
   exact ⟨_,rfl,rfl,.inl ⟨rfl,HN.out⟩⟩
theorem index_lt {l : List (List UInt8)} {k : Nat} (hk : k < l.length) {r : Int} (h : (r = -1 ∧ l[k] ∉ l) ∨ ∃ j : Nat,r = j ∧ ∃ h : j < l.length,l[j] = l[k] ∧ l[k] ∉ l.take j) : decide (r < (k : Int)) = decide (l[k] ∈ l.take k) := by
 rcases h with ⟨_,h⟩ | ⟨j,rfl,hj,he,hn⟩
 ·exact absurd (List.getElem_mem hk) h
 ·rw [decide_eq_decide]
  constructor
  ·intro h
   rw [← he]
   have : j < (l.take k).length := by simp;omega
   have h2 := List.getElem_mem this
   rwa [List.getElem_take] at h2
  ·intro h
   rcases Nat.lt_or_ge j k with h' | h'
   ·omega
   ·exfalso
    apply hn
    exact (List.take_sublist_take_left h').subset h
end Go.Proofs.YthchjnopgagilaaGreatDoor
