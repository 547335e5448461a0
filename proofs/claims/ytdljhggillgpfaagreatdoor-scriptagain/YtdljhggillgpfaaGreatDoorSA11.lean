import Derived.Test.YtdljhggillgpfaaGreatDoorSA10
import Derived.Lib.ConvBytes
import Derived.Laws.BytesArg
import Derived.Lib.Replace
import Derived.Shelf.GgClosure.Gives
import Derived.Test.YtdljhggillgpfaaGreatDoorChecked
import Derived.LaidEql
import Derived.Stop.Asserts
import Derived.RowKitTokens
set_option maxRecDepth 100000
set_option maxHeartbeats 4000000
namespace Go.Proofs.YtdljhggillgpfaaGreatDoor
open Go.RowKit Go.Shelf Go.Lib
def Af.up (c : UInt8) : UInt8 := if 97 ≤ c.toNat ∧ c.toNat ≤ 122 then UInt8.ofNat (c.toNat - 32) else c
def Af.upper (s : List UInt8) : List UInt8 := s.map Af.up
theorem wrap8 {n : Int} (h0 : 0 ≤ n) (h1 : n ≤ 255) : IntKind.u8.wrap n = n := by
 have e : IntKind.u8.wrap n = n % 256 := by
  simp [IntKind.wrap,IntKind.bits,IntKind.signed]
 rw [e]
 omega
theorem strOfNums_ba (l : List UInt8) : strOfNums (l.map fun c => (c.toNat : Int)) = ba l := by
 refine ba_eq ?_
 rw [strOfNums_data,List.map_map]
 conv => rhs;rw [← List.map_id l]
 exact List.map_congr_left fun c _ => by simp
theorem upper_calls (s : List UInt8) (hs : s.length ≤ 100000) (w : World) :
  Calls Tryz.prog 271 #[.string (ba s)] w fun e w' => e = .returned (.string (ba (Af.upper s))) ∧ Below w.heap.size w w' := by
 have hconv := Lib.run_convert_string_bytes (P := Tryz.prog) w 9 98 5 (ba s) Tryz.underlying9 Tryz.underlying98 Tryz.underlying5
 have hB : Below w.heap.size w (Lib.bytesWorld w 5 (ba s)) := Go.Joins.below_bytesWorld _ w 5 (ba s) (Nat.le_refl _)
 have hc : ∀ j (hj : j < s.length),(Lib.bytesWorld w 5 (ba s)).cell? ⟨w.heap.size,j,none⟩ = some (.int .u8 (s[j].toNat : Int)) := fun j hj => by
  rw [Lib.bytesWorld_cell _ _ _ _ (by rw [ba_size];exact hj)]
  have : (ba s).data.toList.getD j 0 = s[j] := by
   show s.getD j 0 = s[j]
   simp [hj]
  rw [this]
 have hf : ∀ j,j < s.length → (Lib.bytesWorld w 5 (ba s)).frozen? ⟨w.heap.size,j,none⟩ = false := fun j hj => by
  have hsz : s.length ≤ (Lib.bytesCells w 5 (ba s)).size := by
   have := ba_size s
   simp [Lib.bytesCells,ByteArray.size] at this ⊢
  simp [World.frozen?,Lib.bytesWorld_at_new]
  omega
 have hsz : ((ba s).size : Int) = (s.length : Int) := by rw [ba_size]
 rw [ba_size] at hconv
 generalize grownCap w s.length 0 5 = cap at *
 generalize Lib.bytesWorld w 5 (ba s) = W1 at *
 go_enter Tryz.func271,Tryz.ntmps271
 go_wp2
 go_loopw [10] (fun i wr => ∃ k : Nat,k ≤ s.length ∧ i = .int .i64 k ∧ (∀ j (hj : j < s.length),wr.cell? ⟨w.heap.size,j,none⟩ = some (.int .u8 ((if j < k then Af.up s[j] else s[j]).toNat : Int))) ∧ (∀ j,j < s.length → wr.frozen? ⟨w.heap.size,j,none⟩ = false) ∧ Below w.heap.size w wr) (fun i _ => s.length - (intOf i).toNat)
 case atStart => exact ⟨0,Nat.zero_le _,rfl,fun j hj => by simpa using hc j hj,hf,hB⟩
 case round =>
  obtain ⟨k,hk,rfl,hck,hfk,hBk⟩ := hrel
  by_cases hlt : k < s.length
  ·have c1 : (k : Int) < (s.length : Int) := by omega
   have c0 : (0 : Int) ≤ (k : Int) := by omega
   have hcell := hck k hlt
   rw [if_neg (Nat.lt_irrefl k)] at hcell
   have hfr := hfk k hlt
   have HU : Hid (Af.up s[k] = (if 97 ≤ s[k].toNat ∧ s[k].toNat ≤ 122 then UInt8.ofNat (s[k].toNat - 32) else s[k])) := rfl
   have hck' := hid1 hck
   have key : ∀ (W : World),(∀ j (hj : j < s.length),j ≠ k → W.cell? ⟨w.heap.size,j,none⟩ = wr.cell? ⟨w.heap.size,j,none⟩) → W.cell? ⟨w.heap.size,k,none⟩ = some (.int .u8 ((Af.up s[k]).toNat : Int)) →
     ∀ j (hj : j < s.length),W.cell? ⟨w.heap.size,j,none⟩ = some (.int .u8 ((if j < k + 1 then Af.up s[j] else s[j]).toNat : Int)) := fun W h1 h2 j hj => by
    by_cases e : j = k
    ·subst e
     rw [if_pos (by omega)]
     exact h2
    ·rw [h1 j hj e,hck'.out j hj]
     by_cases h3 : j < k
     ·rw [if_pos h3,if_pos (by omega)]
     ·rw [if_neg h3,if_neg (by omega)]
   have hkey := hid1 key
   generalize hx : s[k] = x at *
   have x0 : (0 : Int) ≤ (x.toNat : Int) := by omega
   have x1 : (x.toNat : Int) ≤ 255 := by have := x.toNat_lt;omega
   by_cases hlo : 97 ≤ x.toNat
   ·have d1 : decide ((97 : Int) ≤ (x.toNat : Int)) = true := decide_eq_true (by omega)
    by_cases hhi : x.toNat ≤ 122
    ·have d2 : decide ((x.toNat : Int) ≤ 122) = true := decide_eq_true (by omega)
     have y1 : IntKind.u8.wrap ((x.toNat : Int) - 97) = (x.toNat : Int) - 97 := wrap8 (by omega) (by omega)
     have y2 : IntKind.u8.wrap ((x.toNat : Int) - 97 + 65) = (x.toNat : Int) - 97 + 65 := wrap8 (by omega) (by omega)
     have hup : ((Af.up x).toNat : Int) = (x.toNat : Int) - 97 + 65 := by
      rw [HU.out,if_pos ⟨hlo,hhi⟩]
      simp
      omega
     have hne : ∀ j,j < s.length → j ≠ k → (wr.setCell ⟨w.heap.size,k,none⟩ (.int .u8 ((x.toNat : Int) - 97 + 65))).cell? ⟨w.heap.size,j,none⟩ = wr.cell? ⟨w.heap.size,j,none⟩ := fun j _ hj => World.cell?_setCell_other _ _ _ _ (fun e => hj (by cases e;rfl))
     have hsm : (wr.setCell ⟨w.heap.size,k,none⟩ (.int .u8 ((x.toNat : Int) - 97 + 65))).cell? ⟨w.heap.size,k,none⟩ = some (.int .u8 ((Af.up x).toNat : Int)) := by
      rw [hup]
      exact World.cell?_setCell_same' _ _ _ (by rw [hcell];rfl)
     have hall := hid1 (hkey.out _ hne hsm)
     go_wp2
     refine ⟨⟨k + 1,by omega,by go_num,hall.out,fun j hj => ?_,hBk.setCell (p := ⟨w.heap.size,k,none⟩) (Nat.le_refl _) _⟩,by simp [intOf];omega⟩
     rw [World.frozen?_setCell]
     exact hfk j hj
    ·have d2 : decide ((x.toNat : Int) ≤ 122) = false := decide_eq_false (by omega)
     have hall := hid1 (hkey.out wr (fun _ _ _ => rfl) (by rw [HU.out,if_neg (by omega)];exact hcell))
     go_wp2
     go_roundw
     case rel => exact ⟨k + 1,by omega,by go_num,hall.out,hfk,hBk⟩
     case measure => simp [intOf];omega
   ·have d1 : decide ((97 : Int) ≤ (x.toNat : Int)) = false := decide_eq_false (by omega)
    have hall := hid1 (hkey.out wr (fun _ _ _ => rfl) (by rw [HU.out,if_neg (by omega)];exact hcell))
    go_wp2
    go_roundw
    case rel => exact ⟨k + 1,by omega,by go_num,hall.out,hfk,hBk⟩
    case measure => simp [intOf];omega
  ·have c1 : (s.length : Int) ≤ (k : Int) := by omega
   have hback := run_convert_bytes_arg (P := Tryz.prog) wr 98 5 Tryz.underlying98 Tryz.underlying5 w.heap.size 0 s.length cap ((Af.upper s).map fun c => (c.toNat : Int)) (by simp [Af.upper]) (fun i hi => by
    rw [Nat.zero_add,hck i hi,if_pos (by omega)]
    simp [Af.upper,hi]) 9 Tryz.underlying9
   rw [strOfNums_ba] at hback
   go_wp2
   go_ret
   exact ⟨rfl,hBk⟩
def Af.isSwap (wd : List UInt8) : Bool := (Lib.cut wd [61]).2.2 && !(Lib.cut wd [61]).1.isEmpty && !(Lib.contains (Lib.cut wd [61]).2.1 [61])
def Af.swap (wd s : List UInt8) : List UInt8 := Lib.replaceAll s (Lib.cut wd [61]).1 (Lib.cut wd [61]).2.1
theorem cut_lens (s sep : List UInt8) : (Lib.cut s sep).1.length ≤ s.length ∧ (Lib.cut s sep).2.1.length ≤ s.length := by
 unfold Lib.cut
 split <;> simp <;> omega
theorem isSwap_calls (wd : List UInt8) (hl : wd.length ≤ 1000000) (m : Int) (w : World) (hm : w.cell? ⟨13,0,none⟩ = some (.int .i64 m)) :
  Calls Tryz.prog 276 #[.string (ba wd)] w fun e w' => e = .returned (.bool (Af.isSwap wd)) ∧ Below w.heap.size w w' := by
 have HC := hid1 (strCutG wd [61] m w hl hm)
 have hle := cut_lens wd [61]
 have HQ : Hid (Af.isSwap wd = ((Lib.cut wd [61]).2.2 && !(Lib.cut wd [61]).1.isEmpty && !(Lib.contains (Lib.cut wd [61]).2.1 [61]))) := rfl
 generalize Af.isSwap wd = r at *
 generalize (Lib.cut wd [61]).1 = a at *
 generalize (Lib.cut wd [61]).2.1 = b at *
 generalize (Lib.cut wd [61]).2.2 = ok at *
 have HB : Hid (∀ q,Calls Tryz.prog 291 #[.string (ba b),.string ⟨#[61]⟩] (w.drewN q) fun e w' => e = .returned (.bool (Lib.contains b [61])) ∧ w' = w.drewN q) := fun q => Tryz.strings_Contains (ba b) (ba [61]) m (w.drewN q) (by rw [ba_size];omega) hm
 generalize Lib.contains b [61] = cb at *
 clear hm
 cases ok with
 | false =>
  go_enter Tryz.func276,Tryz.ntmps276
  go_wp2_with fail
  refine Calls.mono HC.out ?_
  rintro e w1 ⟨rfl,q,rfl⟩
  go_wp2
  go_ret
  exact ⟨ret_bool (by rw [HQ.out];rfl),below_draws (Below.refl _ w) q⟩
 | true =>
  by_cases ha : a = []
  ·subst ha
   go_enter Tryz.func276,Tryz.ntmps276
   go_wp2_with fail
   refine Calls.mono HC.out ?_
   rintro e w1 ⟨rfl,q,rfl⟩
   go_wp2
   go_ret
   exact ⟨ret_bool (by rw [HQ.out];rfl),below_draws (Below.refl _ w) q⟩
  ·have d1 : a.isEmpty = false := empty_not ha
   go_enter Tryz.func276,Tryz.ntmps276
   go_wp2_with fail
   refine Calls.mono HC.out ?_
   rintro e w1 ⟨rfl,q,rfl⟩
   have HB1 := HB.out q
   go_wp2_with fail
   refine Calls.mono HB1 ?_
   rintro e w2 ⟨rfl,rfl⟩
   go_wp2
   go_ret
   exact ⟨ret_bool (by rw [HQ.out,d1];cases cb <;> rfl),below_draws (Below.refl _ w) q⟩
theorem swap_calls (wd s : List UInt8) (hl : wd.length ≤ 100) (hs : s.length ≤ 10000) (ha : 1 ≤ (Lib.cut wd [61]).1.length) (m : Int) (w : World) (hm : w.cell? ⟨13,0,none⟩ = some (.int .i64 m)) :
  Calls Tryz.prog 277 #[.string (ba wd),.string (ba s)] w fun e w' => e = .returned (.string (ba (Af.swap wd s))) ∧ Below w.heap.size w w' := by
 have HC := hid1 (strCutG wd [61] m w (by omega) hm)
 have hle := cut_lens wd [61]
 have HQ : Hid (Af.swap wd s = Lib.replaceAll s (Lib.cut wd [61]).1 (Lib.cut wd [61]).2.1) := rfl
 generalize Af.swap wd s = out at *
 generalize (Lib.cut wd [61]).1 = a at *
 generalize (Lib.cut wd [61]).2.1 = b at *
 generalize (Lib.cut wd [61]).2.2 = ok at *
 have HR : Hid (∀ q,Calls Tryz.prog 65 #[.string (ba s),.string (ba a),.string (ba b)] (w.drewN q) fun e w' => e = .returned (.string (ba out)) ∧ Below (w.drewN q).heap.size (w.drewN q) w') := fun q => by
  have hcount : Lib.countB (ba s) (ba a) ≤ s.length + 1 := Lib.count_le s a
  have := Tryz.strings_ReplaceAll (ba s) (ba a) (ba b) m (w.drewN q) (by rw [ba_size];omega) hm (by rw [ba_size];exact ha) (by
   rw [ba_size,ba_size]
   have h1 : Lib.countB (ba s) (ba a) * b.length ≤ (s.length + 1) * 100 := Nat.mul_le_mul hcount (by omega)
   omega)
  refine this.mono ?_
  rintro e w' ⟨rfl,g⟩
  refine ⟨?_,g⟩
  rw [HQ.out]
 clear hm
 go_enter Tryz.func277,Tryz.ntmps277
 go_wp2_with fail
 refine Calls.mono HC.out ?_
 rintro e w1 ⟨rfl,q,rfl⟩
 have HR1 := HR.out q
 go_wp2_with fail
 refine Calls.mono HR1 ?_
 rintro e w2 ⟨rfl,g2⟩
 go_wp2
 go_ret
 exact ⟨rfl,below_then (below_draws (Below.refl _ w) q) g2⟩
open Go.Sort (grow Holds putRow)
abbrev Short : Type := { l : List UInt8 // l.length ≤ 1000000 }
instance : Inhabited Short := ⟨⟨[],by simp⟩⟩
abbrev encS : Short → Value := fun x => Value.string (ba x.1)
theorem with_gives (wd : List UInt8) (x : Short) (b : Nat) (W : World) (m : Int) (hb : W.cell? ⟨b,0,none⟩ = some (.string (ba wd))) (hm : W.cell? ⟨13,0,none⟩ = some (.int .i64 m)) :
  FnGives Tryz.prog 290 #[.pointer (some ⟨b,0,none⟩)] #[encS x] (.bool (!(Lib.contains x.1 wd))) W := by
 obtain ⟨x,hx⟩ := x
 have HC : Hid (Calls Tryz.prog 291 #[.string (ba x),.string (ba wd)] W fun e w' => e = .returned (.bool (Lib.contains x wd)) ∧ w' = W) := Tryz.strings_Contains (ba x) (ba wd) m W (by rw [ba_size];omega) hm
 suffices goal : Calls Tryz.prog 290 #[.string (ba x),.pointer (some ⟨b,0,none⟩)] W fun e w' => e = .returned (.bool !(Lib.contains x wd)) ∧ w' = W from Calls.mono goal fun e w' ⟨h1,h2⟩ => ⟨h1,0,h2⟩
 generalize Lib.contains x wd = r at *
 clear hm
 go_enter Tryz.func290,Tryz.ntmps290
 go_wp2_with fail
 refine Calls.mono HC.out ?_
 rintro e w1 ⟨rfl,rfl⟩
 go_wp2
 go_ret
 exact ⟨rfl,rfl⟩
def shorts (L : List (List UInt8)) (h : ∀ x ∈ L,x.length ≤ 1000000) : List Short := L.attach.map fun x => ⟨x.1,h x.1 x.2⟩
theorem shorts_val (L : List (List UInt8)) (h : ∀ x ∈ L,x.length ≤ 1000000) : (shorts L h).map (·.1) = L := by
 unfold shorts
 rw [List.map_map]
 exact List.attach_map_subtype_val L
theorem shorts_len (L : List (List UInt8)) (h : ∀ x ∈ L,x.length ≤ 1000000) : (shorts L h).length = L.length := by
 rw [← congrArg List.length (shorts_val L h),List.length_map]
theorem shorts_at (L : List (List UInt8)) (h : ∀ x ∈ L,x.length ≤ 1000000) (j : Nat) (hj : j < L.length) : encS ((shorts L h).toArray[j]!) = .string (ba L[j]) := by
 have hj' : j < (shorts L h).length := by rw [shorts_len];exact hj
 have e : (shorts L h).toArray[j]! = (shorts L h)[j] := by simp [hj']
 rw [e]
 show Value.string (ba ((shorts L h)[j]).1) = _
 have : ((shorts L h)[j]).1 = L[j] := by
  have := congrArg (fun z => z[j]?) (shorts_val L h)
  simp only [List.getElem?_map,List.getElem?_eq_getElem hj',List.getElem?_eq_getElem hj,Option.map_some] at this
  exact Option.some.inj this
 rw [this]
theorem shorts_filter (L : List (List UInt8)) (h : ∀ x ∈ L,x.length ≤ 1000000) (p : List UInt8 → Bool) : ((shorts L h).filter fun x => p x.1).map (·.1) = L.filter p := by
 conv => rhs;rw [← shorts_val L h]
 rw [List.filter_map]
 rfl
def Af.withW (wd : List UInt8) (L : List (List UInt8)) : List (List UInt8) := L.filter fun x => Lib.contains x wd
theorem withW_len (wd : List UInt8) (L : List (List UInt8)) : (Af.told (Af.withW wd L)).length ≤ (Af.told L).length := by
 unfold Af.withW
 induction L with
 | nil => simp
 | cons x r ih =>
  rw [List.filter_cons]
  simp only [Af.told,List.flatMap_cons,List.length_append] at ih ⊢
  split
  ·simp only [List.flatMap_cons,List.length_append];omega
  ·omega
theorem delete_calls (wd : List UInt8) (L : List (List UInt8)) (hL : ∀ x ∈ L,x.length ≤ 1000000) (hl : L.length ≤ 1000000) (b g cap : Nat) (cur : Array Value) (W : World) (m : Int) (hb : W.cell? ⟨b,0,none⟩ = some (.string (ba wd))) (hm : W.cell? ⟨13,0,none⟩ = some (.int .i64 m))
  (hbg : b ≠ g) (hmg : 13 ≠ g) (hbl : b < W.heap.size) (hml : 13 < W.heap.size) (hcap : L.length ≤ cap) (hblk : W.heap[g]? = some (.cells cur 9 (0,0))) (hcur : ∀ j (hj : j < L.length),cur[j]? = some (.string (ba L[j]))) (B : Nat) (hB : B ≤ g) (hBw : B ≤ W.heap.size) :
  Calls Tryz.prog 281 #[.slice (some ⟨g,0,none⟩) L.length cap,.func (.func 290) #[] #[.pointer (some ⟨b,0,none⟩)]] W fun e w' => ∃ v,e = .returned v ∧ CRow w' v (Af.withW wd L) ∧ Below B W w' := by
 have hH : Holds encS W g 0 (shorts L hL).toArray := fun j hj => by
  have hj' : j < L.length := by simpa [shorts_len] using hj
  refine ⟨?_,by simp [World.frozen?,hblk]⟩
  rw [Nat.zero_add,cell_of_row hblk (hcur j hj'),shorts_at L hL j hj']
 have hgl : g < W.heap.size := (Array.getElem?_eq_some_iff.1 hblk).1
 have key := Tryz.slices_DeleteFunc encS (fun _ => rfl) (fun x => !(Lib.contains x.1 wd)) 290 #[.pointer (some ⟨b,0,none⟩)] (enters_of Tryz.func290 (by kernel_rfl) rfl) default (fun w => by kernel_rfl) g 0 cap (shorts L hL).toArray W
  (fun V x hV => with_gives wd x b V m ((cell_below2 hV hbl).trans hb) ((cell_below2 hV hml).trans hm))
  (fun n os dk x _ => by
   have o : ∀ k,k ≠ g → k < W.heap.size → (sortWorld encS W g 0 n dk os).cell? ⟨k,0,none⟩ = W.cell? ⟨k,0,none⟩ := fun k h1 h2 => by
    unfold sortWorld
    rw [Go.Sort.cell?_grow _ _ _ (by show k < (putRow _ _ _ _ _).heap.size;rw [Go.Sort.size_putRow];exact h2),Go.Sort.cell?_putRow_other _ _ g 0 _ _ (Or.inl h1)]
    rfl
   exact with_gives wd x b _ m ((o b hbg hbl).trans hb) ((o _ hmg hml).trans hm))
  hH (by simp [shorts_len];omega) (by simp [shorts_len];exact hcap)
 have e0 : (shorts L hL).toArray.size = L.length := by simp [shorts_len]
 rw [e0] at key
 refine Calls.mono key ?_
 rintro e w' ⟨rfl,q,rfl⟩
 have e1 : ((shorts L hL).toArray.toList.filter fun x => !(!(Lib.contains x.1 wd))) = (shorts L hL).filter fun x => Lib.contains x.1 wd := by simp
 rw [e1]
 have e2 : ((shorts L hL).filter fun x => Lib.contains x.1 wd).map (·.1) = Af.withW wd L := shorts_filter L hL fun x => Lib.contains x wd
 have hlen : ((shorts L hL).filter fun x => Lib.contains x.1 wd).length = (Af.withW wd L).length := by rw [← e2,List.length_map]
 have hle : (Af.withW wd L).length ≤ L.length := List.length_filter_le _ _
 have hp := Go.Sort.holds_putRow encS (Sort.ahead W q) g 0 (shorts L hL).toArray (((shorts L hL).filter fun x : Short => Lib.contains x.1 wd) ++ List.replicate (L.length - ((shorts L hL).filter fun x : Short => Lib.contains x.1 wd).length) default).toArray hH (by simp only [List.size_toArray,List.length_append,List.length_replicate,shorts_len];rw [hlen];omega)
 refine ⟨_,rfl,⟨some ⟨g,0,none⟩,cap,by rw [hlen],fun k hk => ⟨g,rfl,by rw [Go.Sort.size_putRow];exact hgl,?_⟩⟩,?_⟩
 ·have hk' : k < ((shorts L hL).filter fun x => Lib.contains x.1 wd).length := by rw [hlen];exact hk
  have p1 := (hp k (by simp;omega)).1
  rw [Nat.zero_add] at p1
  rw [p1]
  have e3 : (((shorts L hL).filter fun x : Short => Lib.contains x.1 wd) ++ List.replicate (L.length - ((shorts L hL).filter fun x : Short => Lib.contains x.1 wd).length) default).toArray[k]! = ((shorts L hL).filter fun x => Lib.contains x.1 wd)[k] := by
   simp [List.getElem?_append_left hk',hk']
  rw [e3]
  have e4 : (((shorts L hL).filter fun x => Lib.contains x.1 wd)[k]).1 = (Af.withW wd L)[k] := by
   have := congrArg (fun z => z[k]?) e2
   simp only [List.getElem?_map,List.getElem?_eq_getElem hk',List.getElem?_eq_getElem hk,Option.map_some] at this
   exact Option.some.inj this
  show some (Value.string (ba _)) = _
  rw [e4]
 ·refine (Below.refl B W).grown (row := some g) ⟨rfl,rfl,rfl,by rw [Go.Sort.size_putRow];exact Nat.le_refl _,fun k _ hk => ?_⟩ hBw (fun j hj => by cases hj;exact hB)
  have : g ≠ k := fun e => hk (by rw [e])
  simp [putRow,Go.Sort.mapBlock,Go.Sort.ahead,Array.getElem?_modify,this]
theorem linesWith_calls (wd s : List UInt8) (hs : s.length ≤ 100000) (m : Int) (w : World) (hm : w.cell? ⟨13,0,none⟩ = some (.int .i64 m)) (hbig : 20 < w.heap.size) :
  Calls Tryz.prog 272 #[.string (ba wd),.string (ba s)] w fun e w' => e = .returned (.string (ba (Af.told (Af.withW wd (Af.lines s))))) ∧ Below w.heap.size w w' := by
 have g0 : Below w.heap.size w (w.alloc (.cells #[.string (ba wd)] 9)) := (Below.refl _ w).alloc (Nat.le_refl _) _
 have hs0 : (w.alloc (.cells #[.string (ba wd)] 9)).heap.size = w.heap.size + 1 := by simp
 have c0 : (w.alloc (.cells #[.string (ba wd)] 9)).cell? ⟨w.heap.size,0,none⟩ = some (.string (ba wd)) := by
  rw [World.cell?_alloc_at _ _ _ _ rfl];rfl
 have m0 := cell_below' hm g0
 have HL := hid1 (linesOf_calls s (by omega) m _ m0)
 have hL : ∀ x ∈ Af.lines s,x.length ≤ 1000000 := fun x h => by have := Af.line_len h;omega
 have hll := Af.lines_len s
 have hlen : (Af.told (Af.withW wd (Af.lines s))).length ≤ 100000000 := by
  have h1 := withW_len wd (Af.lines s)
  have h2 := (Af.told_lines_len s).2
  omega
 generalize Af.lines s = L at *
 go_enter Tryz.func272,Tryz.ntmps272
 go_wp2_with fail
 refine Calls.mono HL.out ?_
 rintro e w2 ⟨v,rfl,⟨g,cap,cur,rfl,hg0,hcap,hblk,hcur⟩,g2⟩
 rw [hs0] at hg0 g2
 have G2 : Below w.heap.size w w2 := g0.trans (g2.mono (by omega))
 have hw2 : w.heap.size + 1 ≤ w2.heap.size := by have := g2.size;rw [hs0] at this;exact this
 have HD := hid1 (delete_calls wd L hL (by omega) w.heap.size g cap cur w2 m ((cell_below2 g2 (by omega)).trans c0) ((cell_below2 g2 (by omega)).trans m0) (by omega) (by omega) (by omega) (by omega) hcap hblk hcur w.heap.size (by omega) (by omega))
 clear HL c0 m0 hm g0
 go_wp2_with fail
 refine Calls.mono HD.out ?_
 rintro e w3 ⟨v3,rfl,hr,g3⟩
 have G3 := G2.trans g3
 have HT := hid1 (told_calls v3 _ w3 hr hlen)
 clear HD
 go_wp2_with fail
 refine Calls.mono HT.out ?_
 rintro e w4 ⟨rfl,g4⟩
 go_wp2
 go_ret
 exact ⟨rfl,G3.trans (g4.mono G3.size)⟩
theorem trow_one {w W : World} {pa : Option Addr} {n cap : Nat} {x : List UInt8} (h : TRow w (.slice pa n cap) [x]) (hW : Below w.heap.size w W) : ∃ g,pa = some ⟨g,0,none⟩ ∧ n = 1 ∧ W.cell? ⟨g,0,none⟩ = some (.string (ba x)) ∧ g < W.heap.size := by
 obtain ⟨p,c,e,h1,h2⟩ := h.below hW
 obtain ⟨g,cur,rfl,hg,hcur⟩ := h2 (by simp)
 simp only [Value.slice.injEq,List.length_cons,List.length_nil] at e
 exact ⟨g,e.1,e.2.1,cell_of_row hg (hcur 0 (by simp)),(Array.getElem?_eq_some_iff.1 hg).1⟩
inductive Af.Kd where
 | write | join | upper | lines | sort | count | swap | head
namespace Af
def Kd.name : Kd → List UInt8
 | .write => [119,114,105,116,101]
 | .join => [106,111,105,110]
 | .upper => [117,112,112,101,114]
 | .lines => [108,105,110,101,115]
 | .sort => [115,111,114,116]
 | .count => [99,111,117,110,116]
 | .swap => [115,119,97,112]
 | .head => [104,101,97,100]
def Kd.least : Kd → Nat
 | .write => 0
 | _ => 1
def Kd.most : Kd → Nat
 | .write => 0
 | .join => 8
 | .sort => 8
 | .count => 8
 | _ => 1
def Kd.takes (wd : List UInt8) : Kd → Bool
 | .upper => decide (wd ∈ [[]])
 | .count => decide (wd ∈ [[]])
 | .sort => decide (wd ∈ [[],oncew])
 | .swap => isSwap wd
 | .head => (numM 3 wd).isSome
 | _ => true
def Kd.out (wd : List UInt8) (ls : List (List UInt8)) : Kd → List UInt8
 | .write => wd
 | .join => Lib.join ls wd
 | .upper => Af.upper (ls.headD [])
 | .lines => told (withW wd (Af.lines (ls.headD [])))
 | .sort => sorted wd ls
 | .count => Af.count ls
 | .swap => Af.swap wd (ls.headD [])
 | .head => told ((Af.lines (ls.headD [])).take ((numM 3 wd).getD 0))
def kindOf (nm : List UInt8) : Option Kd :=
 if nm = Kd.write.name then some .write else if nm = Kd.join.name then some .join else if nm = Kd.upper.name then some .upper else if nm = Kd.lines.name then some .lines
 else if nm = Kd.sort.name then some .sort else if nm = Kd.count.name then some .count else if nm = Kd.swap.name then some .swap else if nm = Kd.head.name then some .head else none
theorem kindOf_name (k : Kd) : kindOf k.name = some k := by cases k <;> rfl
theorem kindOf_some {nm : List UInt8} {k : Kd} (h : kindOf nm = some k) : nm = k.name := by
 unfold kindOf at h
 repeat' split at h
 all_goals first | (cases h;assumption) | cases h
def actE (nm wd : List UInt8) (n : Int) : Nat :=
 match kindOf nm with
 | none => 5
 | some k => if n < k.least ∨ (k.most : Int) < n ∨ k.takes wd = false then 3 else if 100 < wd.length then 10 else 0
def tf : Kd → Nat
 | .write => 265
 | .join => 265
 | .lines => 265
 | .swap => 276
 | .head => 278
 | _ => 286
def tc (B : Nat) : Kd → Array Value
 | .upper => #[.pointer (some ⟨B + 1 + 1,0,none⟩)]
 | .sort => #[.pointer (some ⟨B + 1 + 5,0,none⟩)]
 | .count => #[.pointer (some ⟨B + 1 + 7,0,none⟩)]
 | _ => #[]
def rf : Kd → Nat
 | .write => 266
 | .join => 267
 | .sort => 273
 | .count => 274
 | _ => 287
def rc (B : Nat) : Kd → Array Value
 | .upper => #[.pointer (some ⟨B + 1 + 2,0,none⟩)]
 | .lines => #[.pointer (some ⟨B + 1 + 3,0,none⟩)]
 | .swap => #[.pointer (some ⟨B + 1 + 8,0,none⟩)]
 | .head => #[.pointer (some ⟨B + 1 + 9,0,none⟩)]
 | _ => #[]
def ix : Kd → Nat
 | .write => 0
 | .join => 1
 | .upper => 2
 | .lines => 3
 | .sort => 4
 | .count => 5
 | .swap => 6
 | .head => 7
end Af
open Af (Kd)
theorem found (k : Kd) (B : Nat) : Instr.findNow .string (.string (ba k.name)) (kindsE B) 0 = some (some (Af.ix k,kd k.least k.most (tfn (Af.tf k) (Af.tc B k)) (tfn (Af.rf k) (Af.rc B k)))) := by
 cases k <;> rfl
theorem same_no {nm key : List UInt8} (h : nm ≠ key) : Instr.sameNow .string (.string (ba nm)) (txtv key) = some false := by
 have e : (nm.toArray == key.toArray) = false := by simpa using h
 exact congrArg some e
theorem found_none {nm : List UInt8} (h : Af.kindOf nm = none) (B : Nat) : Instr.findNow .string (.string (ba nm)) (kindsE B) 0 = some none := by
 have hne : ∀ k : Kd,nm ≠ k.name := fun k e => by rw [e,Af.kindOf_name] at h;cases h
 have h1 := same_no (hne .write)
 have h2 := same_no (hne .join)
 have h3 := same_no (hne .upper)
 have h4 := same_no (hne .lines)
 have h5 := same_no (hne .sort)
 have h6 := same_no (hne .count)
 have h7 := same_no (hne .swap)
 have h8 := same_no (hne .head)
 simp only [Af.Kd.name] at h1 h2 h3 h4 h5 h6 h7 h8
 simp only [kindsE,Instr.findNow,h1,h2,h3,h4,h5,h6,h7,h8]
theorem tf_enters (k : Kd) : ∀ args w,(callFunc (Af.tf k) args).run Tryz.prog w = .ok (.enter (Af.tf k) args) w := by
 cases k
 ·exact enters_of Tryz.func265 (by kernel_rfl) rfl
 ·exact enters_of Tryz.func265 (by kernel_rfl) rfl
 ·exact enters_of Tryz.func286 (by kernel_rfl) rfl
 ·exact enters_of Tryz.func265 (by kernel_rfl) rfl
 ·exact enters_of Tryz.func286 (by kernel_rfl) rfl
 ·exact enters_of Tryz.func286 (by kernel_rfl) rfl
 ·exact enters_of Tryz.func276 (by kernel_rfl) rfl
 ·exact enters_of Tryz.func278 (by kernel_rfl) rfl
theorem rf_enters (k : Kd) : ∀ args w,(callFunc (Af.rf k) args).run Tryz.prog w = .ok (.enter (Af.rf k) args) w := by
 cases k
 ·exact enters_of Tryz.func266 (by kernel_rfl) rfl
 ·exact enters_of Tryz.func267 (by kernel_rfl) rfl
 ·exact enters_of Tryz.func287 (by kernel_rfl) rfl
 ·exact enters_of Tryz.func287 (by kernel_rfl) rfl
 ·exact enters_of Tryz.func273 (by kernel_rfl) rfl
 ·exact enters_of Tryz.func274 (by kernel_rfl) rfl
 ·exact enters_of Tryz.func287 (by kernel_rfl) rfl
 ·exact enters_of Tryz.func287 (by kernel_rfl) rfl
theorem takes_calls {w : World} {es el : Value} (hA : AW w es el) (hS : SynAt w) (wd : List UInt8) (hl : wd.length ≤ 1000000) (k : Kd) (W : World) (hW : Below w.heap.size w W) (hO : Objs W (w.heap.size + 1)) :
  Calls Tryz.prog (Af.tf k) (#[.string (ba wd)] ++ Af.tc (w.heap.size + 1) k) W fun e w' => e = .returned (.bool (k.takes wd)) ∧ Below W.heap.size W w' := by
 obtain ⟨m,hm⟩ := hA.len
 cases k
 ·exact anyWord_calls (ba wd) W
 ·exact anyWord_calls (ba wd) W
 ·exact none_takes 1 (.inl rfl) wd hO
 ·exact anyWord_calls (ba wd) W
 ·exact sort_takes wd hO
 ·exact none_takes 7 (.inr rfl) wd hO
 ·exact isSwap_calls wd hl m W (cell_below' hm hW)
 ·exact isMany_calls wd hl W (pow_below hA.pow hW) (hS.below hW)
theorem kupper_calls (word : ByteArray) (x : List UInt8) (hx : x.length ≤ 100000) (w : World) :
  Calls Tryz.prog 270 #[.string word,.string (ba x)] w fun e w' => e = .returned (.string (ba (Af.upper x))) ∧ Below w.heap.size w w' := by
 have HA := hid1 (upper_calls x hx w)
 go_enter Tryz.func270,Tryz.ntmps270
 go_wp2_with fail
 refine Calls.mono HA.out ?_
 rintro e w1 ⟨rfl,g1⟩
 go_wp2
 go_ret
 exact ⟨rfl,g1⟩
end Go.Proofs.YtdljhggillgpfaaGreatDoor
namespace Go.Proofs.YtdljhggillgpfaaGreatDoor
open Go.RowKit Go.Shelf Go.Lib
open Go.Sort (grow Holds putRow)
open Af (Kd)
theorem one_of {l : List (List UInt8)} (h : l.length = 1) : ∃ x,l = [x] := by
 match l,h with
 | [x],_ => exact ⟨x,rfl⟩
theorem join_len (wd : List UInt8) : ∀ (ls : List (List UInt8)),(Lib.join ls wd).length ≤ (ls.map List.length).sum + ls.length * wd.length
 | [] => by simp [Lib.join]
 | [x] => by rw [Lib.join_one];simp
 | x :: y :: r => by
  have ih := join_len wd (y :: r)
  rw [Lib.join_cons] at ih ⊢
  simp only [Lib.joinTail,List.map_cons,List.flatten_cons,List.length_append,List.sum_cons,List.length_cons] at ih ⊢
  simp only [Nat.add_mul,Nat.one_mul] at ih ⊢
  omega
theorem ofOne_run {w : World} (i f : Nat) (wd x out : List UInt8) (pa : Option Addr) (cap : Nat) (hrow : TRow w (.slice pa [x].length cap) [x]) (W : World) (hW : Below w.heap.size w W) (hO : Objs W (w.heap.size + 1)) (hi : (kindsO (w.heap.size + 1))[i]? = some (.cells #[fn f] 337 (0,0)))
  (ef : ∀ args w,(callFunc f args).run Tryz.prog w = .ok (.enter f args) w)
  (HF : ∀ V,Below w.heap.size w V → Calls Tryz.prog f #[.string (ba wd),.string (ba x)] V fun e w' => e = .returned (.string (ba out)) ∧ Below V.heap.size V w') :
  Calls Tryz.prog 287 #[.string (ba wd),.slice pa [x].length cap,.pointer (some ⟨w.heap.size + 1 + 1 + i,0,none⟩)] W fun e w' => e = .returned (.string (ba out)) ∧ Below W.heap.size W w' := by
 obtain ⟨g,rfl,_,hc,hg⟩ := trow_one hrow hW
 have hb := objs_cell (i := i) (j := 0) hO hi rfl
 refine ofOne_calls (ba wd) _ x f (w.heap.size + 1 + 1 + i) g 1 cap W hb hc ?_ hg (by omega) ef (hid1 fun V hV => HF V (below_then hW hV))
 have hlt := (List.getElem?_eq_some_iff.1 hi).1
 exact (Array.getElem?_eq_some_iff.1 (hO i hlt)).1
theorem run_calls {w : World} {es el : Value} (hA : AW w es el) (wd : List UInt8) (hl : wd.length ≤ 100) (pa : Option Addr) (cap : Nat) (ls : List (List UInt8)) (hrow : TRow w (.slice pa ls.length cap) ls) (hx : ∀ x ∈ ls,x.length ≤ 3000) (k : Kd) (h1 : k.least ≤ ls.length) (h2 : ls.length ≤ k.most) (htk : k.takes wd = true)
  (W : World) (hW : Below w.heap.size w W) (hO : Objs W (w.heap.size + 1)) :
  Calls Tryz.prog (Af.rf k) (#[.string (ba wd),.slice pa ls.length cap] ++ Af.rc (w.heap.size + 1) k) W fun e w' => e = .returned (.string (ba (k.out wd ls))) ∧ Below W.heap.size W w' := by
 obtain ⟨m,hm⟩ := hA.len
 have hbig := hA.big
 have hx' : ∀ x ∈ ls,x.length ≤ 100000 := fun x h => Nat.le_trans (hx x h) (by omega)
 have hm8 : k.most ≤ 8 := by cases k <;> decide
 have h8 : ls.length ≤ 8 := by omega
 cases k
 ·exact kwrite_calls (ba wd) _ W
 ·refine kjoin_calls wd _ ls (by omega) ?_ W (hrow.below hW)
  have a1 := join_len wd ls
  have a2 := bytes_le hx' ls.length (Nat.le_refl _)
  rw [List.take_length] at a2
  have a3 : ls.length * wd.length ≤ 8 * 100 := Nat.mul_le_mul h8 hl
  unfold Af.bytes at a2
  omega
 ·obtain ⟨x,rfl⟩ := one_of (l := ls) (by simp [Af.Kd.least,Af.Kd.most] at h1 h2;omega)
  have hxx := hx x (by simp)
  exact ofOne_run 2 270 wd x (Af.upper x) pa cap hrow W hW hO rfl (enters_of Tryz.func270 (by kernel_rfl) rfl) fun V _ => kupper_calls (ba wd) x (by omega) V
 ·obtain ⟨x,rfl⟩ := one_of (l := ls) (by simp [Af.Kd.least,Af.Kd.most] at h1 h2;omega)
  have hxx := hx x (by simp)
  exact ofOne_run 3 272 wd x _ pa cap hrow W hW hO rfl (enters_of Tryz.func272 (by kernel_rfl) rfl) fun V hV => linesWith_calls wd x (by omega) m V (cell_below' hm hV) (by have := hV.size;omega)
 ·have hlen : (Af.told (Af.all ls)).length ≤ 100000000 := by
   refine Nat.le_trans (Af.told_all_len ls) ?_
   have : ∀ (l : List (List UInt8)),(∀ x ∈ l,x.length ≤ 3000) → (l.map fun x => x.length + 1).sum ≤ l.length * 3001 := fun l => by
    induction l with
    | nil => simp
    | cons x r ih =>
     intro h
     have i1 := ih fun y hy => h y (by simp [hy])
     have i2 := h x (by simp)
     simp only [List.map_cons,List.sum_cons,List.length_cons]
     omega
   have := this ls hx
   omega
  exact sorted_calls wd _ ls (by omega) hx' hlen m W (hrow.below hW) (cell_below' hm hW)
 ·exact kcount_calls (ba wd) _ ls (by omega) hx' m W (hrow.below hW) (cell_below' hm hW) (pow_below hA.pow hW)
 ·obtain ⟨x,rfl⟩ := one_of (l := ls) (by simp [Af.Kd.least,Af.Kd.most] at h1 h2;omega)
  have hxx := hx x (by simp)
  have ha : 1 ≤ (Lib.cut wd [61]).1.length := by
   have ht : Af.isSwap wd = true := htk
   unfold Af.isSwap at ht
   cases hc : (Lib.cut wd [61]).1 with
   | nil => rw [hc] at ht;simp at ht
   | cons a b => simp
  exact ofOne_run 8 277 wd x _ pa cap hrow W hW hO rfl (enters_of Tryz.func277 (by kernel_rfl) rfl) fun V hV => swap_calls wd x (by omega) (by omega) ha m V (cell_below' hm hV)
 ·obtain ⟨x,rfl⟩ := one_of (l := ls) (by simp [Af.Kd.least,Af.Kd.most] at h1 h2;omega)
  have hxx := hx x (by simp)
  obtain ⟨n,hn⟩ : ∃ n,numM 3 wd = some n := Option.isSome_iff_exists.1 htk
  have e : Kd.head.out wd [x] = Af.told ((Af.lines x).take n) := by simp [Af.Kd.out,hn]
  rw [e]
  exact ofOne_run 9 279 wd x _ pa cap hrow W hW hO rfl (enters_of Tryz.func279 (by kernel_rfl) rfl) fun V hV => head_calls wd x n hn (by omega) m V (cell_below' hm hV) (pow_below hA.pow hV)
structure AE (w : World) (er : Nat → Value) : Prop where
 aw : AW w (er 3) (er 10)
 syn : SynAt w
 kind : w.cell? ⟨4,0,none⟩ = some (er 5)
 iface : ∀ k,∃ t u,er (k + 1) = .iface t u
 zero : er 0 = .nilIface
theorem find_any {w : World} {er : Nat → Value} (h : AE w er) (nm wd : List UInt8) (n : Int) (hl : wd.length ≤ 1000000) :
  (Af.actE nm wd n = 0 ∧ ∃ k : Kd,Af.kindOf nm = some k ∧ (k.least : Int) ≤ n ∧ n ≤ k.most ∧ k.takes wd = true ∧ wd.length ≤ 100 ∧
   Calls Tryz.prog 223 #[.string (ba nm),.string (ba wd),.int .i64 n] w fun e w' => e = .returned (.tuple #[kd k.least k.most (tfn (Af.tf k) (Af.tc (w.heap.size + 1) k)) (tfn (Af.rf k) (Af.rc (w.heap.size + 1) k)),.nilIface]) ∧ Below w.heap.size w w' ∧ Objs w' (w.heap.size + 1)) ∨
  (Af.actE nm wd n ≠ 0 ∧ Calls Tryz.prog 223 #[.string (ba nm),.string (ba wd),.int .i64 n] w fun e w' => e = .returned (.tuple #[zkd,er (Af.actE nm wd n)]) ∧ Below w.heap.size w w') := by
 have hA := h.aw
 have hbig := hA.big
 cases hk : Af.kindOf nm with
 | none =>
  refine .inr ⟨by simp [Af.actE,hk],?_⟩
  have e : Af.actE nm wd n = 5 := by simp [Af.actE,hk]
  rw [e]
  exact find_none (ba nm) (ba wd) n (er 5) w h.kind (by omega) fun B => found_none hk B
 | some k =>
  have hnm := Af.kindOf_some hk
  have hf := found k (w.heap.size + 1)
  rw [← hnm] at hf
  have HT := hid1 fun W hW hO => takes_calls hA h.syn wd hl k W hW hO
  have e : Af.actE nm wd n = (if n < k.least ∨ (k.most : Int) < n ∨ k.takes wd = false then 3 else if 100 < wd.length then 10 else 0) := by simp [Af.actE,hk]
  rw [e]
  by_cases h1 : n < k.least
  ·rw [if_pos (.inl h1)]
   refine .inr ⟨by decide,?_⟩
   exact (find_low (ba nm) (ba wd) n k.least k.most _ _ _ _ (k.takes wd) (er 3) (er 10) w hA.shape hA.long hA.big _ hf (tf_enters k) HT h1).mono fun e w' ⟨p,q,_⟩ => ⟨p,q⟩
  by_cases h2 : (k.most : Int) < n
  ·rw [if_pos (.inr (.inl h2))]
   refine .inr ⟨by decide,?_⟩
   exact (find_high (ba nm) (ba wd) n k.least k.most _ _ _ _ (k.takes wd) (er 3) (er 10) w hA.shape hA.long hA.big _ hf (tf_enters k) HT ⟨by omega,h2⟩).mono fun e w' ⟨p,q,_⟩ => ⟨p,q⟩
  cases h3 : k.takes wd with
  | false =>
   rw [if_pos (.inr (.inr rfl))]
   refine .inr ⟨by decide,?_⟩
   exact (find_no (ba nm) (ba wd) n k.least k.most _ _ _ _ (k.takes wd) (er 3) (er 10) w hA.shape hA.long hA.big _ hf (tf_enters k) HT ⟨by omega,by omega,h3⟩).mono fun e w' ⟨p,q,_⟩ => ⟨p,q⟩
  | true =>
   have hno : ¬ (n < k.least ∨ (k.most : Int) < n ∨ true = false) := by simp;omega
   rw [if_neg hno]
   by_cases h4 : 100 < wd.length
   ·rw [if_pos h4]
    refine .inr ⟨by decide,?_⟩
    exact (find_long (ba nm) (ba wd) n k.least k.most _ _ _ _ (k.takes wd) (er 3) (er 10) w hA.shape hA.long hA.big _ hf (tf_enters k) HT ⟨by omega,by omega,h3,by rw [ba_size];exact h4⟩).mono fun e w' ⟨p,q,_⟩ => ⟨p,q⟩
   ·rw [if_neg h4]
    refine .inl ⟨rfl,k,rfl,by omega,by omega,h3,by omega,?_⟩
    exact find_good (ba nm) (ba wd) n k.least k.most _ _ _ _ (k.takes wd) (er 3) (er 10) w hA.shape hA.long hA.big _ hf (tf_enters k) HT ⟨by omega,by omega,h3,by rw [ba_size];omega⟩
theorem Check_any {w : World} {er : Nat → Value} (h : AE w er) (nm wd : List UInt8) (n : Int) (hl : wd.length ≤ 1000000) :
  Calls Tryz.prog 185 #[.string (ba nm),.string (ba wd),.int .i64 n] w fun e w' => e = .returned (er (Af.actE nm wd n)) ∧ Below w.heap.size w w' := by
 rcases find_any h nm wd n hl with ⟨e0,k,_,_,_,_,_,hf⟩ | ⟨_,hf⟩
 ·rw [e0,h.zero]
  exact Check_calls (ba nm) (ba wd) n _ _ _ _ .nilIface w rfl rfl (hid1 (hf.mono fun e w' ⟨p,q,_⟩ => ⟨p,q⟩))
 ·exact Check_calls (ba nm) (ba wd) n 0 0 .nilFunc .nilFunc _ w rfl rfl (hid1 hf)
end Go.Proofs.YtdljhggillgpfaaGreatDoor
namespace Go.Proofs.YtdljhggillgpfaaGreatDoor
open Go.RowKit Go.Extern.Stop Go.Stop Go.Extern
theorem Tryz.isTypeOf (v : Value) (w : World) : (callFunc 40 #[.iface 357 v]).run Tryz.prog w = .ok (.value (.iface 113 (.agg #[.pointer (some ⟨26,357,none⟩)]))) w := by kernel_rfl
theorem Tryz.noAsE (v : Value) (xT : TypeId) (w : World) : (Instr.typeAssert (.iface 357 v) xT 117 true).run Tryz.prog w = .ok (.tuple #[.nilIface,.bool false]) w := run_typeAssert_lacksB Tryz.underlying117 (by kernel_rfl) (by kernel_rfl) v xT w
theorem Tryz.noUnwrapE (v : Value) (xT : TypeId) (w : World) : (Instr.typeAssert (.iface 357 v) xT 120 true).run Tryz.prog w = .ok (.tuple #[.nilIface,.bool false]) w := run_typeAssert_lacksB Tryz.underlying120 (by kernel_rfl) (by kernel_rfl) v xT w
theorem Tryz.noUnwrapsE (v : Value) (xT : TypeId) (w : World) : (Instr.typeAssert (.iface 357 v) xT 122 true).run Tryz.prog w = .ok (.tuple #[.nilIface,.bool false]) w := run_typeAssert_lacksB Tryz.underlying122 (by kernel_rfl) (by kernel_rfl) v xT w
end Go.Proofs.YtdljhggillgpfaaGreatDoor
