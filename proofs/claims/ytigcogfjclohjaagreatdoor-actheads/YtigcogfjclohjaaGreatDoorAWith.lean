/- The walk of package act's linesWith; Run of head and lines. -/
import Derived.Test.YtigcogfjclohjaaGreatDoorAHead
import Derived.Shelf.GgClosure.Gives
namespace Go.Proofs.YtigcogfjclohjaaGreatDoor
open Go.RowKit Go.Shelf Go.Lib
open Go.Sort (grow Holds putRow)

/-- Texts that are not too long. -/
abbrev Short : Type := { l : List UInt8 // l.length ≤ 1000000 }
instance : Inhabited Short := ⟨⟨[], by simp⟩⟩
abbrev encS : Short → Value := fun x => Value.string (ba x.1)

set_option maxRecDepth 100000 in
set_option maxHeartbeats 2000000 in
theorem with_gives (wd : List UInt8) (x : Short) (b : Nat) (W : World) (m : Int) (hb : W.cell? ⟨b, 0, none⟩ = some (.string (ba wd))) (hm : W.cell? ⟨14, 0, none⟩ = some (.int .i64 m)) :
    FnGives Tryz.prog 146 #[.pointer (some ⟨b, 0, none⟩)] #[encS x] (.bool (!(Lib.contains x.1 wd))) W := by
  obtain ⟨x, hx⟩ := x
  have HC : Hid (Calls Tryz.prog 147 #[.string (ba x), .string (ba wd)] W fun e w' => e = .returned (.bool (Lib.contains x wd)) ∧ w' = W) := Tryz.strings_Contains (ba x) (ba wd) m W (by rw [ba_size]; omega) hm
  suffices goal : Calls Tryz.prog 146 #[.string (ba x), .pointer (some ⟨b, 0, none⟩)] W fun e w' => e = .returned (.bool !(Lib.contains x wd)) ∧ w' = W from Calls.mono goal fun e w' ⟨h1, h2⟩ => ⟨h1, 0, h2⟩
  generalize Lib.contains x wd = r at *
  clear hm
  go_enter Tryz.func146, Tryz.ntmps146
  go_wp2_with fail
  refine Calls.mono HC.out ?_
  rintro e w1 ⟨rfl, rfl⟩
  go_wp2
  go_ret
  exact ⟨rfl, rfl⟩

/-- Lines, each with its bound. -/
def shorts (L : List (List UInt8)) (h : ∀ x ∈ L, x.length ≤ 1000000) : List Short := L.attach.map fun x => ⟨x.1, h x.1 x.2⟩
theorem shorts_val (L : List (List UInt8)) (h : ∀ x ∈ L, x.length ≤ 1000000) : (shorts L h).map (·.1) = L := by
  unfold shorts
  rw [List.map_map]
  exact List.attach_map_subtype_val L
theorem shorts_len (L : List (List UInt8)) (h : ∀ x ∈ L, x.length ≤ 1000000) : (shorts L h).length = L.length := by
  rw [← congrArg List.length (shorts_val L h), List.length_map]
theorem shorts_at (L : List (List UInt8)) (h : ∀ x ∈ L, x.length ≤ 1000000) (j : Nat) (hj : j < L.length) : encS ((shorts L h).toArray[j]!) = .string (ba L[j]) := by
  have hj' : j < (shorts L h).length := by rw [shorts_len]; exact hj
  have e : (shorts L h).toArray[j]! = (shorts L h)[j] := by simp [hj']
  rw [e]
  show Value.string (ba ((shorts L h)[j]).1) = _
  have : ((shorts L h)[j]).1 = L[j] := by
    have := congrArg (fun z => z[j]?) (shorts_val L h)
    simp only [List.getElem?_map, List.getElem?_eq_getElem hj', List.getElem?_eq_getElem hj, Option.map_some] at this
    exact Option.some.inj this
  rw [this]
theorem shorts_filter (L : List (List UInt8)) (h : ∀ x ∈ L, x.length ≤ 1000000) (p : List UInt8 → Bool) : ((shorts L h).filter fun x => p x.1).map (·.1) = L.filter p := by
  conv => rhs; rw [← shorts_val L h]
  rw [List.filter_map]
  rfl

/-- Lines with a word in them. -/
def Af.withW (wd : List UInt8) (L : List (List UInt8)) : List (List UInt8) := L.filter fun x => Lib.contains x wd
theorem withW_len (wd : List UInt8) (L : List (List UInt8)) : (Af.told (Af.withW wd L)).length ≤ (Af.told L).length := by
  unfold Af.withW
  induction L with
  | nil => simp
  | cons x r ih =>
    rw [List.filter_cons]
    simp only [Af.told, List.flatMap_cons, List.length_append] at ih ⊢
    split
    · simp only [List.flatMap_cons, List.length_append]; omega
    · omega

set_option maxRecDepth 100000 in
set_option maxHeartbeats 4000000 in
theorem delete_calls (wd : List UInt8) (L : List (List UInt8)) (hL : ∀ x ∈ L, x.length ≤ 1000000) (hl : L.length ≤ 1000000) (b g cap : Nat) (cur : Array Value) (W : World) (m : Int) (hb : W.cell? ⟨b, 0, none⟩ = some (.string (ba wd))) (hm : W.cell? ⟨14, 0, none⟩ = some (.int .i64 m))
    (hbg : b ≠ g) (hmg : 14 ≠ g) (hbl : b < W.heap.size) (hml : 14 < W.heap.size) (hcap : L.length ≤ cap) (hblk : W.heap[g]? = some (.cells cur 9 (0, 0))) (hcur : ∀ j (hj : j < L.length), cur[j]? = some (.string (ba L[j]))) (B : Nat) (hB : B ≤ g) (hBw : B ≤ W.heap.size) :
    Calls Tryz.prog 144 #[.slice (some ⟨g, 0, none⟩) L.length cap, .func (.func 146) #[] #[.pointer (some ⟨b, 0, none⟩)]] W fun e w' => ∃ v, e = .returned v ∧ CRow w' v (Af.withW wd L) ∧ Below B W w' := by
  have hH : Holds encS W g 0 (shorts L hL).toArray := fun j hj => by
    have hj' : j < L.length := by simpa [shorts_len] using hj
    refine ⟨?_, by simp [World.frozen?, hblk]⟩
    rw [Nat.zero_add, cell_of_row hblk (hcur j hj'), shorts_at L hL j hj']
  have hgl : g < W.heap.size := (Array.getElem?_eq_some_iff.1 hblk).1
  have key := Tryz.slices_DeleteFunc encS (fun _ => rfl) (fun x => !(Lib.contains x.1 wd)) 146 #[.pointer (some ⟨b, 0, none⟩)] (enters_of Tryz.func146 (by kernel_rfl) rfl) default (fun w => by kernel_rfl) g 0 cap (shorts L hL).toArray W
    (fun V x hV => with_gives wd x b V m ((cell_below2 hV hbl).trans hb) ((cell_below2 hV hml).trans hm))
    (fun n os dk x _ => by
      have o : ∀ k, k ≠ g → k < W.heap.size → (sortWorld encS W g 0 n dk os).cell? ⟨k, 0, none⟩ = W.cell? ⟨k, 0, none⟩ := fun k h1 h2 => by
        unfold sortWorld
        rw [Go.Sort.cell?_grow _ _ _ (by show k < (putRow _ _ _ _ _).heap.size; rw [Go.Sort.size_putRow]; exact h2), Go.Sort.cell?_putRow_other _ _ g 0 _ _ (Or.inl h1)]
        rfl
      exact with_gives wd x b _ m ((o b hbg hbl).trans hb) ((o _ hmg hml).trans hm))
    hH (by simp [shorts_len]; omega) (by simp [shorts_len]; exact hcap)
  have e0 : (shorts L hL).toArray.size = L.length := by simp [shorts_len]
  rw [e0] at key
  refine Calls.mono key ?_
  rintro e w' ⟨rfl, q, rfl⟩
  have e1 : ((shorts L hL).toArray.toList.filter fun x => !(!(Lib.contains x.1 wd))) = (shorts L hL).filter fun x => Lib.contains x.1 wd := by simp
  rw [e1]
  have e2 : ((shorts L hL).filter fun x => Lib.contains x.1 wd).map (·.1) = Af.withW wd L := shorts_filter L hL fun x => Lib.contains x wd
  have hlen : ((shorts L hL).filter fun x => Lib.contains x.1 wd).length = (Af.withW wd L).length := by rw [← e2, List.length_map]
  have hle : (Af.withW wd L).length ≤ L.length := List.length_filter_le _ _
  have hp := Go.Sort.holds_putRow encS (Sort.ahead W q) g 0 (shorts L hL).toArray (((shorts L hL).filter fun x : Short => Lib.contains x.1 wd) ++ List.replicate (L.length - ((shorts L hL).filter fun x : Short => Lib.contains x.1 wd).length) default).toArray hH (by simp only [List.size_toArray, List.length_append, List.length_replicate, shorts_len]; rw [hlen]; omega)
  refine ⟨_, rfl, ⟨some ⟨g, 0, none⟩, cap, by rw [hlen], fun k hk => ⟨g, rfl, by rw [Go.Sort.size_putRow]; exact hgl, ?_⟩⟩, ?_⟩
  · have hk' : k < ((shorts L hL).filter fun x => Lib.contains x.1 wd).length := by rw [hlen]; exact hk
    have p1 := (hp k (by simp; omega)).1
    rw [Nat.zero_add] at p1
    rw [p1]
    have e3 : (((shorts L hL).filter fun x : Short => Lib.contains x.1 wd) ++ List.replicate (L.length - ((shorts L hL).filter fun x : Short => Lib.contains x.1 wd).length) default).toArray[k]! = ((shorts L hL).filter fun x => Lib.contains x.1 wd)[k] := by
      simp [List.getElem?_append_left hk', hk']
    rw [e3]
    have e4 : (((shorts L hL).filter fun x => Lib.contains x.1 wd)[k]).1 = (Af.withW wd L)[k] := by
      have := congrArg (fun z => z[k]?) e2
      simp only [List.getElem?_map, List.getElem?_eq_getElem hk', List.getElem?_eq_getElem hk, Option.map_some] at this
      exact Option.some.inj this
    show some (Value.string (ba _)) = _
    rw [e4]
  · refine (Below.refl B W).grown (row := some g) ⟨rfl, rfl, rfl, by rw [Go.Sort.size_putRow]; exact Nat.le_refl _, fun k _ hk => ?_⟩ hBw (fun j hj => by cases hj; exact hB)
    have : g ≠ k := fun e => hk (by rw [e])
    simp [putRow, Go.Sort.mapBlock, Go.Sort.ahead, Array.getElem?_modify, this]
end Go.Proofs.YtigcogfjclohjaaGreatDoor
