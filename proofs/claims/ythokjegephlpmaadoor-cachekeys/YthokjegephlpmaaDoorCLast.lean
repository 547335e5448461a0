/- Package cache's makeLast: the walk. -/
import Derived.Test.YthokjegephlpmaaDoorCMapT
import Derived.Test.YthokjegephlpmaaDoorShelfC
import Derived.Shelf.GgClosure.Gives
import Derived.Deep.AppendLies
namespace Go.Proofs.YthokjegephlpmaaDoor
open Go.RowKit Go.Shelf Go.Lib
open Go.Sort (grow Holds putRow)

set_option maxRecDepth 100000 in
theorem last1_gives (k x : List UInt8) (b : Nat) (W : World) (hb : W.cell? ⟨b, 0, none⟩ = some (.string (ba k))) :
    FnGives Tryd.prog 37 #[.pointer (some ⟨b, 0, none⟩)] #[sv x] (.bool (x == k)) W := by
  suffices goal : Calls Tryd.prog 37 #[.string (ba x), .pointer (some ⟨b, 0, none⟩)] W fun e w' => e = .returned (.bool (x == k)) ∧ w' = W from Calls.mono goal fun e w' ⟨h1, h2⟩ => ⟨h1, 0, h2⟩
  go_enter Tryd.func37, Tryd.ntmps37
  go_wp2
  go_ret
  exact ⟨rfl, rfl⟩

set_option maxRecDepth 100000 in
set_option maxHeartbeats 4000000 in
/-- slices.DeleteFunc at no slice. -/
theorem delNil_calls {w : World} (caps : Array Value) :
    Calls Tryd.prog 36 #[.slice none 0 0, .func (.func 37) #[] caps] w fun e w' => e = .returned (.slice none 0 0) ∧ w' = w := by
  have HC := hid1 (Tryd.slices_IndexFunc_empty (α := Nat) none 0 (.func (.func 37) #[] caps) w)
  go_enter Tryd.func36, Tryd.ntmps36
  go_wp2_with fail
  refine HC.out.mono ?_
  rintro e w1 ⟨rfl, rfl⟩
  clear HC
  go_wp2
  go_ret
  exact ⟨rfl, rfl⟩

set_option maxRecDepth 100000 in
set_option maxHeartbeats 4000000 in
/-- slices.DeleteFunc of a key. -/
theorem delKey_calls {W : World} {u : Value} {ks : List (List UInt8)} (hrow : KRow W u ks) (hl : ks.length ≤ 1000) (k : List UInt8) (b : Nat) (hb : W.cell? ⟨b, 0, none⟩ = some (.string (ba k))) (hne : some b ≠ u.ownBlock) :
    Calls Tryd.prog 36 #[u, .func (.func 37) #[] #[.pointer (some ⟨b, 0, none⟩)]] W fun e w' => ∃ u', e = .returned u' ∧ KRow w' u' (ks.filter fun x => !(x == k)) ∧ u'.ownBlock = u.ownBlock ∧ W.grownBy w' u.ownBlock := by
  have hbl : b < W.heap.size := lt_of_cell hb
  by_cases hu : u = .slice none 0 0
  · subst hu
    obtain rfl : ks = [] := by
      rcases hrow.2 with ⟨_, h⟩ | ⟨g, cap, cur, h, _⟩
      · exact List.length_eq_zero_iff.1 h
      · cases h
    refine (delNil_calls (w := W) #[.pointer (some ⟨b, 0, none⟩)]).mono ?_
    rintro e w' ⟨rfl, rfl⟩
    exact ⟨_, rfl, World.ownsRow_nil _ _ _ _, rfl, ⟨rfl, rfl, rfl, Nat.le_refl _, fun _ _ _ => rfl⟩⟩
  · obtain ⟨g, cap, rfl, -, hg, hcap, hm, -, hH⟩ := Lib.holds_of_ownsRow hrow hu
    have hbg : b ≠ g := fun e => hne (by rw [e]; rfl)
    have key := Tryd.slices_DeleteFunc sv (fun _ => rfl) (fun x => x == k) 37 #[.pointer (some ⟨b, 0, none⟩)] (enters_of Tryd.func37 (by kernel_rfl) rfl) [] (fun w => by kernel_rfl) g 0 cap ks.toArray W
      (fun V x hV => last1_gives k x b V ((cell_below2 hV hbl).trans hb))
      (fun n os dk x _ => by
        refine last1_gives k x b _ (Eq.trans ?_ hb)
        unfold sortWorld
        rw [Go.Sort.cell?_grow _ _ _ (by show b < (putRow _ _ _ _ _).heap.size; rw [Go.Sort.size_putRow]; exact hbl), Go.Sort.cell?_putRow_other _ _ g 0 _ _ (Or.inl hbg)]
        rfl)
      hH (by simp; omega) (by simpa using hcap)
    have e0 : ks.toArray.size = ks.length := by simp
    rw [e0] at key
    refine key.mono ?_
    rintro e w' ⟨rfl, q, rfl⟩
    have hle : (ks.filter fun x => !(x == k)).length ≤ ks.length := List.length_filter_le _ _
    have h1 := Lib.ownsRow_putRow (q := q) (k := (ks.filter fun x => !(x == k)).length) (ys := (ks.filter fun x => !(x == k)) ++ List.replicate (ks.length - (ks.filter fun x => !(x == k)).length) []) hrow (by simp; omega) hle
    rw [List.take_left] at h1
    refine ⟨_, rfl, h1, rfl, ⟨rfl, rfl, rfl, by rw [Go.Sort.size_putRow]; exact Nat.le_refl _, fun j _ hj => ?_⟩⟩
    have : g ≠ j := fun e => hj (by rw [← e]; rfl)
    simp [putRow, Go.Sort.mapBlock, Go.Sort.ahead, Array.getElem?_modify, this]
end Go.Proofs.YthokjegephlpmaaDoor
