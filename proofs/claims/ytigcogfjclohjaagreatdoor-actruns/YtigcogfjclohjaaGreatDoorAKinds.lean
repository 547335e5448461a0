/- Package act's Run, by kinds: join, sort, count. -/
import Derived.Test.YtigcogfjclohjaaGreatDoorACount
namespace Go.Proofs.YtigcogfjclohjaaGreatDoor
open Go.RowKit Go.Shelf Go.Lib
open Go.Sort (grow Holds putRow)

/-- What commands read of the world. -/
structure AW (w : World) (es el : Value) : Prop where
  len : ∃ m, w.cell? ⟨14, 0, none⟩ = some (.int .i64 m)
  pow : Pow w
  shape : w.cell? ⟨1, 0, none⟩ = some es
  long : w.cell? ⟨3, 0, none⟩ = some el
  big : 20 < w.heap.size
theorem AW.stays {w W : World} {es el : Value} (h : AW w es el) (hb : Below w.heap.size w W) : AW W es el := by
  have h0 := h.big
  refine ⟨?_, pow_below h.pow hb, (cell_below2 hb (by omega)).trans h.shape, (cell_below2 hb (by omega)).trans h.long, Nat.lt_of_lt_of_le h0 hb.size⟩
  obtain ⟨m, hm⟩ := h.len
  exact ⟨m, cell_below' hm hb⟩

theorem objs_cell {W : World} {B i : Nat} (hO : Objs W B) {c : Array Value} {t : TypeId} {j : Nat} {v : Value} (hi : (kindsO B)[i]? = some (.cells c t (0, 0))) (hv : c[j]? = some v) : W.cell? ⟨B + 1 + i, j, none⟩ = some v := by
  obtain ⟨h1, h2⟩ := List.getElem?_eq_some_iff.1 hi
  have := hO i h1
  rw [h2] at this
  simp [World.cell?, this, hv]

abbrev oncew : List UInt8 := [111, 110, 99, 101]

theorem sort_takes {w W : World} (wd : List UInt8) (hO : Objs W (w.heap.size + 1)) :
    Calls Tryz.prog 140 (#[.string (ba wd)] ++ #[.pointer (some ⟨w.heap.size + 1 + 1 + 5, 0, none⟩)]) W fun e w' => e = .returned (.bool (decide (wd ∈ [[], oncew]))) ∧ Below W.heap.size W w' := by
  refine among_calls wd [[], oncew] (w.heap.size + 1 + 1 + 5) (w.heap.size + 1 + 1 + 4) W (objs_cell hO rfl rfl) (by simp) ?_
  intro j hj
  match j, hj with
  | 0, _ => exact objs_cell hO rfl rfl
  | 1, _ => exact objs_cell hO rfl rfl

/-- What Run tells of what was made. -/
def told2 (el : Value) (out : List UInt8) : Value := if 2000 < (ba out).size then .tuple #[.string ⟨#[]⟩, el] else .tuple #[.string (ba out), .nilIface]
theorem told2_ok {el : Value} {out : List UInt8} (h : out.length ≤ 2000) : told2 el out = .tuple #[.string (ba out), .nilIface] := by
  unfold told2
  rw [if_neg (by rw [ba_size]; omega)]

theorem Run_sort {w : World} {es el : Value} (hA : AW w es el) (wd : List UInt8) (hwd : wd ∈ [[], oncew]) (v : Value) (ls : List (List UInt8)) (hrow : TRow w v ls) (h1 : 1 ≤ ls.length) (h8 : ls.length ≤ 8) (hx : ∀ x ∈ ls, x.length ≤ 10000) :
    Calls Tryz.prog 28 #[.string ⟨#[115, 111, 114, 116]⟩, .string (ba wd), v] w fun e w' => e = .returned (told2 el (Af.sorted wd ls)) ∧ Below w.heap.size w w' := by
  have hx' : ∀ x ∈ ls, x.length ≤ 100000 := fun x h => Nat.le_trans (hx x h) (by omega)
  have hl : (Af.told (Af.all ls)).length ≤ 100000000 := by
    refine Nat.le_trans (Af.told_all_len ls) ?_
    have : ∀ (l : List (List UInt8)), (∀ x ∈ l, x.length ≤ 10000) → (l.map fun x => x.length + 1).sum ≤ l.length * 10001 := fun l => by
      induction l with
      | nil => simp
      | cons x r ih =>
        intro h
        have i1 := ih fun y hy => h y (by simp [hy])
        have i2 := h x (by simp)
        simp only [List.map_cons, List.sum_cons, List.length_cons]
        omega
    have := this ls hx
    omega
  obtain ⟨m, hm⟩ := hA.len
  have hlw : (ba wd).size ≤ 100 := by
    rw [ba_size]
    rcases List.mem_cons.1 hwd with rfl | h
    · simp
    · rw [List.mem_singleton.1 h]; decide
  obtain ⟨pa, cap, rfl, hcap, hin⟩ := hrow
  have hrow : TRow w (.slice pa ls.length cap) ls := ⟨pa, cap, rfl, hcap, hin⟩
  have hf := find_good ⟨#[115, 111, 114, 116]⟩ (ba wd) (ls.length : Int) 1 8 140 107 #[.pointer (some ⟨w.heap.size + 1 + 1 + 5, 0, none⟩)] #[] (decide (wd ∈ [[], oncew])) es el w hA.shape hA.long hA.big 4 rfl (enters_of Tryz.func140 (by kernel_rfl) rfl)
    (hid1 fun W _ hO => sort_takes wd hO) ⟨by omega, by omega, by simpa using hwd, hlw⟩
  exact Run_good ⟨#[115, 111, 114, 116]⟩ (ba wd) pa ls.length cap 1 8 _ 107 #[] (ba (Af.sorted wd ls)) el w hA.long hA.big ⟨_, _, rfl⟩ (enters_of Tryz.func107 (by kernel_rfl) rfl) (hid1 hf)
    (hid1 fun W hW _ => sorted_calls wd _ ls (by omega) hx' hl m W (hrow.below hW) (cell_below' hm hW))

theorem none_takes {w W : World} (i : Nat) (hi : i = 1 ∨ i = 7) (wd : List UInt8) (hO : Objs W (w.heap.size + 1)) :
    Calls Tryz.prog 140 (#[.string (ba wd)] ++ #[.pointer (some ⟨w.heap.size + 1 + 1 + i, 0, none⟩)]) W fun e w' => e = .returned (.bool (decide (wd ∈ [[]]))) ∧ Below W.heap.size W w' := by
  rcases hi with rfl | rfl
  · refine among_calls wd [[]] (w.heap.size + 1 + 1 + 1) (w.heap.size + 1 + 1 + 0) W (objs_cell hO rfl rfl) (by simp) ?_
    intro j hj
    match j, hj with
    | 0, _ => exact objs_cell hO rfl rfl
  · refine among_calls wd [[]] (w.heap.size + 1 + 1 + 7) (w.heap.size + 1 + 1 + 6) W (objs_cell hO rfl rfl) (by simp) ?_
    intro j hj
    match j, hj with
    | 0, _ => exact objs_cell hO rfl rfl

theorem Run_count {w : World} {es el : Value} (hA : AW w es el) (v : Value) (ls : List (List UInt8)) (hrow : TRow w v ls) (h1 : 1 ≤ ls.length) (h8 : ls.length ≤ 8) (hx : ∀ x ∈ ls, x.length ≤ 10000) :
    Calls Tryz.prog 28 #[.string ⟨#[99, 111, 117, 110, 116]⟩, .string ⟨#[]⟩, v] w fun e w' => e = .returned (told2 el (Af.count ls)) ∧ Below w.heap.size w w' := by
  have hx' : ∀ x ∈ ls, x.length ≤ 100000 := fun x h => Nat.le_trans (hx x h) (by omega)
  obtain ⟨m, hm⟩ := hA.len
  obtain ⟨pa, cap, rfl, hcap, hin⟩ := hrow
  have hrow : TRow w (.slice pa ls.length cap) ls := ⟨pa, cap, rfl, hcap, hin⟩
  have hf := find_good ⟨#[99, 111, 117, 110, 116]⟩ (ba []) (ls.length : Int) 1 8 140 108 #[.pointer (some ⟨w.heap.size + 1 + 1 + 7, 0, none⟩)] #[] (decide (([] : List UInt8) ∈ [[]])) es el w hA.shape hA.long hA.big 5 rfl (enters_of Tryz.func140 (by kernel_rfl) rfl)
    (hid1 fun W _ hO => none_takes 7 (.inr rfl) [] hO) ⟨by omega, by omega, by simp, by rw [ba_size]; simp⟩
  exact Run_good ⟨#[99, 111, 117, 110, 116]⟩ (ba []) pa ls.length cap 1 8 _ 108 #[] (ba (Af.count ls)) el w hA.long hA.big ⟨_, _, rfl⟩ (enters_of Tryz.func108 (by kernel_rfl) rfl) (hid1 hf)
    (hid1 fun W hW _ => kcount_calls (ba []) _ ls (by omega) hx' m W (hrow.below hW) (cell_below' hm hW) (pow_below hA.pow hW))

theorem Run_join {w : World} {es el : Value} (hA : AW w es el) (wd : List UInt8) (hwd : wd.length ≤ 100) (v : Value) (ls : List (List UInt8)) (hrow : TRow w v ls) (h1 : 1 ≤ ls.length) (h8 : ls.length ≤ 8) (hl : (Lib.join ls wd).length ≤ 1000000000) :
    Calls Tryz.prog 28 #[.string ⟨#[106, 111, 105, 110]⟩, .string (ba wd), v] w fun e w' => e = .returned (told2 el (Lib.join ls wd)) ∧ Below w.heap.size w w' := by
  obtain ⟨pa, cap, rfl, hcap, hin⟩ := hrow
  have hrow : TRow w (.slice pa ls.length cap) ls := ⟨pa, cap, rfl, hcap, hin⟩
  have hf := find_good ⟨#[106, 111, 105, 110]⟩ (ba wd) (ls.length : Int) 1 8 98 100 #[] #[] true es el w hA.shape hA.long hA.big 1 rfl (enters_of Tryz.func98 (by kernel_rfl) rfl)
    (hid1 fun W _ _ => anyWord_calls (ba wd) W) ⟨by omega, by omega, rfl, by rw [ba_size]; exact hwd⟩
  exact Run_good ⟨#[106, 111, 105, 110]⟩ (ba wd) pa ls.length cap 1 8 _ 100 #[] (ba (Lib.join ls wd)) el w hA.long hA.big ⟨_, _, rfl⟩ (enters_of Tryz.func100 (by kernel_rfl) rfl) (hid1 hf)
    (hid1 fun W hW _ => kjoin_calls wd _ ls (by omega) hl W (hrow.below hW))
end Go.Proofs.YtigcogfjclohjaaGreatDoor
