import Derived.Test.YthchjnopgagilaaGreatDoorPA20
import Derived.Test.YthchjnopgagilaaGreatDoorPA42
set_option maxRecDepth 100000
set_option maxHeartbeats 4000000
namespace Go.Proofs.YthchjnopgagilaaGreatDoor
open Go.RowKit Go.Shelf Go.Lib
namespace Pl
def lines : List (List UInt8) := [[97,108,108,32,61,32,106,111,105,110,32,34,43,34,32,97,46,117,112,32,98,46,117,112],[97,46,117,112,32,61,32,117,112,112,101,114,32,97],[98,46,117,112,32,61,32,117,112,112,101,114,32,98],[115,114,116,32,61,32,115,111,114,116,32,97,32,98,32,99],[99,110,116,32,61,32,99,111,117,110,116,32,97,108,108,32,115,114,116],[104,100,32,61,32,104,101,97,100,32,34,49,34,32,115,114,116]]
def text : List UInt8 := lines.flatMap fun x => x ++ [10]
theorem cut : cutB 10 text = lines ++ [[]] := by decide
theorem line0 : LineOf lines[0] l[0] := ⟨3,10,14,[43],⟨by decide,by decide,by decide,by decide,by decide,by decide,by decide,fun _ => rfl,fun _ => rfl,.inr ⟨by decide,by decide,fun _ => rfl,by decide,by decide,fun _ => rfl⟩,by decide⟩,rfl⟩
theorem line1 : LineOf lines[1] l[1] := ⟨4,12,12,[],⟨by decide,by decide,by decide,by decide,by decide,by decide,by decide,fun _ => rfl,fun _ => rfl,.inl ⟨rfl,rfl,fun _ => (by decide : (97 : UInt8) ≠ 34)⟩,by decide⟩,rfl⟩
theorem line2 : LineOf lines[2] l[2] := ⟨4,12,12,[],⟨by decide,by decide,by decide,by decide,by decide,by decide,by decide,fun _ => rfl,fun _ => rfl,.inl ⟨rfl,rfl,fun _ => (by decide : (98 : UInt8) ≠ 34)⟩,by decide⟩,rfl⟩
theorem line3 : LineOf lines[3] l[3] := ⟨3,10,10,[],⟨by decide,by decide,by decide,by decide,by decide,by decide,by decide,fun _ => rfl,fun _ => rfl,.inl ⟨rfl,rfl,fun _ => (by decide : (97 : UInt8) ≠ 34)⟩,by decide⟩,rfl⟩
theorem line4 : LineOf lines[4] l[4] := ⟨3,11,11,[],⟨by decide,by decide,by decide,by decide,by decide,by decide,by decide,fun _ => rfl,fun _ => rfl,.inl ⟨rfl,rfl,fun _ => (by decide : (97 : UInt8) ≠ 34)⟩,by decide⟩,rfl⟩
theorem line5 : LineOf lines[5] l[5] := ⟨2,9,13,[49],⟨by decide,by decide,by decide,by decide,by decide,by decide,by decide,fun _ => rfl,fun _ => rfl,.inr ⟨by decide,by decide,fun _ => rfl,by decide,by decide,fun _ => rfl⟩,by decide⟩,rfl⟩
theorem line (i : Nat) (h : i < lines.length) (h' : i < l.length) : LineOf lines[i] l[i] := by
 have hi : i < 6 := h
 have : i = 0 ∨ i = 1 ∨ i = 2 ∨ i = 3 ∨ i = 4 ∨ i = 5 := by omega
 rcases this with rfl | rfl | rfl | rfl | rfl | rfl
 ·exact line0
 ·exact line1
 ·exact line2
 ·exact line3
 ·exact line4
 ·exact line5
theorem fault2 : Ru.fault l = (0,-1) := by kernel_rfl
end Pl
theorem SheetOf_play (w : World) : Calls Tryz.prog 219 #[.string (ba Pl.text)] w fun e w' => ∃ v,e = .returned (.tuple #[v,.agg #[.int .i64 0,.int .i64 (-1)]]) ∧ Below w.heap.size w w' ∧ RNew w.heap.size w' v Pl.l :=
 SheetOf_calls Pl.text Pl.lines Pl.l (by decide) Pl.cut rfl (by decide) Pl.line Pl.fault2 Pl.small w
theorem RNew.more {n : Nat} {w w1 : World} {v : Value} {l : List Ru} (h : RNew n w v l) (hb : Below w.heap.size w w1) : RNew n w1 v l := fun V hz hV =>
 h V (Nat.le_trans hb.size hz) fun j hj hl => (hV j hj (Nat.lt_of_lt_of_le hl hb.size)).trans (hb.block j hl)
theorem RNew.row {n : Nat} {w : World} {v : Value} {l : List Ru} (h : RNew n w v l) : RRow w v l := h w (Nat.le_refl _) fun _ _ _ => rfl
theorem PlaySheet_calls (w : World) : Calls Tryz.prog 161 #[] w fun e w' => ∃ v,e = .returned v ∧ Below w.heap.size w w' ∧ RNew w.heap.size w' v Pl.l := by
 have HS := hid1 (SheetOf_play w)
 go_enter Tryz.func161,Tryz.ntmps161
 go_wp2_with fail
 refine HS.out.mono ?_
 rintro e w1 ⟨v,rfl,g1,hN⟩
 have HN := hid1 (hN.more ((Below.refl _ w1).alloc (o := .cells #[.int .i64 0,.int .i64 (-1)] 75) (Nat.le_refl _)))
 have G1 : Below w.heap.size w (w1.alloc (.cells #[.int .i64 0,.int .i64 (-1)] 75)) := g1.alloc g1.size _
 obtain ⟨p,c,e,-⟩ := hN.row
 subst e
 clear HS hN
 go_wp2
 go_ret
 exact ⟨_,rfl,G1,HN.out⟩
theorem allocs_heap (os : List Obj) : ∀ w : World,(os.foldl World.alloc w).heap = w.heap ++ os.toArray := by
 induction os with
 | nil => intro w;simp
 | cons o r ih =>
  intro w
  show (r.foldl World.alloc (w.alloc o)).heap = _
  rw [ih]
  show (w.heap.push o) ++ r.toArray = _
  apply Array.ext'
  simp
theorem allocs_below (os : List Obj) : ∀ w : World,Below w.heap.size w (os.foldl World.alloc w) := by
 induction os with
 | nil => intro w;exact Below.refl _ _
 | cons o r ih =>
  intro w
  have h1 : Below w.heap.size w (w.alloc o) := (Below.refl _ w).alloc (Nat.le_refl _) _
  exact h1.trans ((ih (w.alloc o)).mono h1.size)
theorem xrow_lit {V : World} {g : Nat} {l : List (List UInt8)} (h : V.heap[g]? = some (.cells (l.map sv).toArray 9)) : XRow V (.slice (some ⟨g,0,none⟩) l.length l.length) l :=
 ⟨_,_,rfl,Nat.le_refl _,fun h => (by cases h),fun _ => ⟨g,0,rfl,(Array.getElem?_eq_some_iff.1 h).1,fun j hj => by
  rw [Nat.zero_add]
  exact cell_of_row h (by simp [hj,sv])⟩⟩
namespace Pl
abbrev st (s : List UInt8) : Value := .string (ba s)
abbrev insO (l : List (List UInt8)) : Obj := .cells (l.map sv).toArray 9
def rulesO (n : Nat) : Obj := .cells #[st [97,108,108],st [106,111,105,110],st [43],.slice (some ⟨n,0,none⟩) 2 2,st [97,46,117,112],st [117,112,112,101,114],st [],.slice (some ⟨n + 1,0,none⟩) 1 1,st [98,46,117,112],st [117,112,112,101,114],st [],.slice (some ⟨n + 2,0,none⟩) 1 1,st [115,114,116],st [115,111,114,116],st [],.slice (some ⟨n + 3,0,none⟩) 3 3,st [99,110,116],st [99,111,117,110,116],st [],.slice (some ⟨n + 4,0,none⟩) 2 2,st [104,100],st [104,101,97,100],st [49],.slice (some ⟨n + 5,0,none⟩) 1 1] 96
def objs (n : Nat) : List Obj := [insO [[97,46,117,112],[98,46,117,112]],insO [[97]],insO [[98]],insO [[97],[98],[99]],insO [[97,108,108],[115,114,116]],insO [[115,114,116]],rulesO n]
theorem row {V w : World} (h : ∀ i,i < 7 → V.heap[w.heap.size + i]? = (objs w.heap.size)[i]?) : RRow V (.slice (some ⟨w.heap.size + 6,0,none⟩) 6 6) l := by
 have h6 : V.heap[w.heap.size + 6]? = some (rulesO w.heap.size) := h 6 (by decide)
 refine ⟨_,_,rfl,by decide,fun h => (by cases h),fun _ => ⟨w.heap.size + 6,0,rfl,(Array.getElem?_eq_some_iff.1 h6).1,fun j hj => ?_⟩⟩
 have hj' : j < 6 := hj
 have : j = 0 ∨ j = 1 ∨ j = 2 ∨ j = 3 ∨ j = 4 ∨ j = 5 := by omega
 rcases this with rfl | rfl | rfl | rfl | rfl | rfl
 ·exact ⟨cell_of_row (j := 0) h6 rfl,cell_of_row (j := 1) h6 rfl,cell_of_row (j := 2) h6 rfl,_,cell_of_row (j := 3) h6 rfl,xrow_lit (l := [[97,46,117,112],[98,46,117,112]]) (h 0 (by decide))⟩
 ·exact ⟨cell_of_row (j := 4) h6 rfl,cell_of_row (j := 5) h6 rfl,cell_of_row (j := 6) h6 rfl,_,cell_of_row (j := 7) h6 rfl,xrow_lit (l := [[97]]) (h 1 (by decide))⟩
 ·exact ⟨cell_of_row (j := 8) h6 rfl,cell_of_row (j := 9) h6 rfl,cell_of_row (j := 10) h6 rfl,_,cell_of_row (j := 11) h6 rfl,xrow_lit (l := [[98]]) (h 2 (by decide))⟩
 ·exact ⟨cell_of_row (j := 12) h6 rfl,cell_of_row (j := 13) h6 rfl,cell_of_row (j := 14) h6 rfl,_,cell_of_row (j := 15) h6 rfl,xrow_lit (l := [[97],[98],[99]]) (h 3 (by decide))⟩
 ·exact ⟨cell_of_row (j := 16) h6 rfl,cell_of_row (j := 17) h6 rfl,cell_of_row (j := 18) h6 rfl,_,cell_of_row (j := 19) h6 rfl,xrow_lit (l := [[97,108,108],[115,114,116]]) (h 4 (by decide))⟩
 ·exact ⟨cell_of_row (j := 20) h6 rfl,cell_of_row (j := 21) h6 rfl,cell_of_row (j := 22) h6 rfl,_,cell_of_row (j := 23) h6 rfl,xrow_lit (l := [[115,114,116]]) (h 5 (by decide))⟩
theorem laid (w : World) : Below w.heap.size w ((objs w.heap.size).foldl World.alloc w) ∧ RNew w.heap.size ((objs w.heap.size).foldl World.alloc w) (.slice (some ⟨w.heap.size + 6,0,none⟩) 6 6) l := by
 refine ⟨allocs_below _ w,fun V hz hV => row (w := w) fun i hi => ?_⟩
 have hh := allocs_heap (objs w.heap.size) w
 have hs : ((objs w.heap.size).foldl World.alloc w).heap.size = w.heap.size + 7 := by rw [hh];simp [objs]
 rw [hV (w.heap.size + i) (by omega) (by omega),hh,Array.getElem?_append_right (by omega)]
 simp
end Pl
theorem plSheet_calls (w : World) : Calls Tryz.prog 160 #[] w fun e w' => ∃ v,e = .returned v ∧ Below w.heap.size w w' ∧ RNew w.heap.size w' v Pl.l := by
 have HL := hid1 (Pl.laid w)
 go_enter Tryz.func160,Tryz.ntmps160
 go_wp2
 go_ret
 exact ⟨_,rfl,HL.out.1,HL.out.2⟩
end Go.Proofs.YthchjnopgagilaaGreatDoor
