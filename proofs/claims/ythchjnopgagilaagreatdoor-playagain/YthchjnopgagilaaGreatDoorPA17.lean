import Derived.Test.YthchjnopgagilaaGreatDoorPA16
set_option maxRecDepth 100000
set_option maxHeartbeats 16000000
namespace Go.Proofs.YthchjnopgagilaaGreatDoor
open Go.RowKit Go.Shelf Go.Lib
theorem ba_cat (a b : List UInt8) : ba a ++ ba b = ba (a ++ b) := ba_eq (by simp)
theorem row_newR (w : World) (o : Obj) : (w.alloc o).heap[w.heap.size]? = some o := by
 show (w.heap.push o)[w.heap.size]? = _
 simp
theorem below_setC {B : Nat} {w W : World} (h : Below B w W) {g i : Nat} (hg : B ≤ g) (v : Value) : Below B w (W.setCell ⟨g,i,none⟩ v) :=
 ⟨h.os,h.tape,h.output,by simp;exact h.size,fun j hj => (Below.heap_setCell W ⟨g,i,none⟩ v j (by show j ≠ g;omega)).trans (h.block j hj)⟩
theorem row_belowR {w w' : World} {b : Nat} {o : Obj} (h : w.heap[b]? = some o) (hb : Below w.heap.size w w') : w'.heap[b]? = some o := (hb.block b (Array.getElem?_eq_some_iff.1 h).1).trans h
theorem own_sliceR {W : World} {B : Nat} {e : TypeId} {s n : Nat} {v : Value} {xs : List Value} (h : W.ownsRow B e s v n xs) : ∃ p c,v = .slice p n c := by
 rcases h.2 with ⟨rfl,rfl⟩ | ⟨g,cap,cur,rfl,_⟩
 ·exact ⟨_,_,rfl⟩
 ·exact ⟨_,_,rfl⟩
abbrev mid (s : List UInt8) (i j : Nat) : List UInt8 := (s.take j).drop i
theorem mid_succ {s : List UInt8} {i j : Nat} (hi : i ≤ j) (hj : j < s.length) : mid s i (j + 1) = mid s i j ++ [s[j]] := by
 unfold mid
 rw [List.take_succ_eq_append_getElem hj,List.drop_append_of_le_length (by simp;omega)]
theorem mid_self (s : List UInt8) (i : Nat) : mid s i i = [] := List.drop_eq_nil_of_le (by simp;omega)
structure RuLine (s : List UInt8) (a b d : Nat) (wd : List UInt8) : Prop where
 few : s.length ≤ 10000
 eq : Lib.occAt s [32,61,32] a = true
 no : ∀ j,j < a → Lib.occAt s [32,61,32] j = false
 a3 : a + 3 ≤ b
 bd : b ≤ d
 dlt : d + 1 < s.length
 kind : ∀ j (hj : j < s.length),a + 3 ≤ j → j < b → s[j] ≠ 32
 stop : ∀ hb : b < s.length,s[b] = 32
 sep : ∀ hd : d < s.length,s[d] = 32
 word : (wd = [] ∧ d = b ∧ ∀ h : b + 1 < s.length,s[b + 1] ≠ 34) ∨ (wd ≠ [] ∧ d = b + 3 + wd.length ∧ (∀ h : b + 1 < s.length,s[b + 1] = 34) ∧ mid s (b + 2) (d - 1) = wd ∧ (∀ j (hj : j < s.length),b + 2 ≤ j → j < d - 1 → s[j] ≠ 34 ∧ s[j] ≠ 92) ∧ ∀ h : d - 1 < s.length,s[d - 1] = 34)
 full : [] ∉ cutB 32 (s.drop (d + 1))
theorem four_of {W : World} {n : Nat} {a0 a1 a2 a3 : Value} {e : TypeId} (h : W.heap[n]? = some (.cells #[a0,a1,a2,a3] e)) (a b c d : Value) :
  ((((W.setCell ⟨n,0,none⟩ a).setCell ⟨n,1,none⟩ b).setCell ⟨n,2,none⟩ c).setCell ⟨n,3,none⟩ d).drew.heap[n]? = some (.cells #[a,b,c,d] e) := by
 show ((((W.setCell ⟨n,0,none⟩ a).setCell ⟨n,1,none⟩ b).setCell ⟨n,2,none⟩ c).setCell ⟨n,3,none⟩ d).heap[n]? = _
 have h1 := heap_setCell_same W n 0 _ _ a h
 have h2 := heap_setCell_same _ n 1 _ _ b h1
 have h3 := heap_setCell_same _ n 2 _ _ c h2
 exact (heap_setCell_same _ n 3 _ _ d h3).trans rfl
theorem ruleof_end {w w6 : World} {v : Value} {l : List (List UInt8)} (hb : Below w.heap.size w w6) (hx : XIn (fun j => w.heap.size + 2 ≤ j) w6 v l) (a b c d : Value) :
  Below w.heap.size w ((((w6.setCell ⟨w.heap.size,0,none⟩ a).setCell ⟨w.heap.size,1,none⟩ b).setCell ⟨w.heap.size,2,none⟩ c).setCell ⟨w.heap.size,3,none⟩ d).drew ∧ XIn (fun j => w.heap.size ≤ j) ((((w6.setCell ⟨w.heap.size,0,none⟩ a).setCell ⟨w.heap.size,1,none⟩ b).setCell ⟨w.heap.size,2,none⟩ c).setCell ⟨w.heap.size,3,none⟩ d).drew v l := by
 refine ⟨(below_setC (below_setC (below_setC (below_setC hb (Nat.le_refl _) _) (Nat.le_refl _) _) (Nat.le_refl _) _) (Nat.le_refl _) _).drew,(hx.same (by show _ ≤ ((((w6.setCell ⟨w.heap.size,0,none⟩ a).setCell ⟨w.heap.size,1,none⟩ b).setCell ⟨w.heap.size,2,none⟩ c).setCell ⟨w.heap.size,3,none⟩ d).heap.size;simp) fun j hj _ => ?_).imp fun j hj => by omega⟩
 have e : ∀ (V : World) (i : Nat) (u : Value),(V.setCell ⟨w.heap.size,i,none⟩ u).heap[j]? = V.heap[j]? := fun V i u => Below.heap_setCell V ⟨w.heap.size,i,none⟩ u j (by show j ≠ w.heap.size;omega)
 show ((((w6.setCell ⟨w.heap.size,0,none⟩ a).setCell ⟨w.heap.size,1,none⟩ b).setCell ⟨w.heap.size,2,none⟩ c).setCell ⟨w.heap.size,3,none⟩ d).heap[j]? = _
 rw [e,e,e,e]
abbrev ruCell (o k w : List UInt8) (iv : Value) : Obj := .cells #[.string (ba o),.string (ba k),.string (ba w),iv] 96
theorem u8_ne {x y : UInt8} (h : x ≠ y) : ((x.toNat : Int) == (y.toNat : Int)) = false := beq_false_of_ne fun e => h (UInt8.toNat_inj.1 (by omega))
theorem RuleOf_calls {s : List UInt8} {a b d : Nat} {wd : List UInt8} (h : RuLine s a b d wd) (w : World) :
  Calls Tryz.prog 297 #[.string (ba s)] w fun e w' => ∃ iv,e = .returned (.tuple #[.agg #[.string (ba (s.take a)),.string (ba (mid s (a + 3) b)),.string (ba wd),iv],.bool true]) ∧ Below w.heap.size w w' ∧ XIn (fun j => w.heap.size ≤ j) w' iv (cutB 32 (s.drop (d + 1))) := by
 have HH := hid1 h
 have HHa := hid1 fun (i : Nat) (hi : i ≤ s.length) (V : World) => has_calls s [32,61,32] i (by have := h.few;omega) (by simp) hi V
 obtain ⟨bs,eb,T⟩ := txt s
 rw [eb] at HHa ⊢
 have HT := hid1 T
 have hf := h.few
 have hab := h.a3
 have hbd := h.bd
 have hdl := h.dlt
 have hbl : b ≤ s.length := by omega
 have hsz : bs.size = s.length := T.size
 have zf : (s.length : Int) ≤ 10000 := by omega
 clear h eb T
 go_enter Tryz.func297,Tryz.ntmps297
 go_wp2
 obtain ⟨w1,h1⟩ : ∃ w1,w1 = w.alloc (.cells #[.string ⟨#[]⟩,.string ⟨#[]⟩,.string ⟨#[]⟩,.slice none 0 0] 96) := ⟨_,rfl⟩
 have g1 : Below w.heap.size w w1 := by rw [h1];exact (Below.refl _ w).alloc (Nat.le_refl _) _
 have r1 : w1.heap[w.heap.size]? = some (.cells #[.string ⟨#[]⟩,.string ⟨#[]⟩,.string ⟨#[]⟩,.slice none 0 0] 96) := by rw [h1];exact row_newR _ _
 have hz1 : w1.heap.size = w.heap.size + 1 := by rw [h1];simp
 have HR1 := hid1 r1
 rw [← h1]
 clear h1 r1
 go_loopw [4] (fun av wr => ∃ k : Nat,k ≤ a ∧ av = .int .i64 k ∧ w1 = wr) (fun av _ => a - (intOf av).toNat)
 case atStart => exact ⟨0,Nat.zero_le _,rfl,rfl⟩
 case round =>
  obtain ⟨k,hk,rfl,rfl⟩ := hrel
  have k0 : (0 : Int) ≤ (k : Int) := by omega
  have k1 : (k : Int) < (bs.size : Int) := by omega
  have HH1 := hid1 (HHa.out k (by omega) w1)
  by_cases hka : k < a
  ·rw [HH.out.no k hka] at HH1
   go_wp2_with fail
   refine HH1.out.mono ?_
   rintro e w2 ⟨rfl,rfl⟩
   clear HH1
   go_wp2
   exact ⟨⟨k + 1,by omega,by go_num,trivial⟩,by simp [intOf];omega⟩
  ·obtain rfl : k = a := by omega
   rw [HH.out.eq] at HH1
   have k2 : (k : Int) ≤ (bs.size : Int) := by omega
   have kd : decide (s.length ≤ k) = false := decide_eq_false (by omega)
   go_wp2_with fail
   refine HH1.out.mono ?_
   rintro e w2 ⟨rfl,rfl⟩
   clear HH1
   go_wp2
   obtain ⟨w3,h3⟩ : ∃ w3,w3 = w2.alloc (.cells #[.string (bs.extract 0 k),.string ⟨#[]⟩,.string ⟨#[]⟩,.slice none 0 0] 96) := ⟨_,rfl⟩
   have g3 : Below w2.heap.size w2 w3 := by rw [h3];exact (Below.refl _ w2).alloc (Nat.le_refl _) _
   have e3 : bs.extract 0 k = ba (s.take k) := by rw [HT.out.extract];rfl
   have r3 : w3.heap[w2.heap.size]? = some (ruCell (s.take k) (mid s (k + 3) (k + 3)) [] (.slice none 0 0)) := by rw [h3,e3,mid_self];exact row_newR _ _
   have HR3 := hid1 (And.intro r3 g3)
   rw [← h3]
   clear h3 r3 g3 e3
   rw [hz1] at HR3
   go_loopw [4] (fun av wr => ∃ j : Nat,k + 3 ≤ j ∧ j ≤ b ∧ av = .int .i64 j ∧ wr.heap[w.heap.size + 1]? = some (ruCell (s.take k) (mid s (k + 3) j) [] (.slice none 0 0)) ∧ Below (w.heap.size + 1) w2 wr) (fun av _ => b - (intOf av).toNat)
   case atStart => exact ⟨k + 3,Nat.le_refl _,hab,by go_num,HR3.out.1,HR3.out.2⟩
   case round =>
    clear HR3
    obtain ⟨j,hj1,hj2,rfl,hr,hB⟩ := hrel
    have j0 : (0 : Int) ≤ (j : Int) := by omega
    have HRr := hid1 hr
    have c0 := cell_of_row (j := 0) hr rfl
    have c1 := cell_of_row (j := 1) hr rfl
    have c2 := cell_of_row (j := 2) hr rfl
    have c3 := cell_of_row (j := 3) hr rfl
    have f1 : wr.frozen? ⟨w.heap.size + 1,1,none⟩ = false := frozen_of_row wr _ 1 _ _ hr
    by_cases hjb : j < b
    ·have hjs : j < s.length := by omega
     have hjz : j < bs.size := by omega
     have j1 : (j : Int) < (bs.size : Int) := by omega
     have j2 : j + 1 ≤ s.length := by omega
     have j3 : (j : Int) + 1 ≤ (s.length : Int) := by omega
     have j4 : (j : Int) ≤ (j : Int) + 1 := by omega
     have j5 : j ≤ j + 1 := by omega
     have hx := HT.out.get j hjs hjz
     have hn := u8_ne (HH.out.kind j hjs hj1 hjb)
     rw [← hx] at hn
     have hn' : ((bs[j].toNat : Int) == 32) = false := hn
     have e4 : bs.extract j (j + 1) = ba [s[j]] := by
      rw [HT.out.extract]
      show ba (mid s j (j + 1)) = _
      rw [mid_succ (Nat.le_refl _) hjs,mid_self]
      rfl
     have HQ : Hid ((wr.setCell ⟨w.heap.size + 1,1,none⟩ (.string (ba (mid s (k + 3) j) ++ ba [s[j]]))).drew.heap[w.heap.size + 1]? = some (ruCell (s.take k) (mid s (k + 3) (j + 1)) [] (.slice none 0 0)) ∧ Below (w.heap.size + 1) w2 (wr.setCell ⟨w.heap.size + 1,1,none⟩ (.string (ba (mid s (k + 3) j) ++ ba [s[j]]))).drew) := hid1 (by
      refine ⟨?_,(below_setC hB (Nat.le_refl _) _).drew⟩
      show (wr.setCell ⟨w.heap.size + 1,1,none⟩ (.string (ba (mid s (k + 3) j) ++ ba [s[j]]))).heap[w.heap.size + 1]? = _
      rw [heap_setCell_same wr _ 1 _ _ _ HRr.out,ba_cat,mid_succ hj1 hjs]
      rfl)
     clear hr hx hn
     go_wp2
     go_region
     go_wp2
     exact ⟨⟨j + 1,by omega,by omega,by go_num,HQ.out.1,HQ.out.2⟩,by simp [intOf];omega⟩
    ·obtain rfl : j = b := by omega
     have j1 : (j : Int) + 1 < (s.length : Int) := by omega
     have j2 : (j : Int) < (s.length : Int) := by omega
     have jz : j < bs.size := by omega
     have jz1 : j + 1 < bs.size := by omega
     have hn32 : ((bs[j].toNat : Int) == 32) = true := by rw [HT.out.get j (by omega) jz,HH.out.stop (by omega)];rfl
     rcases HH.out.word with ⟨rfl,hdj,hw34⟩ | ⟨hw0,hd,hw34,hmid,hwx,hq⟩
     ·subst hdj
      have hn34 : ((bs[d + 1].toNat : Int) == 34) = false := by rw [HT.out.get (d + 1) (by omega) jz1];exact u8_ne (hw34 (by omega))
      clear hw34
      have d0 : (0 : Int) ≤ (d : Int) := by omega
      have d1 : (d : Int) < (s.length : Int) := by omega
      have d2 : (d : Int) + 1 ≤ (s.length : Int) := by omega
      have d3 : d < bs.size := by omega
      have d4 : d + 1 ≤ s.length := by omega
      have hd32 : ((bs[d].toNat : Int) == 32) = true := by rw [HT.out.get d (by omega) d3,HH.out.sep (by omega)];rfl
      have eC : bs.extract (d + 1) s.length = ba (s.drop (d + 1)) := by rw [HT.out.extract,List.take_length]
      have HCu := rCut_calls (s.drop (d + 1)) (by simp;omega) 32 32 rfl wr
      have HCu := hid1 HCu
      go_wp2_with fail
      refine HCu.out.mono ?_
      rintro e w5 ⟨v,rfl,hrow,g5⟩
      have r5 := row_belowR HRr.out g5
      have q5 : w5.heap[w.heap.size]? = some (.cells #[.string ⟨#[]⟩,.string ⟨#[]⟩,.string ⟨#[]⟩,.slice none 0 0] 96) := row_belowR (((hB).block w.heap.size (by omega)).trans HR1.out) g5
      have hsz5 : w.heap.size + 1 < w5.heap.size := (Array.getElem?_eq_some_iff.1 r5).1
      have HX5 : Hid (XIn (fun j => w.heap.size + 2 ≤ j) w5 v (cutB 32 (s.drop (d + 1)))) := hid1 ⟨XRow.of_owns hrow,fun a n cap e _ => by
       subst e
       have := row_low4 hrow a.block (by simp [Value.ownBlock])
       have := (Array.getElem?_eq_some_iff.1 (HRr.out)).1
       omega⟩
      have hB5 : Below (w.heap.size + 1) w2 w5 := (hB).trans (g5.mono (by have := (hB).size;omega))
      obtain ⟨pv,cv,ev⟩ := own_sliceR hrow
      subst ev
      have c3' := cell_of_row (j := 3) r5 rfl
      have f3' : w5.frozen? ⟨w.heap.size + 1,3,none⟩ = false := frozen_of_row w5 _ 3 _ _ r5
      have r6 : (w5.setCell ⟨w.heap.size + 1,3,none⟩ (.slice pv (cutB 32 (s.drop (d + 1))).length cv)).heap[w.heap.size + 1]? = some (ruCell (s.take k) (mid s (k + 3) d) ([]) (.slice pv (cutB 32 (s.drop (d + 1))).length cv)) := by rw [heap_setCell_same w5 _ 3 _ _ _ r5];rfl
      have q6 : (w5.setCell ⟨w.heap.size + 1,3,none⟩ (.slice pv (cutB 32 (s.drop (d + 1))).length cv)).heap[w.heap.size]? = _ := (Below.heap_setCell w5 ⟨w.heap.size + 1,3,none⟩ (.slice pv (cutB 32 (s.drop (d + 1))).length cv) w.heap.size (by show w.heap.size ≠ w.heap.size + 1;omega)).trans q5
      have B6 : Below (w.heap.size + 1) w2 (w5.setCell ⟨w.heap.size + 1,3,none⟩ (.slice pv (cutB 32 (s.drop (d + 1))).length cv)) := below_setC hB5 (Nat.le_refl _) _
      have HX6 : Hid (XIn (fun j => w.heap.size + 2 ≤ j) (w5.setCell ⟨w.heap.size + 1,3,none⟩ (.slice pv (cutB 32 (s.drop (d + 1))).length cv)) (.slice pv (cutB 32 (s.drop (d + 1))).length cv) (cutB 32 (s.drop (d + 1)))) := hid1 (HX5.out.same (by simp) fun j hj _ => Below.heap_setCell w5 ⟨w.heap.size + 1,3,none⟩ _ j (by show j ≠ w.heap.size + 1;omega))
      have hz6 : (w5.setCell ⟨w.heap.size + 1,3,none⟩ (.slice pv (cutB 32 (s.drop (d + 1))).length cv)).heap.size = w5.heap.size := by simp
      clear HCu hrow r5 q5 HX5 HRr hr c0 c1 c2 c3 f1
      go_wp2_with fail
      generalize hw6 : w5.setCell ⟨w.heap.size + 1,3,none⟩ (.slice pv (cutB 32 (s.drop (d + 1))).length cv) = w6 at *
      have x0 := cell_of_row (j := 0) r6 rfl
      have x1 := cell_of_row (j := 1) r6 rfl
      have x2 := cell_of_row (j := 2) r6 rfl
      have x3 := cell_of_row (j := 3) r6 rfl
      have y0 := cell_of_row (j := 0) q6 rfl
      have y1 := cell_of_row (j := 1) q6 rfl
      have y2 := cell_of_row (j := 2) q6 rfl
      have y3 := cell_of_row (j := 3) q6 rfl
      have fz : ∀ i,w6.frozen? ⟨w.heap.size,i,none⟩ = false := fun i => frozen_of_row w6 _ i _ _ q6
      have HFull := hid1 HH.out.full
      have HIx : Hid (Calls Tryz.prog 74 #[.slice pv (cutB 32 (s.drop (d + 1))).length cv,.string ⟨#[]⟩] w6.drew fun e w' => e = .returned (.int .i64 (-1)) ∧ w' = w6.drew) := hid1 ((rIndex_calls (w := w6.drew) _ (cutB 32 (s.drop (d + 1))) [] (HX6.out.1.below (Below.refl _ w6).drew).irow (by have := cutB_len 32 (s.drop (d + 1));have : (s.drop (d + 1)).length ≤ 10000 := (by simp;omega);omega)).mono (by
       rintro e w' ⟨r,rfl,rfl,⟨rfl,-⟩ | ⟨i,rfl,hi,e2,-⟩⟩
       ·exact ⟨rfl,rfl⟩
       ·exact absurd (e2 ▸ List.getElem_mem hi) HFull.out))
      have B7 : Below w.heap.size w w6 := g1.trans (B6.mono (by omega))
      have HQ := hid1 (And.intro B7 (And.intro HX6.out q6))
      clear HCu c3' f3' r6 q6 HX6 hw6 HH HT HHa HFull hz6 B6 B7 g5 hB5 eC hd32 HR1 hn32
      go_region_held3 (fun w' => w'.cell? ⟨w.heap.size + 1,0,none⟩ = some (.string (ba (s.take k))) ∧ w'.cell? ⟨w.heap.size + 1,1,none⟩ = some (.string (ba (mid s (k + 3) d))) ∧ w'.cell? ⟨w.heap.size + 1,2,none⟩ = some (.string (ba ([]))) ∧ w'.cell? ⟨w.heap.size + 1,3,none⟩ = some (.slice pv (cutB 32 (s.drop (d + 1))).length cv)) (first | go_keep | fail)
       (first | (go_at_call 74;refine HIx.out.mono ?_;rintro e w7 ⟨rfl,rfl⟩) | fail)
      all_goals
       have HE := hid1 (ruleof_end HQ.out.1 HQ.out.2.1 (.string (ba (s.take k))) (.string (ba (mid s (k + 3) d))) (.string (ba ([]))) (.slice pv (cutB 32 (s.drop (d + 1))).length cv))
       have HK := hid1 (four_of HQ.out.2.2 (.string (ba (s.take k))) (.string (ba (mid s (k + 3) d))) (.string (ba ([]))) (.slice pv (cutB 32 (s.drop (d + 1))).length cv))
       clear HQ HIx
       go_wp2
       refine bodyPost_ret (v := .tuple #[.agg #[.string (ba (s.take k)),.string (ba (mid s (k + 3) d)),.string (ba ([])),.slice pv (cutB 32 (s.drop (d + 1))).length cv],.bool true]) ?_ rfl ⟨_,rfl,HE.out.1,HE.out.2⟩
       have k0 := cell_of_row (j := 0) HK.out rfl
       have k1 := cell_of_row (j := 1) HK.out rfl
       have k2 := cell_of_row (j := 2) HK.out rfl
       have k3 := cell_of_row (j := 3) HK.out rfl
       simp [results,Tryz.f297,go_sem,k0,k1,k2,k3]
     ·have hn34 : ((bs[j + 1].toNat : Int) == 34) = true := by rw [HT.out.get (j + 1) (by omega) jz1,hw34 (by omega)];rfl
      have HWx := hid1 hwx
      have HMid := hid1 hmid
      have HQ34 := hid1 hq
      have HRw : Hid (wr.heap[w.heap.size + 1]? = some (ruCell (s.take k) (mid s (k + 3) j) (mid s (j + 2) (j + 2)) (.slice none 0 0))) := hid1 (by rw [mid_self];exact HRr.out)
      have hw1 : wd.length ≠ 0 := fun e => hw0 (List.length_eq_zero_iff.1 e)
      have hj3 : (j : Int) + 2 ≤ (s.length : Int) := by omega
      clear hw34 hmid hwx hq hr c0 c1 c2 c3 f1 HRr
      go_wp2
      go_loopw [4] (fun av wr' => ∃ i : Nat,j + 2 ≤ i ∧ i ≤ d - 1 ∧ av = .int .i64 i ∧ wr'.heap[w.heap.size + 1]? = some (ruCell (s.take k) (mid s (k + 3) j) (mid s (j + 2) i) (.slice none 0 0)) ∧ Below (w.heap.size + 1) w2 wr') (fun av _ => d - (intOf av).toNat)
      case atStart => exact ⟨j + 2,Nat.le_refl _,by omega,by go_num,HRw.out,hB⟩
      case round =>
       clear HRw hB
       rename_i wr0
       obtain ⟨i,hi1,hi2,rfl,hr,hB⟩ := hrel
       have i0 : (0 : Int) ≤ (i : Int) := by omega
       have HRr := hid1 hr
       have c0 := cell_of_row (j := 0) hr rfl
       have c1 := cell_of_row (j := 1) hr rfl
       have c2 := cell_of_row (j := 2) hr rfl
       have c3 := cell_of_row (j := 3) hr rfl
       have f2 : wr.frozen? ⟨w.heap.size + 1,2,none⟩ = false := frozen_of_row wr _ 2 _ _ hr
       have i1 : (i : Int) < (s.length : Int) := by omega
       have iz : i < bs.size := by omega
       by_cases hid : i < d - 1
       ·have his : i < s.length := by omega
        have hx34 : ((bs[i].toNat : Int) == 34) = false := by rw [HT.out.get i his iz];exact u8_ne (HWx.out i his hi1 hid).1
        have hx92 : ((bs[i].toNat : Int) == 92) = false := by rw [HT.out.get i his iz];exact u8_ne (HWx.out i his hi1 hid).2
        have i3 : (i : Int) + 1 ≤ (s.length : Int) := by omega
        have i4 : (i : Int) ≤ (i : Int) + 1 := by omega
        have i5 : i ≤ i + 1 := by omega
        have i6 : i + 1 ≤ s.length := by omega
        have e4 : bs.extract i (i + 1) = ba [s[i]] := by
         rw [HT.out.extract]
         show ba (mid s i (i + 1)) = _
         rw [mid_succ (Nat.le_refl _) his,mid_self]
         rfl
        have HQ : Hid ((wr.setCell ⟨w.heap.size + 1,2,none⟩ (.string (ba (mid s (j + 2) i) ++ ba [s[i]]))).drew.heap[w.heap.size + 1]? = some (ruCell (s.take k) (mid s (k + 3) j) (mid s (j + 2) (i + 1)) (.slice none 0 0)) ∧ Below (w.heap.size + 1) w2 (wr.setCell ⟨w.heap.size + 1,2,none⟩ (.string (ba (mid s (j + 2) i) ++ ba [s[i]]))).drew) := hid1 (by
         refine ⟨?_,(below_setC hB (Nat.le_refl _) _).drew⟩
         show (wr.setCell ⟨w.heap.size + 1,2,none⟩ (.string (ba (mid s (j + 2) i) ++ ba [s[i]]))).heap[w.heap.size + 1]? = _
         rw [heap_setCell_same wr _ 2 _ _ _ HRr.out,ba_cat,mid_succ hi1 his]
         rfl)
        clear hr
        go_wp2
        go_region
        go_wp2
        exact ⟨⟨i + 1,by omega,by omega,by go_num,HQ.out.1,HQ.out.2⟩,by simp [intOf];omega⟩
       ·have ei : i = d - 1 := by omega
        have hn34' : ((bs[i].toNat : Int) == 34) = true := by
         rw [HT.out.get i (by omega) iz]
         subst ei
         rw [HQ34.out (by omega)]
         rfl
        have HMw : Hid (mid s (j + 2) i = wd) := hid1 (by rw [ei];exact HMid.out)
        have HRw : Hid (wr.heap[w.heap.size + 1]? = some (ruCell (s.take k) (mid s (k + 3) j) wd (.slice none 0 0))) := hid1 (by rw [← HMw.out];exact hr)
        have hr := HRw.out
        have hwe : wd.isEmpty = false := by cases wd with | nil => exact absurd rfl hw0 | cons _ _ => rfl
        clear c0 c1 c2 c3
        have c2 := cell_of_row (j := 2) hr rfl
        have hd' : d = i + 1 := by omega
        have i7 : (i : Int) + 1 < (s.length : Int) := by omega
        clear hd ei HMw HMid HWx HQ34 f2 HRr hr
        subst hd'
        have HRr := hid1 HRw.out
        have d0 : (0 : Int) ≤ ((i + 1) : Int) := by omega
        have d1 : ((i + 1) : Int) < (s.length : Int) := by omega
        have d2 : ((i + 1) : Int) + 1 ≤ (s.length : Int) := by omega
        have d3 : (i + 1) < bs.size := by omega
        have d4 : (i + 1) + 1 ≤ s.length := by omega
        have hd32 : ((bs[(i + 1)].toNat : Int) == 32) = true := by rw [HT.out.get (i + 1) (by omega) d3,HH.out.sep (by omega)];rfl
        have eC : bs.extract ((i + 1) + 1) s.length = ba (s.drop ((i + 1) + 1)) := by rw [HT.out.extract,List.take_length]
        have HCu := rCut_calls (s.drop ((i + 1) + 1)) (by simp;omega) 32 32 rfl wr
        have HCu := hid1 HCu
        go_wp2_with fail
        refine HCu.out.mono ?_
        rintro e w5 ⟨v,rfl,hrow,g5⟩
        have r5 := row_belowR HRr.out g5
        have q5 : w5.heap[w.heap.size]? = some (.cells #[.string ⟨#[]⟩,.string ⟨#[]⟩,.string ⟨#[]⟩,.slice none 0 0] 96) := row_belowR (((hB).block w.heap.size (by omega)).trans HR1.out) g5
        have hsz5 : w.heap.size + 1 < w5.heap.size := (Array.getElem?_eq_some_iff.1 r5).1
        have HX5 : Hid (XIn (fun j => w.heap.size + 2 ≤ j) w5 v (cutB 32 (s.drop ((i + 1) + 1)))) := hid1 ⟨XRow.of_owns hrow,fun a n cap e _ => by
         subst e
         have := row_low4 hrow a.block (by simp [Value.ownBlock])
         have := (Array.getElem?_eq_some_iff.1 (HRr.out)).1
         omega⟩
        have hB5 : Below (w.heap.size + 1) w2 w5 := (hB).trans (g5.mono (by have := (hB).size;omega))
        obtain ⟨pv,cv,ev⟩ := own_sliceR hrow
        subst ev
        have c3' := cell_of_row (j := 3) r5 rfl
        have f3' : w5.frozen? ⟨w.heap.size + 1,3,none⟩ = false := frozen_of_row w5 _ 3 _ _ r5
        have r6 : (w5.setCell ⟨w.heap.size + 1,3,none⟩ (.slice pv (cutB 32 (s.drop ((i + 1) + 1))).length cv)).heap[w.heap.size + 1]? = some (ruCell (s.take k) (mid s (k + 3) j) (wd) (.slice pv (cutB 32 (s.drop ((i + 1) + 1))).length cv)) := by rw [heap_setCell_same w5 _ 3 _ _ _ r5];rfl
        have q6 : (w5.setCell ⟨w.heap.size + 1,3,none⟩ (.slice pv (cutB 32 (s.drop ((i + 1) + 1))).length cv)).heap[w.heap.size]? = _ := (Below.heap_setCell w5 ⟨w.heap.size + 1,3,none⟩ (.slice pv (cutB 32 (s.drop ((i + 1) + 1))).length cv) w.heap.size (by show w.heap.size ≠ w.heap.size + 1;omega)).trans q5
        have B6 : Below (w.heap.size + 1) w2 (w5.setCell ⟨w.heap.size + 1,3,none⟩ (.slice pv (cutB 32 (s.drop ((i + 1) + 1))).length cv)) := below_setC hB5 (Nat.le_refl _) _
        have HX6 : Hid (XIn (fun j => w.heap.size + 2 ≤ j) (w5.setCell ⟨w.heap.size + 1,3,none⟩ (.slice pv (cutB 32 (s.drop ((i + 1) + 1))).length cv)) (.slice pv (cutB 32 (s.drop ((i + 1) + 1))).length cv) (cutB 32 (s.drop ((i + 1) + 1)))) := hid1 (HX5.out.same (by simp) fun j hj _ => Below.heap_setCell w5 ⟨w.heap.size + 1,3,none⟩ _ j (by show j ≠ w.heap.size + 1;omega))
        have hz6 : (w5.setCell ⟨w.heap.size + 1,3,none⟩ (.slice pv (cutB 32 (s.drop ((i + 1) + 1))).length cv)).heap.size = w5.heap.size := by simp
        clear HCu hrow r5 q5 HX5 HRr c2
        go_wp2_with fail
        generalize hw6 : w5.setCell ⟨w.heap.size + 1,3,none⟩ (.slice pv (cutB 32 (s.drop ((i + 1) + 1))).length cv) = w6 at *
        have x0 := cell_of_row (j := 0) r6 rfl
        have x1 := cell_of_row (j := 1) r6 rfl
        have x2 := cell_of_row (j := 2) r6 rfl
        have x3 := cell_of_row (j := 3) r6 rfl
        have y0 := cell_of_row (j := 0) q6 rfl
        have y1 := cell_of_row (j := 1) q6 rfl
        have y2 := cell_of_row (j := 2) q6 rfl
        have y3 := cell_of_row (j := 3) q6 rfl
        have fz : ∀ i,w6.frozen? ⟨w.heap.size,i,none⟩ = false := fun i => frozen_of_row w6 _ i _ _ q6
        have HFull := hid1 HH.out.full
        have HIx : Hid (Calls Tryz.prog 74 #[.slice pv (cutB 32 (s.drop ((i + 1) + 1))).length cv,.string ⟨#[]⟩] w6.drew fun e w' => e = .returned (.int .i64 (-1)) ∧ w' = w6.drew) := hid1 ((rIndex_calls (w := w6.drew) _ (cutB 32 (s.drop ((i + 1) + 1))) [] (HX6.out.1.below (Below.refl _ w6).drew).irow (by have := cutB_len 32 (s.drop ((i + 1) + 1));have : (s.drop ((i + 1) + 1)).length ≤ 10000 := (by simp;omega);omega)).mono (by
         rintro e w' ⟨r,rfl,rfl,⟨rfl,-⟩ | ⟨i,rfl,hi,e2,-⟩⟩
         ·exact ⟨rfl,rfl⟩
         ·exact absurd (e2 ▸ List.getElem_mem hi) HFull.out))
        have B7 : Below w.heap.size w w6 := g1.trans (B6.mono (by omega))
        have HQ := hid1 (And.intro B7 (And.intro HX6.out q6))
        clear HCu c3' f3' r6 q6 HX6 hw6 HH HT HHa HFull hz6 B6 B7 g5 hB5 eC hd32 HR1 hn32
        go_region_held3 (fun w' => w'.cell? ⟨w.heap.size + 1,0,none⟩ = some (.string (ba (s.take k))) ∧ w'.cell? ⟨w.heap.size + 1,1,none⟩ = some (.string (ba (mid s (k + 3) j))) ∧ w'.cell? ⟨w.heap.size + 1,2,none⟩ = some (.string (ba (wd))) ∧ w'.cell? ⟨w.heap.size + 1,3,none⟩ = some (.slice pv (cutB 32 (s.drop ((i + 1) + 1))).length cv)) (first | go_keep | fail)
         (first | (go_at_call 74;refine HIx.out.mono ?_;rintro e w7 ⟨rfl,rfl⟩) | fail)
        all_goals
         have HE := hid1 (ruleof_end HQ.out.1 HQ.out.2.1 (.string (ba (s.take k))) (.string (ba (mid s (k + 3) j))) (.string (ba (wd))) (.slice pv (cutB 32 (s.drop ((i + 1) + 1))).length cv))
         have HK := hid1 (four_of HQ.out.2.2 (.string (ba (s.take k))) (.string (ba (mid s (k + 3) j))) (.string (ba (wd))) (.slice pv (cutB 32 (s.drop ((i + 1) + 1))).length cv))
         clear HQ HIx
         go_wp2
         refine bodyPost_ret (v := .tuple #[.agg #[.string (ba (s.take k)),.string (ba (mid s (k + 3) j)),.string (ba (wd)),.slice pv (cutB 32 (s.drop ((i + 1) + 1))).length cv],.bool true]) ?_ rfl ⟨_,rfl,HE.out.1,HE.out.2⟩
         have k0 := cell_of_row (j := 0) HK.out rfl
         have k1 := cell_of_row (j := 1) HK.out rfl
         have k2 := cell_of_row (j := 2) HK.out rfl
         have k3 := cell_of_row (j := 3) HK.out rfl
         simp [results,Tryz.f297,go_sem,k0,k1,k2,k3]
open Go.RowKit Go.Shelf Go.Lib Go.Extern.Stop Go.Stop Go.Extern
def Told (w : World) (es : Nat → Addr) (n : Nat) (c : Nat → Nat) (u : Value) : Prop :=
 ((∀ j,j < n → c j = 0) ∧ u = .nilIface) ∨ ∃ k pb,k < n ∧ c k ≠ 0 ∧ (∀ j,j < k → c j = 0) ∧ u = .iface 200 (.pointer (some ⟨pb,0,none⟩)) ∧ w.cell? ⟨pb,0,none⟩ = some (.int .i64 k) ∧ w.cell? ⟨pb,1,none⟩ = some (erOf es (c k))
theorem searchS_calls {w : World} {es : Nat → Addr} (v : Value) (l : List (List UInt8)) (hrow : XRow w v l) (hl : l.length ≤ 1000000) (f : Nat) (caps : Array Value) (eg : ∀ args w,(callFunc f args).run Tryz.prog w = .ok (.enter f args) w) (c : Nat → Nat)
  (HS : Hid (∀ k (hk : k < l.length) W,Below w.heap.size w W → Calls Tryz.prog f (#[.int .i64 k,.string (ba l[k])] ++ caps) W fun e w' => e = .returned (erOf es (c k)) ∧ Below W.heap.size W w')) :
  Calls Tryz.prog 291 #[v,.func (.func f) #[] caps] w fun e w' => ∃ u,e = .returned u ∧ Below w.heap.size w w' ∧ Told w' es l.length c u := by
 obtain ⟨p,cap,rfl,hcap,_,hin⟩ := hrow
 have HI := hid1 hin
 clear hin
 have zl : (l.length : Int) ≤ 1000000 := by omega
 go_enter Tryz.func291,Tryz.ntmps291
 go_wp2
 go_loopw [10] (fun i wr => ∃ k : Nat,k ≤ l.length ∧ i = .int .i64 k ∧ (∀ j,j < k → c j = 0) ∧ Below w.heap.size w wr) (fun i _ => l.length - (intOf i).toNat)
 case atStart => exact ⟨0,Nat.zero_le _,rfl,fun j h => by omega,Below.refl _ _⟩
 case round =>
  obtain ⟨k,hk,rfl,hz,hB⟩ := hrel
  have HZ := hid1 hz
  clear hz
  have c0 : (0 : Int) ≤ (k : Int) := by omega
  by_cases hlt : k < l.length
  ·have c1 : (k : Int) < (l.length : Int) := by omega
   obtain ⟨g',o,rfl,hg,hcur⟩ := HI.out (by intro e;rw [e] at hlt;simp at hlt)
   have hcell := (hB.cell (p := ⟨g',o + k,none⟩) hg).trans (hcur k hlt)
   have HC := HS.out k hlt wr hB
   clear hcur HI HS
   generalize l[k] = y at *
   cases hc : c k with
   | zero =>
    rw [hc] at HC
    simp only [erOf] at HC
    have HN : Hid (∀ j,j < k + 1 → c j = 0) := hid1 fun j hj => by
     rcases Nat.lt_or_ge j k with h | h
     ·exact HZ.out j h
     ·obtain rfl : j = k := by omega
      exact hc
    clear hc HZ
    go_wp2_with fail
    refine Calls.mono HC ?_
    rintro e w1 ⟨rfl,hb1⟩
    clear HC
    go_wp2
    exact ⟨⟨k + 1,by omega,by go_num,HN.out,below_then hB hb1⟩,by simp [intOf];omega⟩
   | succ m =>
    rw [hc] at HC
    have HE := hid1 hc
    clear hc
    simp only [erOf] at HC
    go_wp2_with fail
    refine Calls.mono HC ?_
    rintro e w1 ⟨rfl,hb1⟩
    clear HC
    go_wp2
    go_ret
    refine ⟨_,rfl,(below_then hB hb1).alloc (below_then hB hb1).size _,.inr ⟨k,w1.heap.size,hlt,by rw [HE.out];omega,HZ.out,rfl,?_,?_⟩⟩
    ·simp
    ·rw [HE.out]
     simp [erOf]
  ·have c1 : (l.length : Int) ≤ (k : Int) := by omega
   have HN : Hid (∀ j,j < l.length → c j = 0) := hid1 fun j hj => HZ.out j (by omega)
   clear HI HS HZ
   go_wp2
   go_ret
   exact ⟨_,rfl,hB,.inl ⟨HN.out,rfl⟩⟩
theorem as_nil (t : Value) (w : World) : Calls Tryz.prog 167 #[.nilIface,t] w fun e w' => e = .returned (.bool false) ∧ w' = w := by
 go_enter Tryz.func167,Tryz.ntmps167
 go_wp2
 go_ret
 exact ⟨rfl,rfl⟩
theorem bare_nil (w : World) : Calls Tryz.prog 293 #[.nilIface] w fun e w' => e = .returned .nilIface ∧ Below w.heap.size w w' := by
 have HA := hid1 fun t W => as_nil t W
 go_enter Tryz.func293,Tryz.ntmps293
 go_wp2_with fail
 refine (HA.out _ _).mono ?_
 rintro e w1 ⟨rfl,rfl⟩
 go_wp2
 go_ret
 exact ⟨rfl,(Below.refl _ w).alloc (Nat.le_refl _) _⟩
theorem bare_fault {w : World} {es : Nat → Addr} (hE : ES w es) (pb : Nat) (t : TypeId) (u : Value) (h1 : w.cell? ⟨pb,1,none⟩ = some (.iface t u)) :
  Calls Tryz.prog 293 #[.iface 200 (.pointer (some ⟨pb,0,none⟩))] w fun e w' => e = .returned (.iface t u) ∧ Below w.heap.size w w' := by
 have hB0 : Below w.heap.size w (w.alloc (.cells #[.pointer none] 200)) := (Below.refl _ w).alloc (Nat.le_refl _) _
 have hE0 := hE.below hB0
 go_enter Tryz.func293,Tryz.ntmps293
 go_wp2_with fail
 refine (as_hit ⟨pb,0,none⟩ ⟨w.heap.size,0,none⟩ (.pointer none) _ hE0.t (by simp) (by simp)).mono ?_
 rintro e w1 ⟨rfl,hw1⟩
 have hB1 : Below w.heap.size w w1 := by
  rw [hw1]
  exact (((((hB0.alloc (by simp) _).alloc (by simp;omega) _).alloc (by simp;omega) _).alloc (by simp;omega) _).setCell (p := ⟨w.heap.size,0,none⟩) (Nat.le_refl _) _)
 have hc1 : w1.cell? ⟨w.heap.size,0,none⟩ = some (.pointer (some ⟨pb,0,none⟩)) := by
  rw [hw1]
  refine World.cell?_setCell_same' _ _ _ ?_
  rw [World.cell?_alloc_lt _ _ ⟨w.heap.size,0,none⟩ (by simp;omega),World.cell?_alloc_lt _ _ ⟨w.heap.size,0,none⟩ (by simp;omega),World.cell?_alloc_lt _ _ ⟨w.heap.size,0,none⟩ (by simp;omega),World.cell?_alloc_lt _ _ ⟨w.heap.size,0,none⟩ (by simp)]
  simp
 clear hw1
 have g1 := cell_below h1 hB1
 clear hE0 hB0 h1 hE
 go_wp2
 go_ret
 exact ⟨rfl,hB1⟩
theorem bare_told {w : World} {es : Nat → Addr} (hE : ES w es) {n : Nat} {c : Nat → Nat} {u : Value} (h : Told w es n c u) :
  Calls Tryz.prog 293 #[u] w fun e w' => e = .returned (erOf es (Ru.firstC c n)) ∧ Below w.heap.size w w' := by
 rcases h with ⟨h0,rfl⟩ | ⟨k,pb,hk,hc,h0,rfl,_,h1⟩
 ·rw [Ru.firstC_none h0]
  exact bare_nil w
 ·rw [Ru.firstC_some hk hc h0]
  obtain ⟨m,hm⟩ : ∃ m,c k = m + 1 := ⟨c k - 1,by omega⟩
  rw [hm] at h1 ⊢
  exact bare_fault hE pb _ _ h1
end Go.Proofs.YthchjnopgagilaaGreatDoor
namespace Go.Proofs.YthchjnopgagilaaGreatDoor
open Go.RowKit Go.Shelf Go.Lib
theorem pCheck_any {w : World} {es : Nat → Addr} (hE : ES w es) (s : List UInt8) (hs : s.length ≤ 1000000) :
  Calls Tryz.prog 172 #[.string (ba s)] w fun e w' => e = .returned (erOf es (if pathB s = false then 4 else 0)) ∧ Below w.heap.size w w' := by
 cases h : pathB s with
 | true => exact Check_yes s hs h w
 | false => exact Check_no s hs h w _ _ hE.c3
theorem ruCheck1_calls {w : World} {es : Nat → Addr} (hE : ES w es) (k : Int) (s : List UInt8) (hs : s.length ≤ 1000000) :
  Calls Tryz.prog 292 #[.int .i64 k,.string (ba s)] w fun e w' => e = .returned (erOf es (if pathB s = false then 4 else 0)) ∧ Below w.heap.size w w' := by
 have HC := hid1 (pCheck_any hE s hs)
 generalize erOf es (if pathB s = false then 4 else 0) = r at *
 clear hE
 go_enter Tryz.func292,Tryz.ntmps292
 go_wp2_with fail
 refine HC.out.mono ?_
 rintro e w1 ⟨rfl,hb⟩
 go_wp2
 go_ret
 exact ⟨rfl,hb⟩
theorem contains_x {w : World} (g o n cap : Nat) (l : List (List UInt8)) (x : List UInt8) (hn : n ≤ l.length) (hl : l.length ≤ 1000000) (hc : ∀ j (hj : j < l.length),w.cell? ⟨g,o + j,none⟩ = some (.string (ba l[j]))) :
  Calls Tryz.prog 295 #[.slice (some ⟨g,o,none⟩) n cap,.string (ba x)] w fun e w' => e = .returned (.bool (decide (x ∈ l.take n))) ∧ w' = w := by
 have := Tryz.slices_Contains_string g o n cap (l.map ba) (ba x) w (by simpa using hn) (by omega) (fun j hj => by
  have hjl : j < l.length := by simpa using hj
  rw [hc j hjl]
  simp [hjl])
 have e : Lib.containsS ((l.map ba).take n) (ba x) = decide (x ∈ l.take n) := by
  rw [Bool.eq_iff_iff,Lib.containsS_iff,decide_eq_true_iff,← List.map_take]
  simp only [List.mem_map]
  constructor
  ·rintro ⟨y,hy,e⟩
   have : y = x := by
    have := congrArg (·.data.toList) e
    simpa [ba] using this
   rw [← this]
   exact hy
  ·exact fun h => ⟨x,h,rfl⟩
 rw [e] at this
 exact this
theorem ruCheck2_calls {w : World} {es : Nat → Addr} (hE : ES w es) (r : Ru) (b k : Nat) (hk : k < r.ins.length) (hl : r.ins.length ≤ 1000000) (hR : RuAt w b 0 r) :
  Calls Tryz.prog 294 #[.int .i64 k,.string (ba r.ins[k]),.pointer (some ⟨b,0,none⟩)] w fun e w' => e = .returned (erOf es (if r.twiceAt k = true then 7 else 0)) ∧ Below w.heap.size w w' := by
 obtain ⟨h0,_,_,v,h3,p,cap,rfl,hcap,_,hin⟩ := hR
 obtain ⟨g,o,rfl,hg,hcur⟩ := hin (by intro e;rw [e] at hk;simp at hk)
 have hx := hE.c6
 have HC := hid1 (contains_x (w := w) g o k cap r.ins r.ins[k] (by omega) hl hcur)
 have HT := hid1 (Ru.twiceAt_eq hk)
 clear hin hcur hE
 have z1 : (k : Int) ≤ (cap : Int) := by omega
 have z0 : (0 : Int) ≤ (k : Int) := by omega
 have z2 : (k : Int) ≤ 1000000 := by omega
 generalize r.ins[k] = x at *
 generalize r.ins.length = n at *
 rw [Nat.zero_add] at h3
 by_cases he : x = r.out
 ·have HQ : Hid (r.twiceAt k = true) := hid1 (by rw [HT.out,he];simp)
  rw [HQ.out]
  clear HC HT
  subst he
  generalize r.out = y at *
  go_enter Tryz.func294,Tryz.ntmps294
  go_wp2
  go_ret
  exact ⟨rfl,Below.refl _ _⟩
 ·have e1 : (x == r.out) = false := by simpa using he
  have HQ : Hid (r.twiceAt k = decide (x ∈ r.ins.take k)) := hid1 (by rw [HT.out];simp [he])
  rw [HQ.out]
  clear HT
  generalize decide (x ∈ r.ins.take k) = d at *
  generalize r.out = y at *
  cases d with
  | true =>
   go_enter Tryz.func294,Tryz.ntmps294
   go_wp2_with fail
   refine HC.out.mono ?_
   rintro e w1 ⟨rfl,rfl⟩
   go_wp2
   go_ret
   exact ⟨rfl,Below.refl _ _⟩
  | false =>
   go_enter Tryz.func294,Tryz.ntmps294
   go_wp2_with fail
   refine HC.out.mono ?_
   rintro e w1 ⟨rfl,rfl⟩
   go_wp2
   go_ret
   exact ⟨rfl,Below.refl _ _⟩
end Go.Proofs.YthchjnopgagilaaGreatDoor
