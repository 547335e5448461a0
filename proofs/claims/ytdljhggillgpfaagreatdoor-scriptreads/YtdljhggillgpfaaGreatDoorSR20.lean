import Derived.Test.YtdljhggillgpfaaGreatDoorSR19
set_option maxRecDepth 100000
set_option maxHeartbeats 8000000
namespace Go.Proofs.YtdljhggillgpfaaGreatDoor
open Go.RowKit Go.Shelf Go.Lib
theorem RRow.take {w : World} {p : Option Addr} {cap : Nat} {l : List Ru} (h : RRow w (.slice p l.length cap) l) (k : Nat) (hk : k ≤ l.length) : RRow w (.slice p k cap) (l.take k) := by
 obtain ⟨p',cap',e,h0,hn,h1⟩ := h
 obtain ⟨rfl,rfl⟩ : p = p' ∧ cap = cap' := by simpa using e
 have hl : (l.take k).length = k := by simp;omega
 refine ⟨p,cap,by rw [hl],by omega,hn,fun hne => ?_⟩
 obtain ⟨g,o,e,hg,hc⟩ := h1 (by intro e;rw [e] at hne;simp at hne)
 refine ⟨g,o,e,hg,fun j hj => ?_⟩
 rw [List.getElem_take]
 exact hc j (by omega)
theorem indexFuncR_calls {w : World} (v : Value) (l : List Ru) (hrow : RRow w v l) (hl : l.length ≤ 1000000) (f : Nat) (caps : Array Value) (eg : ∀ args w,(callFunc f args).run Tryz.prog w = .ok (.enter f args) w) (b : Nat → Bool)
  (HS : Hid (∀ k (hk : k < l.length) W,Below w.heap.size w W → ∀ u,XRow W u l[k].ins → Calls Tryz.prog f (#[ruV l[k] u] ++ caps) W fun e w' => e = .returned (.bool (b k)) ∧ Below W.heap.size W w')) :
  Calls Tryz.prog 189 #[v,.func (.func f) #[] caps] w fun e w' => ∃ r : Int,e = .returned (.int .i64 r) ∧ Below w.heap.size w w' ∧ ((r = -1 ∧ ∀ j,j < l.length → b j = false) ∨ ∃ k : Nat,r = k ∧ k < l.length ∧ b k = true) := by
 obtain ⟨p,cap,rfl,hcap,_,hin⟩ := hrow
 have HI := hid1 hin
 go_enter Tryz.func189,Tryz.ntmps189
 go_wp2
 go_loopw [8] (fun i wr => ∃ k : Nat,k ≤ l.length ∧ i = .int .i64 k ∧ (∀ j,j < k → b j = false) ∧ Below w.heap.size w wr) (fun i _ => l.length - (intOf i).toNat)
 case atStart => exact ⟨0,Nat.zero_le _,rfl,fun j h => by omega,Below.refl _ _⟩
 case round =>
  obtain ⟨k,hk,rfl,hz,hB⟩ := hrel
  have HZ := hid1 hz
  have c0 : (0 : Int) ≤ (k : Int) := by omega
  by_cases hlt : k < l.length
  ·have c1 : (k : Int) < (l.length : Int) := by omega
   obtain ⟨g',o,rfl,hg,hcur⟩ := HI.out (by intro e;rw [e] at hlt;simp at hlt)
   obtain ⟨u0,u1,u2,u,u3,ux⟩ := hcur k hlt
   have d0 := cell_below' u0 hB
   have d1 := cell_below' u1 hB
   have d2 := cell_below' u2 hB
   have d3 := cell_below' u3 hB
   have HC := HS.out k hlt wr hB u (ux.below hB)
   have HQ := hid1 ux
   generalize l[k] = y at *
   obtain ⟨p3,cap3,rfl,_⟩ := HQ.out
   cases hc : b k with
   | false =>
    rw [hc] at HC
    have HN : Hid (∀ j,j < k + 1 → b j = false) := hid1 fun j hj => by
     rcases Nat.lt_or_ge j k with h | h
     ·exact HZ.out j h
     ·obtain rfl : j = k := by omega
      exact hc
    go_wp2_with fail
    refine Calls.mono HC ?_
    rintro e w1 ⟨rfl,hb1⟩
    go_wp2
    exact ⟨⟨k + 1,by omega,by go_num,HN.out,below_then hB hb1⟩,by simp [intOf];omega⟩
   | true =>
    rw [hc] at HC
    have HE := hid1 hc
    go_wp2_with fail
    refine Calls.mono HC ?_
    rintro e w1 ⟨rfl,hb1⟩
    go_wp2
    go_ret
    exact ⟨_,rfl,below_then hB hb1,.inr ⟨k,rfl,hlt,HE.out⟩⟩
  ·have c1 : (l.length : Int) ≤ (k : Int) := by omega
   have HN : Hid (∀ j,j < l.length → b j = false) := hid1 fun j hj => HZ.out j (by omega)
   go_wp2
   go_ret
   exact ⟨_,rfl,hB,.inl ⟨rfl,HN.out⟩⟩
theorem containsFuncR_calls {w : World} (v : Value) (l : List Ru) (hrow : RRow w v l) (hl : l.length ≤ 1000000) (f : Nat) (caps : Array Value) (eg : ∀ args w,(callFunc f args).run Tryz.prog w = .ok (.enter f args) w) (b : Nat → Bool)
  (HS : Hid (∀ k (hk : k < l.length) W,Below w.heap.size w W → ∀ u,XRow W u l[k].ins → Calls Tryz.prog f (#[ruV l[k] u] ++ caps) W fun e w' => e = .returned (.bool (b k)) ∧ Below W.heap.size W w')) :
  Calls Tryz.prog 141 #[v,.func (.func f) #[] caps] w fun e w' => ∃ d : Bool,e = .returned (.bool d) ∧ Below w.heap.size w w' ∧ (d = true ↔ ∃ k,k < l.length ∧ b k = true) := by
 have HC := hid1 (indexFuncR_calls v l hrow hl f caps eg b HS)
 obtain ⟨p,cap,rfl,hcap,_,hin⟩ := hrow
 go_enter Tryz.func141,Tryz.ntmps141
 go_wp2_with fail
 refine HC.out.mono ?_
 rintro e w1 ⟨r,rfl,hb,h⟩
 rcases h with ⟨rfl,h⟩ | ⟨k,rfl,hk,h⟩
 ·have HN := hid1 h
  go_wp2
  go_ret
  refine ⟨_,rfl,hb,?_⟩
  simp
  intro k hk
  simpa using HN.out k hk
 ·have HN := hid1 h
  have z : (0 : Int) ≤ (k : Int) := by omega
  go_wp2
  go_ret
  refine ⟨true,rfl,hb,?_⟩
  simp
  exact ⟨k,hk,HN.out⟩
theorem ruSheet11_calls {w : World} (x r : Ru) (b : Nat) (u : Value) (hu : XRow w u x.ins) (hR : w.cell? ⟨b,0,none⟩ = some (.string (ba r.out))) :
  Calls Tryz.prog 142 #[ruV x u,.pointer (some ⟨b,0,none⟩)] w fun e w' => e = .returned (.bool (x.out == r.out)) ∧ Below w.heap.size w w' := by
 have hB0 : Below w.heap.size w (w.alloc (.cells #[.string (ba x.out),.string (ba x.kind),.string (ba x.word),u] 36)) := (Below.refl _ w).alloc (Nat.le_refl _) _
 have h0 := cell_below' hR hB0
 obtain ⟨p3,cap3,rfl,_⟩ := hu
 go_enter Tryz.func142,Tryz.ntmps142
 go_wp2
 go_ret
 exact ⟨rfl,hB0⟩
structure SheetW (w : World) (es : Nat → Addr) : Prop where
 e : ES w es
 a : AE w (erOf es)
theorem SheetW.below {w W : World} {es : Nat → Addr} (h : SheetW w es) (hb : Below w.heap.size w W) : SheetW W es := ⟨h.e.below hb,h.a.stays hb⟩
theorem ruSheet1_calls {w : World} {es : Nat → Addr} (hW : SheetW w es) (l : List Ru) (hl : l.length ≤ 1000000) (v : Value) (hrow : RRow w v l) (hS : ∀ x ∈ l,x.Wide) (b k : Nat) (hk : k < l.length) (hb : w.cell? ⟨b,0,none⟩ = some v) (u : Value) (hu : XRow w u l[k].ins) :
  Calls Tryz.prog 139 #[.int .i64 k,ruV l[k] u,.pointer (some ⟨b,0,none⟩)] w fun e w' => e = .returned (erOf es (Ru.errAt l k)) ∧ Below w.heap.size w w' := by
 have HQ := hid1 (Ru.errAt_eq hk)
 have HC := hid1 fun W (g : Below w.heap.size w W) => ruCheck_calls (hW.e.below g) (hW.a.stays g) l[k] (hS _ (List.getElem_mem hk)) u (hu.below g)
 have hB0 : Below w.heap.size w (w.alloc (.cells #[.string (ba l[k].out),.string (ba l[k].kind),.string (ba l[k].word),u] 36)) := (Below.refl _ w).alloc (Nat.le_refl _) _
 have hr0 : (w.alloc (.cells #[.string (ba l[k].out),.string (ba l[k].kind),.string (ba l[k].word),u] 36)).cell? ⟨w.heap.size,0,none⟩ = some (.string (ba l[k].out)) := by simp
 have hx := hW.e.c6
 obtain ⟨p,cap,rfl,hcap,hnn,hin⟩ := hrow
 have hrow : RRow w (.slice p l.length cap) l := ⟨p,cap,rfl,hcap,hnn,hin⟩
 have HF := hid1 fun W (g : Below w.heap.size w W) (hr : W.cell? ⟨w.heap.size,0,none⟩ = some (.string (ba l[k].out))) =>
  containsFuncR_calls (.slice p k cap) (l.take k) ((hrow.below g).take k (by omega)) (by simp;omega) 142 #[.pointer (some ⟨w.heap.size,0,none⟩)] (enters_of Tryz.func142 (by kernel_rfl) rfl) (fun j => (l.getD j l[k]).out == l[k].out)
   (hid1 fun j hj W' g' u' hu' => by
    have hjl : j < l.length := by simp at hj;omega
    have := ruSheet11_calls (l.take k)[j] l[k] w.heap.size u' hu' (cell_below' hr g')
    rw [List.getElem_take] at this ⊢
    rw [List.getD_eq_getElem?_getD,List.getElem?_eq_getElem hjl,Option.getD_some]
    exact this)
 have HM : Hid (∀ d : Bool,(d = true ↔ ∃ j,j < (l.take k).length ∧ ((l.getD j l[k]).out == l[k].out) = true) → (if l[k].out ∈ (l.take k).map Ru.out then 7 else 0) = (if d = true then 7 else 0)) := hid1 fun d hd => by
  congr 1
  rw [eq_iff_iff,hd]
  constructor
  ·intro h
   obtain ⟨x,hx,e⟩ := List.mem_map.1 h
   obtain ⟨j,hj,rfl⟩ := List.getElem_of_mem hx
   refine ⟨j,hj,?_⟩
   rw [List.getElem_take] at e
   rw [List.getD_eq_getElem?_getD,List.getElem?_eq_getElem (by simp at hj;omega),Option.getD_some,e]
   simp
  ·rintro ⟨j,hj,e⟩
   have hjl : j < l.length := by simp at hj;omega
   rw [List.getD_eq_getElem?_getD,List.getElem?_eq_getElem hjl,Option.getD_some] at e
   refine List.mem_map.2 ⟨(l.take k)[j],List.getElem_mem hj,?_⟩
   rw [List.getElem_take]
   simpa using e
 have z1 : (k : Int) ≤ (cap : Int) := by omega
 have z0 : (0 : Int) ≤ (k : Int) := by omega
 have z2 : (k : Int) ≤ 1000000 := by omega
 have hbl := lt_of_cell hb
 simp only at hbl
 obtain ⟨p3,cap3,rfl,_⟩ := hu
 clear hin hrow hnn hS hW
 generalize l[k] = r at *
 generalize hn : l.length = n at *
 cases hc : r.err with
 | succ m =>
  have HE : Hid (Ru.errAt l k = m + 1) := hid1 (by rw [HQ.out,hc];rfl)
  rw [HE.out]
  rw [hc] at HC
  simp only [erOf] at HC ⊢
  clear HF HM
  go_enter Tryz.func139,Tryz.ntmps139
  go_wp2_with fail
  refine (HC.out _ hB0).mono ?_
  rintro e w1 ⟨rfl,g⟩
  have g1 := below_then hB0 g
  go_wp2
  go_ret
  exact ⟨rfl,g1⟩
 | zero =>
  have HE : Hid (Ru.errAt l k = if r.out ∈ (l.take k).map Ru.out then 7 else 0) := hid1 (by rw [HQ.out,hc];rfl)
  rw [HE.out]
  rw [hc] at HC
  simp only [erOf] at HC
  have HM2 := hid1 fun d hd => congrArg (erOf es) (HM.out d hd)
  generalize erOf es (if r.out ∈ (l.take k).map Ru.out then 7 else 0) = rv at *
  clear HM HE HQ
  go_enter Tryz.func139,Tryz.ntmps139
  go_wp2_with fail
  refine (HC.out _ hB0).mono ?_
  rintro e w1 ⟨rfl,g⟩
  have g1 := below_then hB0 g
  have hr1 := cell_below' hr0 g
  have hb1 := cell_below' hb g1
  clear g hr0 hb
  go_wp2_with fail
  refine (HF.out _ g1 hr1).mono ?_
  rintro e w2 ⟨d,rfl,g,hd⟩
  have g2 := below_then g1 g
  have hx2 := cell_below' hx g2
  have HV := hid1 (HM2.out d hd)
  clear g hd HF HM2 hx
  cases d with
  | true =>
   go_wp2
   go_ret
   exact ⟨ret_eq (by rw [HV.out];rfl),g2⟩
  | false =>
   go_wp2
   go_ret
   exact ⟨ret_eq (by rw [HV.out];rfl),g2⟩
theorem searchR_calls {w : World} {es : Nat → Addr} (v : Value) (l : List Ru) (hrow : RRow w v l) (hl : l.length ≤ 1000000) (f : Nat) (caps : Array Value) (eg : ∀ args w,(callFunc f args).run Tryz.prog w = .ok (.enter f args) w) (c : Nat → Nat)
  (HS : Hid (∀ k (hk : k < l.length) W,Below w.heap.size w W → ∀ u,XRow W u l[k].ins → Calls Tryz.prog f (#[.int .i64 k,ruV l[k] u] ++ caps) W fun e w' => e = .returned (erOf es (c k)) ∧ Below W.heap.size W w')) :
  Calls Tryz.prog 138 #[v,.func (.func f) #[] caps] w fun e w' => ∃ u,e = .returned u ∧ Below w.heap.size w w' ∧ Told w' es l.length c u := by
 obtain ⟨p,cap,rfl,hcap,_,hin⟩ := hrow
 have HI := hid1 hin
 go_enter Tryz.func138,Tryz.ntmps138
 go_wp2
 go_loopw [10] (fun i wr => ∃ k : Nat,k ≤ l.length ∧ i = .int .i64 k ∧ (∀ j,j < k → c j = 0) ∧ Below w.heap.size w wr) (fun i _ => l.length - (intOf i).toNat)
 case atStart => exact ⟨0,Nat.zero_le _,rfl,fun j h => by omega,Below.refl _ _⟩
 case round =>
  obtain ⟨k,hk,rfl,hz,hB⟩ := hrel
  have HZ := hid1 hz
  have c0 : (0 : Int) ≤ (k : Int) := by omega
  by_cases hlt : k < l.length
  ·have c1 : (k : Int) < (l.length : Int) := by omega
   obtain ⟨g',o,rfl,hg,hcur⟩ := HI.out (by intro e;rw [e] at hlt;simp at hlt)
   obtain ⟨u0,u1,u2,u,u3,ux⟩ := hcur k hlt
   have d0 := cell_below' u0 hB
   have d1 := cell_below' u1 hB
   have d2 := cell_below' u2 hB
   have d3 := cell_below' u3 hB
   have HC := hid1 fun W (g : Below wr.heap.size wr W) => HS.out k hlt W (below_then hB g) u (ux.below (below_then hB g))
   have HQ := hid1 ux
   generalize l[k] = y at *
   obtain ⟨p3,cap3,rfl,-⟩ := HQ.out
   have hst : ∀ (a : Addr) (m : Mode) (W : World),Sem.run Tryz.prog (store a (.slice p3 y.ins.length cap3) m) W = stored Tryz.prog W a (.slice p3 y.ins.length cap3) m := fun a m W => run_store _ W a _ m rfl
   cases hc : c k with
   | zero =>
    rw [hc] at HC
    simp only [erOf] at HC
    have HN : Hid (∀ j,j < k + 1 → c j = 0) := hid1 fun j hj => by
     rcases Nat.lt_or_ge j k with h | h
     ·exact HZ.out j h
     ·obtain rfl : j = k := by omega
      exact hc
    go_wp2_with fail
    refine (HC.out _ ((Below.refl _ wr).alloc (Nat.le_refl _) _)).mono ?_
    rintro e w1 ⟨rfl,hb1⟩
    have g1 := below_then (hB.alloc hB.size _) hb1
    go_wp2
    exact ⟨⟨k + 1,by omega,by go_num,HN.out,g1⟩,by simp [intOf];omega⟩
   | succ m =>
    rw [hc] at HC
    have HE := hid1 hc
    simp only [erOf] at HC
    go_wp2_with fail
    refine (HC.out _ ((Below.refl _ wr).alloc (Nat.le_refl _) _)).mono ?_
    rintro e w1 ⟨rfl,hb1⟩
    have g1 := below_then (hB.alloc hB.size _) hb1
    go_wp2
    go_ret
    refine ⟨_,rfl,g1.alloc g1.size _,.inr ⟨k,w1.heap.size,hlt,by rw [HE.out];omega,HZ.out,rfl,?_,?_⟩⟩
    ·simp
    ·rw [HE.out]
     simp [erOf]
  ·have c1 : (l.length : Int) ≤ (k : Int) := by omega
   have HN : Hid (∀ j,j < l.length → c j = 0) := hid1 fun j hj => HZ.out j (by omega)
   go_wp2
   go_ret
   exact ⟨_,rfl,hB,.inl ⟨HN.out,rfl⟩⟩
theorem ruSheetW_calls {w : World} {es : Nat → Addr} (hW : SheetW w es) (l : List Ru) (hl : l.length ≤ 1000000) (v : Value) (hrow : RRow w v l) (hS : ∀ x ∈ l,x.Wide) :
  Calls Tryz.prog 100 #[v] w fun e w' => ∃ u,e = .returned u ∧ Below w.heap.size w w' ∧ ErrV w' es u (Ru.fault l) := by
 have hx := hW.e.c1
 have hB0 : Below w.heap.size w (w.alloc (.cells #[v] 49)) := (Below.refl _ w).alloc (Nat.le_refl _) _
 have hv0 : (w.alloc (.cells #[v] 49)).cell? ⟨w.heap.size,0,none⟩ = some v := by simp
 have hx0 := cell_below' hx hB0
 have HS := hid1 (searchR_calls (w := w.alloc (.cells #[v] 49)) (es := es) v l (hrow.below hB0) hl 139 #[.pointer (some ⟨w.heap.size,0,none⟩)] (enters_of Tryz.func139 (by kernel_rfl) rfl) (Ru.errAt l)
  (hid1 fun k hk W g u hu => ruSheet1_calls (hW.below (below_then hB0 g)) l hl v ((hrow.below hB0).below g) hS w.heap.size k hk (cell_below' hv0 g) u hu))
 have hle := Ru.errAt_le l
 have HM : Hid (40 < l.length → Ru.fault l = (2,-1)) := hid1 Ru.fault_many
 have HT : Hid (l.length ≤ 40 → ∀ (W : World) u,Told W es l.length (Ru.errAt l) u → ErrV W es u (Ru.fault l)) := hid1 fun h40 W u ht => by
  rcases ht with ⟨hz,rfl⟩ | ⟨k,pb,hk,hc,h0,rfl,h1,h2⟩
  ·rw [Ru.fault_none h40 hz]
   exact .nil
  ·rw [Ru.fault_some h40 hk hc h0]
   rcases hle k with h | ⟨m,hm,h⟩
   ·exact absurd h hc
   ·exact .inr ⟨pb,m,rfl,hm,h,h1,h2⟩
 obtain ⟨p,cap,rfl,-⟩ := hrow
 by_cases h40 : 40 < l.length
 ·have z1 : (40 : Int) < (l.length : Int) := by omega
  have HQ := hid1 (HM.out h40)
  generalize l.length = n at *
  go_enter Tryz.func100,Tryz.ntmps100
  go_wp2
  go_ret
  exact ⟨_,rfl,hB0,by rw [HQ.out];exact ErrV.bare (by omega)⟩
 ·have z1 : (l.length : Int) ≤ 40 := by omega
  have HQ := hid1 (HT.out (by omega))
  generalize l.length = n at *
  go_enter Tryz.func100,Tryz.ntmps100
  go_wp2_with fail
  refine HS.out.mono ?_
  rintro e w1 ⟨u,rfl,g,ht⟩
  have g1 := below_then hB0 g
  have HE := hid1 (HQ.out _ _ ht)
  go_wp2
  go_ret
  exact ⟨_,rfl,g1,HE.out⟩
theorem ruSheet_calls {w : World} {es : Nat → Addr} (hW : SheetW w es) (l : List Ru) (hl : l.length ≤ 1000000) (v : Value) (hrow : RRow w v l) (hS : ∀ x ∈ l,x.Small) :
  Calls Tryz.prog 100 #[v] w fun e w' => ∃ u,e = .returned u ∧ Below w.heap.size w w' ∧ ErrV w' es u (Ru.fault l) := ruSheetW_calls hW l hl v hrow fun x hx => (hS x hx).wide
structure RdJ (n b : Nat) (w0 : World) (rs : List Ru) (W : World) : Prop where
 row : ∃ (dn : List (Ru × Value)) (out : Value),dn.map Prod.fst = rs ∧ W.heap[b]? = some (.cells #[out] 49 (0,0)) ∧ ShS n dn out W
 size : n ≤ W.heap.size
 rest : ∀ j,j < n → j ≠ b → W.heap[j]? = w0.heap[j]?
 base : Below b w0 W
theorem ruRead1_calls {n b : Nat} {w0 W : World} {rs : List Ru} {es : Nat → Addr} (hJ : RdJ n b w0 rs W) (hbn : b < n) (hrl : rs.length ≤ 100000) (s : List UInt8) (hs : s.length ≤ 100000) (k m : Int) (hm : W.cell? ⟨13,0,none⟩ = some (.int .i64 m)) (hx : W.cell? ⟨1,0,none⟩ = some (erOf es 1)) :
  Calls Tryz.prog 98 #[.int .i64 k,.string (ba s),.pointer (some ⟨b,0,none⟩)] W fun e w' => match Rd.line s with
   | none => e = .returned (erOf es 1) ∧ Below b W w'
   | some r => e = .returned (erOf es 0) ∧ RdJ n b w0 (rs ++ [r]) w' ∧ Below b W w' := by
 obtain ⟨i0,hi,hz0,hz1,hz2⟩ := info_parts Tryz.infoRule
 have HR := hid1 (readLine_calls s hs m W hm)
 obtain ⟨⟨dn,out,hdn,hrow,hsh⟩,hsz,hrest,hbase⟩ := hJ
 have hbW : b < W.heap.size := by omega
 cases hl : Rd.line s with
 | none =>
  rw [hl] at HR
  clear hl
  have hxe := hx
  simp only [erOf] at hxe ⊢
  go_enter Tryz.func98,Tryz.ntmps98
  go_wp2_with fail
  refine HR.out.mono ?_
  rintro e w3 ⟨rfl,g3⟩
  have hx3 := cell_below' hxe g3
  have hx4 := cell_below' hx3 ((Below.refl _ w3).alloc (Nat.le_refl _) (.cells #[.string ⟨#[]⟩,.string ⟨#[]⟩,.string ⟨#[]⟩,.slice none 0 0] 36))
  clear HR
  go_wp2
  go_ret
  exact ⟨rfl,(g3.mono (by omega)).alloc (by have := g3.size;omega) _⟩
 | some r =>
  rw [hl] at HR
  clear hl hx
  have HSh := hid1 hsh
  have hdl : dn.length ≤ 100000 := by rw [← List.length_map (f := Prod.fst),hdn];exact hrl
  have hml : dn.length + 1 ≤ maxLen := by unfold maxLen;omega
  go_enter Tryz.func98,Tryz.ntmps98
  go_wp2_with fail
  refine HR.out.mono ?_
  rintro e w3 ⟨⟨v,rfl,hx3,hnew3⟩,g3⟩
  have hxi : XIn (fun j => W.heap.size ≤ j) w3 v r.ins := ⟨hx3,fun a n c e _ => hnew3 a n c e⟩
  obtain ⟨p4,cap4,e4,-⟩ := hx3
  subst e4
  have hol : ∀ k,out.ownBlock = some k → k < W.heap.size := fun k hk => by
   rcases HSh.out.own.2 with ⟨e,_⟩ | ⟨g,c,cu,e,_,hb,_⟩
   ·rw [e] at hk;cases hk
   ·rw [e] at hk;cases hk
    exact (Array.getElem?_eq_some_iff.1 hb).1
  have hlo : ∀ k,out.ownBlock = some k → n ≤ k := row_low4 HSh.out.own
  have HXo : Hid (XIn (fun j => n ≤ j ∧ out.ownBlock ≠ some j) w3 (.slice p4 r.ins.length cap4) r.ins) := hid1 (hxi.imp fun j hj => ⟨by omega,fun e => by have := hol j e;omega⟩)
  have HS3 := hid1 (HSh.out.below g3)
  have hw3 : W.heap.size ≤ w3.heap.size := g3.size
  have r3 : w3.heap[b]? = some (.cells #[out] 49 (0,0)) := (g3.block b hbW).trans hrow
  have gA : Below w3.heap.size w3 (w3.alloc (.cells #[.string (ba r.out),.string (ba r.kind),.string (ba r.word),.slice p4 r.ins.length cap4] 36)) := (Below.refl _ w3).alloc (Nat.le_refl _) _
  have rA := row_newR w3 (.cells #[.string (ba r.out),.string (ba r.kind),.string (ba r.word),.slice p4 r.ins.length cap4] 36)
  have hzA : (w3.alloc (.cells #[.string (ba r.out),.string (ba r.kind),.string (ba r.word),.slice p4 r.ins.length cap4] 36)).heap.size = w3.heap.size + 1 := by simp
  have q0 := cell_of_row (j := 0) rA rfl
  have q1 := cell_of_row (j := 1) rA rfl
  have q2 := cell_of_row (j := 2) rA rfl
  have q3 := cell_of_row (j := 3) rA rfl
  have hownA := (HS3.out.below gA).own
  have rbA : (w3.alloc (.cells #[.string (ba r.out),.string (ba r.kind),.string (ba r.word),.slice p4 r.ins.length cap4] 36)).heap[b]? = some (.cells #[out] 49 (0,0)) := (gA.block b (by omega)).trans r3
  have cbA : (w3.alloc (.cells #[.string (ba r.out),.string (ba r.kind),.string (ba r.word),.slice p4 r.ins.length cap4] 36)).cell? ⟨b,0,none⟩ = some out := cell_of_row (j := 0) rbA rfl
  generalize hwA : w3.alloc (.cells #[.string (ba r.out),.string (ba r.kind),.string (ba r.word),.slice p4 r.ins.length cap4] 36) = wA at *
  have HzA := hid1 hzA
  have hwA1 : n ≤ wA.heap.size := by omega
  have HG3 := hid1 g3
  have HNw := hid1 hrest
  have HBs := hid1 hbase
  have HD := hid1 hdn
  have HrA := hid1 rbA
  have hba : b < wA.heap.size := by omega
  obtain ⟨po,co,eo⟩ := own_sliceR HS3.out.own
  subst eo
  have hbo : ∀ k,(Value.slice po dn.length co).ownBlock = some k → k ≠ b := fun k hk => by have := hlo k hk;omega
  have HBo := hid1 hbo
  clear rA hzA hxi hol HR hsh hrest hbase hdn hrow r3 HSh rbA g3 hnew3 hbo
  go_wp2_with (at_builtin;refine wpList_append_lies _ rfl _ _ 49 rfl n 36 i0 (.agg #[.string ⟨#[]⟩,.string ⟨#[]⟩,.string ⟨#[]⟩,.slice none 0 0]) 4 72 Tryz.underlying49 hi hz0 hz1 hz2 rfl (by decide) (.slice po dn.length co) dn.length (ruCells dn) rfl (hownA.alloc _) ⟨wA.heap.size,0,none⟩ 1 1 [.string (ba r.out),.string (ba r.kind),.string (ba r.word),.slice p4 r.ins.length cap4] rfl rfl (four_new _ _ _ _ _ _ _ rfl) (by simp [Value.oneCell']) (by decide) hml (by omega) (by simp;omega) _ rfl ?_;intro g5 cap5 w5 hown5 hgrow5 hlies5 hlt5;have c5 : w5.cell? ⟨b,0,none⟩ = some (.slice po dn.length co) := cell_of_row (j := 0) (((hgrow5.block b (by simp;omega) (fun e => HBo.out b e.symm rfl)).trans (Below.heap_alloc _ _ _ (by omega))).trans HrA.out) rfl;have f5 : w5.frozen? ⟨b,0,none⟩ = false := by simp [World.frozen?,((hgrow5.block b (by simp;omega) (fun e => HBo.out b e.symm rfl)).trans (Below.heap_alloc _ _ _ (by omega))).trans HrA.out])
  go_wp2
  go_ret
  refine ⟨rfl,?_⟩
  have zA := HzA.out
  have gB : Below w3.heap.size w3 (wA.alloc (.cells #[.string (ba r.out),.string (ba r.kind),.string (ba r.word),.slice p4 r.ins.length cap4] 36)) := gA.alloc (by omega) _
  have hshB := (HS3.out.below gB).next (x := (r,.slice p4 r.ins.length cap4)) (HXo.out.same gB.size fun j _ hj => gB.block j hj) hown5 hgrow5 hlies5
  have hlo5 := row_low4 hown5
  have hng : ∀ j,j < n → some j ≠ (Value.slice po dn.length co).ownBlock := fun j hj e => by have := hlo j e.symm;omega
  have hz5 : (wA.alloc (.cells #[.string (ba r.out),.string (ba r.kind),.string (ba r.word),.slice p4 r.ins.length cap4] 36)).heap.size ≤ w5.heap.size := hgrow5.size
  have hzB : (wA.alloc (.cells #[.string (ba r.out),.string (ba r.kind),.string (ba r.word),.slice p4 r.ins.length cap4] 36)).heap.size = wA.heap.size + 1 := by simp
  have b5 : ∀ j,j < n → w5.heap[j]? = W.heap[j]? := fun j hj => ((hgrow5.block j (by omega) (hng j hj)).trans (gB.block j (by omega))).trans (HG3.out.block j (by omega))
  have r5 : Boxed w5 b 49 (.slice po dn.length co) := ((hgrow5.block b (by omega) (hng b hbn)).trans (Below.heap_alloc _ _ _ hba)).trans HrA.out
  have gW : Below b W w5 := ((HG3.out.mono (by omega)).trans (gB.mono (by omega))).grown hgrow5 (by omega) (fun k e => by have := hlo k e;omega)
  have gX := gW.setCell (p := ⟨b,0,none⟩) (Nat.le_refl _) (.slice (some ⟨g5,0,none⟩) (dn.length + 1) cap5)
  refine ⟨⟨⟨dn ++ [(r,.slice p4 r.ins.length cap4)],_,by rw [List.map_append,HD.out];rfl,r5.set _,?_,fun x hx => ?_⟩,by simp;omega,fun j hj hne => ?_,HBs.out.trans gX⟩,gX⟩
  ·have := hshB.own
   rw [List.length_append] at this
   rw [List.length_append]
   exact ownsRow_setCell_other this (fun e => by have := hlo5 b e;omega) _
  ·refine (hshB.ins x hx).same (by simp) fun j hj _ => Below.heap_setCell _ _ _ _ (by show j ≠ b;have := hj.1;omega)
  ·exact ((Below.heap_setCell _ _ _ _ (show j ≠ b from hne)).trans (b5 j hj)).trans (HNw.out j hj hne)
theorem searchS_inv {w : World} {es : Nat → Addr} (B : Nat) (hBw : B ≤ w.heap.size) (v : Value) (l : List (List UInt8)) (hl : l.length ≤ 1000000) (f : Nat) (caps : Array Value) (eg : ∀ args w,(callFunc f args).run Tryz.prog w = .ok (.enter f args) w) (c : Nat → Nat) (J : Nat → World → Prop)
  (HX : Hid (∀ k W,J k W → XRow W v l)) (HJB : Hid (∀ k W,J k W → Below B w W))
  (HS : Hid (∀ k (hk : k < l.length) W,J k W → Calls Tryz.prog f (#[.int .i64 k,.string (ba l[k])] ++ caps) W fun e w' => e = .returned (erOf es (c k)) ∧ (c k = 0 → J (k + 1) w') ∧ Below B W w'))
  (h0 : J 0 w) :
  Calls Tryz.prog 95 #[v,.func (.func f) #[] caps] w fun e w' => ∃ u,e = .returned u ∧ Below B w w' ∧ Told w' es l.length c u ∧ (u = .nilIface → J l.length w') := by
 obtain ⟨p,cap,rfl,hcap,_,hin⟩ := HX.out 0 w h0
 clear hin
 have zl : (l.length : Int) ≤ 1000000 := by omega
 go_enter Tryz.func95,Tryz.ntmps95
 go_wp2
 go_loopw [10] (fun i wr => ∃ k : Nat,k ≤ l.length ∧ i = .int .i64 k ∧ (∀ j,j < k → c j = 0) ∧ J k wr) (fun i _ => l.length - (intOf i).toNat)
 case atStart => exact ⟨0,Nat.zero_le _,rfl,fun j h => by omega,h0⟩
 case round =>
  obtain ⟨k,hk,rfl,hz,hJ⟩ := hrel
  have HZ := hid1 hz
  have HJ := hid1 hJ
  have hB := HJB.out k wr hJ
  clear hz
  have c0 : (0 : Int) ≤ (k : Int) := by omega
  by_cases hlt : k < l.length
  ·have c1 : (k : Int) < (l.length : Int) := by omega
   obtain ⟨p',cap',e',-,-,hin⟩ := HX.out k wr hJ
   obtain ⟨rfl,rfl⟩ : p = p' ∧ cap = cap' := by simpa using e'
   obtain ⟨g',o,rfl,hg,hcur⟩ := hin (by intro e;rw [e] at hlt;simp at hlt)
   have hcell := hcur k hlt
   have HC := HS.out k hlt wr hJ
   clear hcur HX HS hin e' hJ HJ
   generalize l[k] = y at *
   cases hc : c k with
   | zero =>
    rw [hc] at HC
    simp only [erOf] at HC
    have HN : Hid (∀ j,j < k + 1 → c j = 0) := hid1 fun j hj => by
     rcases Nat.lt_or_ge j k with h | h
     ·exact HZ.out j h
     ·obtain rfl : j = k := by omega
      exact hc
    clear hc HZ
    go_wp2_with fail
    refine Calls.mono HC ?_
    rintro e w1 ⟨rfl,hj1,hb1⟩
    have HJ1 := hid1 (hj1 trivial)
    clear HC hj1
    go_wp2
    exact ⟨⟨k + 1,by omega,by go_num,HN.out,HJ1.out⟩,by simp [intOf];omega⟩
   | succ m =>
    rw [hc] at HC
    have HE := hid1 hc
    clear hc
    simp only [erOf] at HC
    go_wp2_with fail
    refine Calls.mono HC ?_
    rintro e w1 ⟨rfl,-,hb1⟩
    clear HC
    have hB1 := hB.trans hb1
    go_wp2
    go_ret
    refine ⟨_,rfl,hB1.alloc (by have := hB1.size;omega) _,.inr ⟨k,w1.heap.size,hlt,by rw [HE.out];omega,HZ.out,rfl,?_,?_⟩,fun h => by cases h⟩
    ·simp
    ·rw [HE.out]
     simp [erOf]
  ·have c1 : (l.length : Int) ≤ (k : Int) := by omega
   have HN : Hid (∀ j,j < l.length → c j = 0) := hid1 fun j hj => HZ.out j (by omega)
   obtain rfl : k = l.length := by omega
   clear HX HS HZ
   go_wp2
   go_ret
   exact ⟨_,rfl,hB,.inl ⟨HN.out,rfl⟩,fun _ => HJ.out⟩
namespace Rd
theorem codeL_at {ls : List (List UInt8)} {k : Nat} (h : k < ls.length) : codeL ls k = if (line ls[k]).isSome then 0 else 1 := by
 unfold codeL
 rw [List.getD_eq_getElem?_getD,List.getElem?_eq_getElem h]
 rfl
theorem rules_take {ls : List (List UInt8)} {k : Nat} (h : k < ls.length) {r : Ru} (hr : line ls[k] = some r) : rules (ls.take (k + 1)) = rules (ls.take k) ++ [r] := by
 unfold rules
 rw [List.take_succ_eq_append_getElem h,List.filterMap_append]
 simp [hr]
theorem rules_len (ls : List (List UInt8)) : (rules ls).length ≤ ls.length := List.length_filterMap_le _ _
theorem rules_wide {s : List UInt8} (hs : s.length ≤ 10000) : ∀ x ∈ rules (lines s),x.Wide := fun x hx => by
 obtain ⟨y,hy,h⟩ := List.mem_filterMap.1 hx
 have h1 := lines_each s y hy
 obtain ⟨a,b,c,d⟩ := line_len h
 exact ⟨by omega,by omega,by omega,fun z hz => by have := d z hz;omega⟩
end Rd
theorem ruRead_calls {w : World} {es : Nat → Addr} (hW : SheetW w es) (hx : w.cell? ⟨1,0,none⟩ = some (erOf es 1)) (m : Int) (hm : w.cell? ⟨13,0,none⟩ = some (.int .i64 m)) (s : List UInt8) (hs : s.length ≤ 100000) :
  Calls Tryz.prog 66 #[.string (ba s)] w fun e w' => ∃ v ev,e = .returned (.tuple #[v,ev]) ∧ Below w.heap.size w w' ∧ ErrV w' es ev (Rd.fault s) ∧ ((Rd.fault s).1 = 0 → ev = .nilIface ∧ RNew w.heap.size w' v (Rd.rules (Rd.lines s))) := by
 obtain ⟨ft,hft⟩ : ∃ ft,Rd.fault s = ft := ⟨_,rfl⟩
 have HF : Hid (Rd.fault s = ft) := hid1 hft
 rw [hft]
 clear hft
 have hbd := hW.e.c1
 by_cases hlong : 10000 < s.length
 ·have e1 : ft = (2,-1) := by rw [← HF.out];unfold Rd.fault;rw [if_pos hlong]
  subst e1
  have hz := ba_size s
  have z1 : (10000 : Int) < ((ba s).size : Int) := by omega
  clear HF
  generalize ba s = bs at *
  go_enter Tryz.func66,Tryz.ntmps66
  go_wp2
  go_region
  go_wp2
  go_ret2
  exact ⟨_,_,rfl,(Below.refl _ _).drew,.inl ⟨rfl,rfl,by simp⟩,fun h => by simp at h⟩
 ·have hz := ba_size s
  have z1 : ((ba s).size : Int) ≤ (10000 : Int) := by omega
  obtain ⟨w1,hw1⟩ : ∃ w1,w.alloc (.cells #[.slice none 0 0] 49) = w1 := ⟨_,rfl⟩
  have g1 : Below w.heap.size w w1 := by rw [← hw1];exact (Below.refl _ w).alloc (Nat.le_refl _) _
  have b1 : Boxed w1 w.heap.size 49 (.slice none 0 0) := by rw [← hw1];exact Boxed.new w 49 _
  have s1 : w.heap.size < w1.heap.size := b1.lt
  have H1 := hid1 (strLines_calls s w1)
  have H2 := hid1 (CollectLines_calls s hs w1)
  have HSh := hid1 fun (V : World) (g : Below w.heap.size w V) (v : Value) (hr : RRow V v (Rd.rules (Rd.lines s))) => ruSheetW_calls (hW.below g) (Rd.rules (Rd.lines s)) (by have := Rd.rules_len (Rd.lines s);have := Rd.lines_len s;omega) v hr (Rd.rules_wide (by omega))
  have hll := Rd.lines_len s
  have HFe : Hid (ft = match Ru.first (Rd.codeL (Rd.lines s)) (Rd.lines s).length with | some k => (1,(k : Int)) | none => Ru.fault (Rd.rules (Rd.lines s))) := hid1 (by rw [← HF.out];unfold Rd.fault;rw [if_neg hlong];cases Ru.first (Rd.codeL (Rd.lines s)) (Rd.lines s).length <;> rfl)
  have HEach := hid1 fun (k : Nat) (hk : k < (Rd.lines s).length) => Rd.lines_each s _ (List.getElem_mem hk)
  clear HF hW hbd
  generalize Rd.lines s = ls at *
  have hen := enters_of Tryz.func98 (by kernel_rfl) rfl
  go_enter Tryz.func66,Tryz.ntmps66
  go_wp2_with fail
  refine H1.out.mono ?_
  rintro e w2 ⟨rfl,rfl⟩
  go_wp2_with fail
  refine H2.out.mono ?_
  rintro e w2 ⟨v,rfl,hxr,g2,hnew⟩
  have s2 : w1.heap.size ≤ w2.heap.size := g2.size
  have b2 : w2.heap[w.heap.size]? = some (.cells #[.slice none 0 0] 49 (0,0)) := (g2.block _ s1).trans b1
  have G2 : Below w.heap.size w w2 := below_then g1 g2
  have j0 : RdJ w2.heap.size w.heap.size w2 (Rd.rules (ls.take 0)) w2 := ⟨⟨[],_,by simp [Rd.rules],b2,World.ownsRow_nil _ _ _ _,fun x hx => by simp at hx⟩,Nat.le_refl _,fun _ _ _ => rfl,Below.refl _ _⟩
  have HX : Hid (∀ k W,RdJ w2.heap.size w.heap.size w2 (Rd.rules (ls.take k)) W → XRow W v ls) := hid1 fun k W hJ => by
   refine hxr.stay hJ.size fun hl a n c e => ?_
   obtain ⟨p,cap,e',-,-,h⟩ := hxr
   obtain ⟨g,o,eg,hg,-⟩ := h hl
   have h3 := hnew _ _ _ e
   rw [e',eg] at e
   cases e
   exact hJ.rest g hg (by simp at h3;omega)
  have hJm := searchS_inv (w := w2) (es := es) w.heap.size (by omega) v ls (by omega) 98 #[.pointer (some ⟨w.heap.size,0,none⟩)] hen (Rd.codeL ls) (fun k W => RdJ w2.heap.size w.heap.size w2 (Rd.rules (ls.take k)) W) HX (hid1 fun k W hJ => hJ.base) (hid1 fun k hk W hJ => by
   have hl := HEach.out k hk
   have hBW : Below w.heap.size w W := G2.trans hJ.base
   have hr : (Rd.rules (ls.take k)).length ≤ 100000 := by have := Rd.rules_len (ls.take k);simp at this;omega
   have := ruRead1_calls (es := es) hJ (by omega) hr ls[k] (by omega) k m (cell_below' hm hBW) (cell_below' hx hBW)
   rw [Rd.codeL_at hk]
   cases hq : Rd.line ls[k] with
   | none =>
    rw [hq] at this
    refine Calls.mono this ?_
    rintro e w' ⟨rfl,g⟩
    exact ⟨rfl,fun h => by simp at h,g⟩
   | some r =>
    rw [hq] at this
    refine Calls.mono this ?_
    rintro e w' ⟨rfl,h,g⟩
    refine ⟨rfl,fun _ => ?_,g⟩
    rw [Rd.rules_take hk hq]
    exact h) j0
  have HJm := hid1 hJm
  clear hJm HX HEach j0 hen b2 b1 H1 H2
  obtain ⟨pv,cv,rfl,-⟩ := hxr
  go_wp2_with fail
  refine HJm.out.mono ?_
  rintro e w3 ⟨u,rfl,g3,ht,hJ⟩
  have G3 := G2.trans g3
  clear HJm
  rcases ht with ⟨hz0,rfl⟩ | ⟨k,pb,hk,hc,h0,rfl,h1,h2⟩
  ·have hJ3 := hJ rfl
   rw [List.take_length] at hJ3
   obtain ⟨⟨dn,out,hdn,hrow,hsh⟩,-,-,-⟩ := hJ3
   have hcell : w3.cell? ⟨w.heap.size,0,none⟩ = some out := cell_of_row (j := 0) hrow rfl
   have hN := hsh.new
   rw [hdn] at hN
   have hR : RRow w3 out (Rd.rules ls) := hN w3 (Nat.le_refl _) fun _ _ _ => rfl
   have HC := hid1 (HSh.out w3 G3 out hR)
   have e2 : ft = Ru.fault (Rd.rules ls) := by rw [HFe.out,Ru.first_none hz0]
   have HE2 := hid1 e2
   have HN := hid1 hN
   obtain ⟨po,co,rfl,-⟩ := hR
   clear HSh HFe hJ hsh hN e2
   go_wp2_with fail
   refine HC.out.mono ?_
   rintro e w4 ⟨ev,rfl,g4,hev⟩
   have hrow4 := (g4.block _ (Array.getElem?_eq_some_iff.1 hrow).1).trans hrow
   have hcell4 : w4.cell? ⟨w.heap.size,0,none⟩ = some (.slice po (Rd.rules ls).length co) := cell_of_row (j := 0) hrow4 rfl
   have HEv := hid1 hev
   have HG4 := hid1 g4
   have G4 := below_then G3 g4
   clear HC g4
   by_cases hf0 : (Ru.fault (Rd.rules ls)).1 = 0
   ·obtain rfl : ev = .nilIface := by
     rcases hev with ⟨_,h,_⟩ | ⟨_,_,_,_,h,_⟩
     ·rw [h,hf0];rfl
     ·omega
    clear hev
    go_wp2
    go_ret2
    refine ⟨_,_,rfl,G4,by rw [HE2.out];exact HEv.out,fun _ => ⟨rfl,fun V hz hV => ?_⟩⟩
    refine HN.out V (Nat.le_trans HG4.out.size hz) fun j h1 h2 => ?_
    exact (hV j (by have := G2.size;omega) (Nat.lt_of_lt_of_le h2 HG4.out.size)).trans (HG4.out.block j h2)
   ·obtain ⟨t,x,rfl⟩ : ∃ t x,ev = .iface t x := by
     rcases hev with ⟨_,h,_⟩ | ⟨_,_,h,_⟩
     ·rw [h]
      generalize (Ru.fault (Rd.rules ls)).1 = c at *
      cases c with
      | zero => exact absurd rfl hf0
      | succ c => exact ⟨_,_,rfl⟩
     ·exact ⟨_,_,h⟩
    clear hev
    go_wp2
    go_ret2
    exact ⟨_,_,rfl,G4,by rw [HE2.out];exact HEv.out,fun h => absurd (by rw [← HE2.out];exact h) hf0⟩
  ·have e2 : ft = (1,(k : Int)) := by rw [HFe.out,Ru.first_some hk hc h0]
   have hck : Rd.codeL ls k = 1 := by
    rw [Rd.codeL_at hk] at hc ⊢
    split at hc
    ·exact absurd rfl hc
    ·rename_i h
     rw [if_neg h]
   rw [hck] at h2
   have HE2 := hid1 e2
   clear e2
   have HV : Hid (ErrV w3 es (.iface 64 (.pointer (some ⟨pb,0,none⟩))) (1,(k : Int))) := hid1 (.inr ⟨pb,0,rfl,by omega,rfl,h1,h2⟩)
   clear HSh HFe hJ
   go_wp2
   go_ret2
   exact ⟨_,_,rfl,G3,by rw [HE2.out];exact HV.out,fun h => by rw [HE2.out] at h;simp at h⟩
end Go.Proofs.YtdljhggillgpfaaGreatDoor
namespace Go.Proofs.YtdljhggillgpfaaGreatDoor
open Go.RowKit Go.Shelf Go.Lib
namespace Ru
def Leaf (l : List Ru) (x : List UInt8) : Prop := (∃ y ∈ l,x ∈ y.ins) ∧ ∀ z ∈ l,z.out ≠ x
structure Leaves (l : List Ru) (r : List (List UInt8)) : Prop where
 rises : r.Pairwise (fun x y => x ≤ y)
 once : r.Nodup
 mem : ∀ x,x ∈ r ↔ Leaf l x
theorem Leaves.unique {l : List Ru} {r r' : List (List UInt8)} (h : Leaves l r) (h' : Leaves l r') : r = r' := by
 have hp : r.Perm r' := (List.perm_ext_iff_of_nodup h.once h'.once).2 fun x => (h.mem x).trans (h'.mem x).symm
 refine List.Perm.eq_of_pairwise (le := fun x y : List UInt8 => x ≤ y) ?_ h.rises h'.rises hp
 intro a b _ _ h1 h2
 exact List.le_antisymm h1 h2
end Ru
theorem TRow.irow {w : World} {v : Value} {l : List (List UInt8)} (h : TRow w v l) : IRow w v l := by
 obtain ⟨p,cap,e,_,h1⟩ := h
 refine ⟨p,cap,e,fun hl => ?_⟩
 obtain ⟨g,cur,e,hg,hc⟩ := h1 hl
 exact ⟨g,0,e,(Array.getElem?_eq_some_iff.1 hg).1,fun j hj => by rw [Nat.zero_add];exact cell_of_row hg (hc j hj)⟩
end Go.Proofs.YtdljhggillgpfaaGreatDoor
