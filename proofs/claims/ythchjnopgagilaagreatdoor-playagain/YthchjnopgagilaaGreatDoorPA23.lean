import Derived.Test.YthchjnopgagilaaGreatDoorPA18
import Derived.Test.YthchjnopgagilaaGreatDoorPA22
set_option maxRecDepth 100000
set_option maxHeartbeats 4000000
namespace Go.Proofs.YthchjnopgagilaaGreatDoor
open Go.RowKit Go.Shelf Go.Lib
theorem RRow.take {w : World} {p : Option Addr} {cap : Nat} {l : List Ru} (h : RRow w (.slice p l.length cap) l) (k : Nat) (hk : k ≤ l.length) : RRow w (.slice p k cap) (l.take k) := by
 obtain ⟨p',cap',e,h0,hn,h1⟩ := h
 obtain ⟨rfl,rfl⟩ : p = p' ∧ cap = cap' := by simpa using e
 have hl : (l.take k).length = k := by simp;omega
 refine ⟨p,cap,by rw [hl],by omega,hn,fun hne => ?_⟩
 obtain ⟨g,o,e,hg,hc⟩ := h1 (by intro e;rw [e] at hne;simp at hne)
 refine ⟨g,o,e,hg,fun j hj => ?_⟩
 rw [List.getElem_take]
 exact hc j (by omega)
theorem indexFuncR_calls {w : World} (v : Value) (l : List Ru) (hrow : RRow w v l) (hl : l.length ≤ 1000000) (f : Nat) (caps : Array Value) (eg : ∀ args w,(callFunc f args).run Tryz.prog w = .ok (.enter f args) w) (b : Nat → Bool)
  (HS : Hid (∀ k (hk : k < l.length) W,Below w.heap.size w W → ∀ u,XRow W u l[k].ins → Calls Tryz.prog f (#[ruV l[k] u] ++ caps) W fun e w' => e = .returned (.bool (b k)) ∧ Below W.heap.size W w')) :
  Calls Tryz.prog 296 #[v,.func (.func f) #[] caps] w fun e w' => ∃ r : Int,e = .returned (.int .i64 r) ∧ Below w.heap.size w w' ∧ ((r = -1 ∧ ∀ j,j < l.length → b j = false) ∨ ∃ k : Nat,r = k ∧ k < l.length ∧ b k = true) := by
 obtain ⟨p,cap,rfl,hcap,_,hin⟩ := hrow
 have HI := hid1 hin
 clear hin
 have zl : (l.length : Int) ≤ 1000000 := by omega
 go_enter Tryz.func296,Tryz.ntmps296
 go_wp2
 go_loopw [8] (fun i wr => ∃ k : Nat,k ≤ l.length ∧ i = .int .i64 k ∧ (∀ j,j < k → b j = false) ∧ Below w.heap.size w wr) (fun i _ => l.length - (intOf i).toNat)
 case atStart => exact ⟨0,Nat.zero_le _,rfl,fun j h => by omega,Below.refl _ _⟩
 case round =>
  obtain ⟨k,hk,rfl,hz,hB⟩ := hrel
  have HZ := hid1 hz
  clear hz
  have c0 : (0 : Int) ≤ (k : Int) := by omega
  by_cases hlt : k < l.length
  ·have c1 : (k : Int) < (l.length : Int) := by omega
   obtain ⟨g',o,rfl,hg,hcur⟩ := HI.out (by intro e;rw [e] at hlt;simp at hlt)
   obtain ⟨u0,u1,u2,u,u3,ux⟩ := hcur k hlt
   have d0 := cell_below' u0 hB
   have d1 := cell_below' u1 hB
   have d2 := cell_below' u2 hB
   have d3 := cell_below' u3 hB
   have HC := HS.out k hlt wr hB u (ux.below hB)
   have HQ := hid1 ux
   clear hcur HI HS u0 u1 u2 u3 ux
   generalize l[k] = y at *
   obtain ⟨p3,cap3,rfl,_⟩ := HQ.out
   cases hc : b k with
   | false =>
    rw [hc] at HC
    have HN : Hid (∀ j,j < k + 1 → b j = false) := hid1 fun j hj => by
     rcases Nat.lt_or_ge j k with h | h
     ·exact HZ.out j h
     ·obtain rfl : j = k := by omega
      exact hc
    clear hc HZ
    go_wp2_with fail
    refine Calls.mono HC ?_
    rintro e w1 ⟨rfl,hb1⟩
    clear HC
    go_wp2
    exact ⟨⟨k + 1,by omega,by go_num,HN.out,below_then hB hb1⟩,by simp [intOf];omega⟩
   | true =>
    rw [hc] at HC
    have HE := hid1 hc
    clear hc
    go_wp2_with fail
    refine Calls.mono HC ?_
    rintro e w1 ⟨rfl,hb1⟩
    clear HC
    go_wp2
    go_ret
    exact ⟨_,rfl,below_then hB hb1,.inr ⟨k,rfl,hlt,HE.out⟩⟩
  ·have c1 : (l.length : Int) ≤ (k : Int) := by omega
   have HN : Hid (∀ j,j < l.length → b j = false) := hid1 fun j hj => HZ.out j (by omega)
   clear HI HS HZ
   go_wp2
   go_ret
   exact ⟨_,rfl,hB,.inl ⟨rfl,HN.out⟩⟩
theorem containsFuncR_calls {w : World} (v : Value) (l : List Ru) (hrow : RRow w v l) (hl : l.length ≤ 1000000) (f : Nat) (caps : Array Value) (eg : ∀ args w,(callFunc f args).run Tryz.prog w = .ok (.enter f args) w) (b : Nat → Bool)
  (HS : Hid (∀ k (hk : k < l.length) W,Below w.heap.size w W → ∀ u,XRow W u l[k].ins → Calls Tryz.prog f (#[ruV l[k] u] ++ caps) W fun e w' => e = .returned (.bool (b k)) ∧ Below W.heap.size W w')) :
  Calls Tryz.prog 209 #[v,.func (.func f) #[] caps] w fun e w' => ∃ d : Bool,e = .returned (.bool d) ∧ Below w.heap.size w w' ∧ (d = true ↔ ∃ k,k < l.length ∧ b k = true) := by
 have HC := hid1 (indexFuncR_calls v l hrow hl f caps eg b HS)
 obtain ⟨p,cap,rfl,hcap,_,hin⟩ := hrow
 clear hin HS
 go_enter Tryz.func209,Tryz.ntmps209
 go_wp2_with fail
 refine HC.out.mono ?_
 rintro e w1 ⟨r,rfl,hb,h⟩
 rcases h with ⟨rfl,h⟩ | ⟨k,rfl,hk,h⟩
 ·have HN := hid1 h
  clear h
  go_wp2
  go_ret
  refine ⟨_,rfl,hb,?_⟩
  simp
  intro k hk
  simpa using HN.out k hk
 ·have HN := hid1 h
  have z : (0 : Int) ≤ (k : Int) := by omega
  clear h
  go_wp2
  go_ret
  refine ⟨true,rfl,hb,?_⟩
  simp
  exact ⟨k,hk,HN.out⟩
theorem ruSheet11_calls {w : World} (x r : Ru) (b : Nat) (u : Value) (hu : XRow w u x.ins) (hR : w.cell? ⟨b,0,none⟩ = some (.string (ba r.out))) :
  Calls Tryz.prog 210 #[ruV x u,.pointer (some ⟨b,0,none⟩)] w fun e w' => e = .returned (.bool (x.out == r.out)) ∧ Below w.heap.size w w' := by
 have hB0 : Below w.heap.size w (w.alloc (.cells #[.string (ba x.out),.string (ba x.kind),.string (ba x.word),u] 96)) := (Below.refl _ w).alloc (Nat.le_refl _) _
 have h0 := cell_below' hR hB0
 obtain ⟨p3,cap3,rfl,_⟩ := hu
 go_enter Tryz.func210,Tryz.ntmps210
 go_wp2
 go_ret
 exact ⟨rfl,hB0⟩
structure SheetW (w : World) (es : Nat → Addr) : Prop where
 e : ES w es
 a : AE w (erOf es)
theorem SheetW.below {w W : World} {es : Nat → Addr} (h : SheetW w es) (hb : Below w.heap.size w W) : SheetW W es := ⟨h.e.below hb,h.a.stays hb⟩
theorem ruSheet1_calls {w : World} {es : Nat → Addr} (hW : SheetW w es) (l : List Ru) (hl : l.length ≤ 1000000) (v : Value) (hrow : RRow w v l) (hS : ∀ x ∈ l,x.Small) (b k : Nat) (hk : k < l.length) (hb : w.cell? ⟨b,0,none⟩ = some v) (u : Value) (hu : XRow w u l[k].ins) :
  Calls Tryz.prog 207 #[.int .i64 k,ruV l[k] u,.pointer (some ⟨b,0,none⟩)] w fun e w' => e = .returned (erOf es (Ru.errAt l k)) ∧ Below w.heap.size w w' := by
 have HQ := hid1 (Ru.errAt_eq hk)
 have HC := hid1 fun W (g : Below w.heap.size w W) => ruCheck_calls (hW.e.below g) (hW.a.stays g) l[k] (hS _ (List.getElem_mem hk)) u (hu.below g)
 have hB0 : Below w.heap.size w (w.alloc (.cells #[.string (ba l[k].out),.string (ba l[k].kind),.string (ba l[k].word),u] 96)) := (Below.refl _ w).alloc (Nat.le_refl _) _
 have hr0 : (w.alloc (.cells #[.string (ba l[k].out),.string (ba l[k].kind),.string (ba l[k].word),u] 96)).cell? ⟨w.heap.size,0,none⟩ = some (.string (ba l[k].out)) := by simp
 have hx := hW.e.c6
 obtain ⟨p,cap,rfl,hcap,hnn,hin⟩ := hrow
 have hrow : RRow w (.slice p l.length cap) l := ⟨p,cap,rfl,hcap,hnn,hin⟩
 have HF := hid1 fun W (g : Below w.heap.size w W) (hr : W.cell? ⟨w.heap.size,0,none⟩ = some (.string (ba l[k].out))) =>
  containsFuncR_calls (.slice p k cap) (l.take k) ((hrow.below g).take k (by omega)) (by simp;omega) 210 #[.pointer (some ⟨w.heap.size,0,none⟩)] (enters_of Tryz.func210 (by kernel_rfl) rfl) (fun j => (l.getD j l[k]).out == l[k].out)
   (hid1 fun j hj W' g' u' hu' => by
    have hjl : j < l.length := by simp at hj;omega
    have := ruSheet11_calls (l.take k)[j] l[k] w.heap.size u' hu' (cell_below' hr g')
    rw [List.getElem_take] at this ⊢
    rw [List.getD_eq_getElem?_getD,List.getElem?_eq_getElem hjl,Option.getD_some]
    exact this)
 have HM : Hid (∀ d : Bool,(d = true ↔ ∃ j,j < (l.take k).length ∧ ((l.getD j l[k]).out == l[k].out) = true) → (if l[k].out ∈ (l.take k).map Ru.out then 7 else 0) = (if d = true then 7 else 0)) := hid1 fun d hd => by
  congr 1
  rw [eq_iff_iff,hd]
  constructor
  ·intro h
   obtain ⟨x,hx,e⟩ := List.mem_map.1 h
   obtain ⟨j,hj,rfl⟩ := List.getElem_of_mem hx
   refine ⟨j,hj,?_⟩
   rw [List.getElem_take] at e
   rw [List.getD_eq_getElem?_getD,List.getElem?_eq_getElem (by simp at hj;omega),Option.getD_some,e]
   simp
  ·rintro ⟨j,hj,e⟩
   have hjl : j < l.length := by simp at hj;omega
   rw [List.getD_eq_getElem?_getD,List.getElem?_eq_getElem hjl,Option.getD_some] at e
   refine List.mem_map.2 ⟨(l.take k)[j],List.getElem_mem hj,?_⟩
   rw [List.getElem_take]
   simpa using e
 have z1 : (k : Int) ≤ (cap : Int) := by omega
 have z0 : (0 : Int) ≤ (k : Int) := by omega
 have z2 : (k : Int) ≤ 1000000 := by omega
 have hbl := lt_of_cell hb
 simp only at hbl
 obtain ⟨p3,cap3,rfl,_⟩ := hu
 clear hin hrow hnn hS hW
 generalize l[k] = r at *
 generalize hn : l.length = n at *
 cases hc : r.err with
 | succ m =>
  have HE : Hid (Ru.errAt l k = m + 1) := hid1 (by rw [HQ.out,hc];rfl)
  rw [HE.out]
  rw [hc] at HC
  simp only [erOf] at HC ⊢
  clear HF HM
  go_enter Tryz.func207,Tryz.ntmps207
  go_wp2_with fail
  refine (HC.out _ hB0).mono ?_
  rintro e w1 ⟨rfl,g⟩
  have g1 := below_then hB0 g
  go_wp2
  go_ret
  exact ⟨rfl,g1⟩
 | zero =>
  have HE : Hid (Ru.errAt l k = if r.out ∈ (l.take k).map Ru.out then 7 else 0) := hid1 (by rw [HQ.out,hc];rfl)
  rw [HE.out]
  rw [hc] at HC
  simp only [erOf] at HC
  have HM2 := hid1 fun d hd => congrArg (erOf es) (HM.out d hd)
  generalize erOf es (if r.out ∈ (l.take k).map Ru.out then 7 else 0) = rv at *
  clear HM HE HQ
  go_enter Tryz.func207,Tryz.ntmps207
  go_wp2_with fail
  refine (HC.out _ hB0).mono ?_
  rintro e w1 ⟨rfl,g⟩
  have g1 := below_then hB0 g
  have hr1 := cell_below' hr0 g
  have hb1 := cell_below' hb g1
  clear g hr0 hb
  go_wp2_with fail
  refine (HF.out _ g1 hr1).mono ?_
  rintro e w2 ⟨d,rfl,g,hd⟩
  have g2 := below_then g1 g
  have hx2 := cell_below' hx g2
  have HV := hid1 (HM2.out d hd)
  clear g hd HF HM2 hx
  cases d with
  | true =>
   go_wp2
   go_ret
   exact ⟨ret_eq (by rw [HV.out];rfl),g2⟩
  | false =>
   go_wp2
   go_ret
   exact ⟨ret_eq (by rw [HV.out];rfl),g2⟩
theorem searchR_calls {w : World} {es : Nat → Addr} (v : Value) (l : List Ru) (hrow : RRow w v l) (hl : l.length ≤ 1000000) (f : Nat) (caps : Array Value) (eg : ∀ args w,(callFunc f args).run Tryz.prog w = .ok (.enter f args) w) (c : Nat → Nat)
  (HS : Hid (∀ k (hk : k < l.length) W,Below w.heap.size w W → ∀ u,XRow W u l[k].ins → Calls Tryz.prog f (#[.int .i64 k,ruV l[k] u] ++ caps) W fun e w' => e = .returned (erOf es (c k)) ∧ Below W.heap.size W w')) :
  Calls Tryz.prog 206 #[v,.func (.func f) #[] caps] w fun e w' => ∃ u,e = .returned u ∧ Below w.heap.size w w' ∧ Told w' es l.length c u := by
 obtain ⟨p,cap,rfl,hcap,_,hin⟩ := hrow
 have HI := hid1 hin
 clear hin
 have zl : (l.length : Int) ≤ 1000000 := by omega
 go_enter Tryz.func206,Tryz.ntmps206
 go_wp2
 go_loopw [10] (fun i wr => ∃ k : Nat,k ≤ l.length ∧ i = .int .i64 k ∧ (∀ j,j < k → c j = 0) ∧ Below w.heap.size w wr) (fun i _ => l.length - (intOf i).toNat)
 case atStart => exact ⟨0,Nat.zero_le _,rfl,fun j h => by omega,Below.refl _ _⟩
 case round =>
  obtain ⟨k,hk,rfl,hz,hB⟩ := hrel
  have HZ := hid1 hz
  clear hz
  have c0 : (0 : Int) ≤ (k : Int) := by omega
  by_cases hlt : k < l.length
  ·have c1 : (k : Int) < (l.length : Int) := by omega
   obtain ⟨g',o,rfl,hg,hcur⟩ := HI.out (by intro e;rw [e] at hlt;simp at hlt)
   obtain ⟨u0,u1,u2,u,u3,ux⟩ := hcur k hlt
   have d0 := cell_below' u0 hB
   have d1 := cell_below' u1 hB
   have d2 := cell_below' u2 hB
   have d3 := cell_below' u3 hB
   have HC := hid1 fun W (g : Below wr.heap.size wr W) => HS.out k hlt W (below_then hB g) u (ux.below (below_then hB g))
   have HQ := hid1 ux
   clear hcur HI HS u0 u1 u2 u3 ux
   generalize l[k] = y at *
   obtain ⟨p3,cap3,rfl,-⟩ := HQ.out
   have hst : ∀ (a : Addr) (m : Mode) (W : World),Sem.run Tryz.prog (store a (.slice p3 y.ins.length cap3) m) W = stored Tryz.prog W a (.slice p3 y.ins.length cap3) m := fun a m W => run_store _ W a _ m rfl
   cases hc : c k with
   | zero =>
    rw [hc] at HC
    simp only [erOf] at HC
    have HN : Hid (∀ j,j < k + 1 → c j = 0) := hid1 fun j hj => by
     rcases Nat.lt_or_ge j k with h | h
     ·exact HZ.out j h
     ·obtain rfl : j = k := by omega
      exact hc
    clear hc HZ HQ
    go_wp2_with fail
    refine (HC.out _ ((Below.refl _ wr).alloc (Nat.le_refl _) _)).mono ?_
    rintro e w1 ⟨rfl,hb1⟩
    have g1 := below_then (hB.alloc hB.size _) hb1
    clear HC hb1
    go_wp2
    exact ⟨⟨k + 1,by omega,by go_num,HN.out,g1⟩,by simp [intOf];omega⟩
   | succ m =>
    rw [hc] at HC
    have HE := hid1 hc
    clear hc HQ
    simp only [erOf] at HC
    go_wp2_with fail
    refine (HC.out _ ((Below.refl _ wr).alloc (Nat.le_refl _) _)).mono ?_
    rintro e w1 ⟨rfl,hb1⟩
    have g1 := below_then (hB.alloc hB.size _) hb1
    clear HC hb1
    go_wp2
    go_ret
    refine ⟨_,rfl,g1.alloc g1.size _,.inr ⟨k,w1.heap.size,hlt,by rw [HE.out];omega,HZ.out,rfl,?_,?_⟩⟩
    ·simp
    ·rw [HE.out]
     simp [erOf]
  ·have c1 : (l.length : Int) ≤ (k : Int) := by omega
   have HN : Hid (∀ j,j < l.length → c j = 0) := hid1 fun j hj => HZ.out j (by omega)
   clear HI HS HZ
   go_wp2
   go_ret
   exact ⟨_,rfl,hB,.inl ⟨HN.out,rfl⟩⟩
theorem ruSheet_calls {w : World} {es : Nat → Addr} (hW : SheetW w es) (l : List Ru) (hl : l.length ≤ 1000000) (v : Value) (hrow : RRow w v l) (hS : ∀ x ∈ l,x.Small) :
  Calls Tryz.prog 139 #[v] w fun e w' => ∃ u,e = .returned u ∧ Below w.heap.size w w' ∧ ErrV w' es u (Ru.fault l) := by
 have hx := hW.e.c1
 have hB0 : Below w.heap.size w (w.alloc (.cells #[v] 66)) := (Below.refl _ w).alloc (Nat.le_refl _) _
 have hv0 : (w.alloc (.cells #[v] 66)).cell? ⟨w.heap.size,0,none⟩ = some v := by simp
 have hx0 := cell_below' hx hB0
 have HS := hid1 (searchR_calls (w := w.alloc (.cells #[v] 66)) (es := es) v l (hrow.below hB0) hl 207 #[.pointer (some ⟨w.heap.size,0,none⟩)] (enters_of Tryz.func207 (by kernel_rfl) rfl) (Ru.errAt l)
  (hid1 fun k hk W g u hu => ruSheet1_calls (hW.below (below_then hB0 g)) l hl v ((hrow.below hB0).below g) hS w.heap.size k hk (cell_below' hv0 g) u hu))
 have hle := Ru.errAt_le l
 have HM : Hid (40 < l.length → Ru.fault l = (2,-1)) := hid1 Ru.fault_many
 have HT : Hid (l.length ≤ 40 → ∀ (W : World) u,Told W es l.length (Ru.errAt l) u → ErrV W es u (Ru.fault l)) := hid1 fun h40 W u ht => by
  rcases ht with ⟨hz,rfl⟩ | ⟨k,pb,hk,hc,h0,rfl,h1,h2⟩
  ·rw [Ru.fault_none h40 hz]
   exact .nil
  ·rw [Ru.fault_some h40 hk hc h0]
   rcases hle k with h | ⟨m,hm,h⟩
   ·exact absurd h hc
   ·exact .inr ⟨pb,m,rfl,hm,h,h1,h2⟩
 obtain ⟨p,cap,rfl,-⟩ := hrow
 clear hW hS hle hx
 by_cases h40 : 40 < l.length
 ·have z1 : (40 : Int) < (l.length : Int) := by omega
  have HQ := hid1 (HM.out h40)
  clear HS HM HT hl h40
  generalize l.length = n at *
  go_enter Tryz.func139,Tryz.ntmps139
  go_wp2
  go_ret
  exact ⟨_,rfl,hB0,by rw [HQ.out];exact ErrV.bare (by omega)⟩
 ·have z1 : (l.length : Int) ≤ 40 := by omega
  have HQ := hid1 (HT.out (by omega))
  clear HM HT h40
  generalize l.length = n at *
  go_enter Tryz.func139,Tryz.ntmps139
  go_wp2_with fail
  refine HS.out.mono ?_
  rintro e w1 ⟨u,rfl,g,ht⟩
  have g1 := below_then hB0 g
  have HE := hid1 (HQ.out _ _ ht)
  clear g ht HS HQ
  go_wp2
  go_ret
  exact ⟨_,rfl,g1,HE.out⟩
theorem srt_nil : Af.srt [] = [] := by
 have := Af.srt_len []
 simpa using this
def NIRow (w : World) (v : Value) (l : List Nat) : Prop :=
 ∃ p cap,v = .slice p l.length cap ∧ (l ≠ [] → ∃ g o,p = some ⟨g,o,none⟩ ∧ g < w.heap.size ∧ ∀ j (hj : j < l.length),w.cell? ⟨g,o + j,none⟩ = some (nv l[j]))
theorem NIRow.below {w w' : World} {v : Value} {l : List Nat} (h : NIRow w v l) (hb : Below w.heap.size w w') : NIRow w' v l := by
 obtain ⟨p,cap,e,h1⟩ := h
 refine ⟨p,cap,e,fun hl => ?_⟩
 obtain ⟨g,o,e,hg,hc⟩ := h1 hl
 exact ⟨g,o,e,Nat.lt_of_lt_of_le hg hb.size,fun j hj => (hb.cell (p := ⟨g,o + j,none⟩) hg).trans (hc j hj)⟩
theorem NRow.ni {w : World} {v : Value} {l : List Nat} (h : NRow w v l) : NIRow w v l := by
 obtain ⟨p,cap,e,_,h1⟩ := h
 refine ⟨p,cap,e,fun hl => ?_⟩
 obtain ⟨g,cur,e,hg,hc⟩ := h1 hl
 exact ⟨g,0,e,(Array.getElem?_eq_some_iff.1 hg).1,fun j hj => by rw [Nat.zero_add];exact cell_of_row hg (hc j hj)⟩
def NoRow (v : Value) : Prop := ∃ p cap,v = .slice p 0 cap
abbrev allB1 : Nat → Bool := fun _ => true
def OrderTells (es : Nat → Addr) (l : List Ru) (w : World) (u ev : Value) : Prop :=
 ((Ru.fault l).1 ≠ 0 ∧ ErrV w es ev (Ru.fault l) ∧ NoRow u) ∨
 ((Ru.fault l).1 = 0 ∧ Ru.order l allB1 = none ∧ ev = erOf es 9 ∧ NoRow u) ∨
 ((Ru.fault l).1 = 0 ∧ ∃ o,Ru.order l allB1 = some o ∧ ev = .nilIface ∧ NIRow w u o)
def NeedsTells (es : Nat → Addr) (l : List Ru) (outs : List (List UInt8)) (w : World) (u ev : Value) : Prop :=
 ((Ru.fault l).1 ≠ 0 ∧ ErrV w es ev (Ru.fault l) ∧ NoRow u) ∨
 ((Ru.fault l).1 = 0 ∧ ∃ k,∃ hk : k < outs.length,(∀ x ∈ l,x.out ≠ outs[k]) ∧ (∀ j (hj : j < outs.length),j < k → ∃ x ∈ l,x.out = outs[j]) ∧ ErrV w es ev (6,(k : Int)) ∧ NoRow u) ∨
 ((Ru.fault l).1 = 0 ∧ (∀ j (hj : j < outs.length),∃ x ∈ l,x.out = outs[j]) ∧ ev = .nilIface ∧ ∃ f,Ru.Needed l outs f ∧ NIRow w u ((List.range l.length).filter f))
structure GraphW (w : World) (es : Nat → Addr) : Prop where
 s : SheetW w es
 cyc : w.cell? ⟨11,0,none⟩ = some (erOf es 9)
theorem GraphW.below {w w' : World} {es : Nat → Addr} (h : GraphW w es) (hb : Below w.heap.size w w') : GraphW w' es := ⟨h.s.below hb,cell_below' h.cyc hb⟩
theorem ErrV.some {w : World} {es : Nat → Addr} {v : Value} {f : Nat × Int} (h : ErrV w es v f) (hf : f.1 ≠ 0) : ∃ t u,v = .iface t u := by
 rcases h with ⟨_,rfl,_⟩ | ⟨pb,m,rfl,_⟩
 ·obtain ⟨c,n⟩ := f
  cases c with
  | zero => exact absurd rfl hf
  | succ k => exact ⟨_,_,rfl⟩
 ·exact ⟨_,_,rfl⟩
end Go.Proofs.YthchjnopgagilaaGreatDoor
