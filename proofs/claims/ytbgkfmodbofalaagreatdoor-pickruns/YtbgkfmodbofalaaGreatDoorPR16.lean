import Derived.Test.YtbgkfmodbofalaaGreatDoorPR15
import Derived.Laws.AppendOwnNone
set_option maxRecDepth 100000
set_option maxHeartbeats 4000000
namespace Go.Proofs.YtbgkfmodbofalaaGreatDoor
open Go.RowKit Go.Shelf Go.Lib
theorem RRow.take {w : World} {p : Option Addr} {cap : Nat} {l : List Ru} (h : RRow w (.slice p l.length cap) l) (k : Nat) (hk : k <= l.length) : RRow w (.slice p k cap) (l.take k) := by
 obtain ⟨p',cap',e,h0,hn,h1⟩ := h;obtain ⟨rfl,rfl⟩ : p = p' /\ cap = cap' := by simpa using e
 have hl : (l.take k).length = k := by simp;omega
 refine ⟨p,cap,by rw [hl],by omega,hn,fun hne => ?_⟩
 obtain ⟨g,o,e,hg,hc⟩ := h1 (by intro e;rw [e] at hne;simp at hne)
 refine ⟨g,o,e,hg,fun j hj => ?_⟩
 rw [List.getElem_take];exact hc j (by omega)
theorem Zgh {w : World} (v : Value) (l : List Ru) (hrow : RRow w v l) (hl : l.length <= 1000000) (f : Nat) (caps : Array Value) (eg : ∀ args w,(callFunc f args).run Tryz.prog w = .ok (.enter f args) w) (b : Nat -> Bool)
  (HS : Hid (∀ k (hk : k < l.length) W,Below w.heap.size w W -> ∀ u,XRow W u l[k].ins -> Calls Tryz.prog f (#[ruV l[k] u] ++ caps) W fun e w' => e = .returned (.bool (b k)) /\ Below W.heap.size W w')) :
  Calls Tryz.prog 275 #[v,.func (.func f) #[] caps] w fun e w' => ∃ r : Int,e = .returned (.int .i64 r) /\ Below w.heap.size w w' /\ ((r = -1 /\ ∀ j,j < l.length -> b j = false) \/ ∃ k : Nat,r = k /\ k < l.length /\ b k = true) := by
 obtain ⟨p,cap,rfl,hcap,_,hin⟩ := hrow;have HI := hid1 hin;clear hin;have zl : (l.length : Int) <= 1000000 := by omega
 go_enter Tryz.func275,Tryz.ntmps275
 go_wp2;go_loopw [8] (fun i wr => ∃ k : Nat,k <= l.length /\ i = .int .i64 k /\ (∀ j,j < k -> b j = false) /\ Below w.heap.size w wr) (fun i _ => l.length - (intOf i).toNat)
 case atStart => exact ⟨0,Nat.zero_le _,rfl,fun j h => by omega,Below.refl _ _⟩
 case round =>
  obtain ⟨k,hk,rfl,hz,hB⟩ := hrel;have HZ := hid1 hz;clear hz;have c0 : (0 : Int) <= (k : Int) := by omega
  by_cases hlt : k < l.length
  ·have c1 : (k : Int) < (l.length : Int) := by omega
   obtain ⟨g',o,rfl,hg,hcur⟩ := HI.out (by intro e;rw [e] at hlt;simp at hlt)
   obtain ⟨u0,u1,u2,u,u3,ux⟩ := hcur k hlt;have d0 := Zaa u0 hB;have d1 := Zaa u1 hB;have d2 := Zaa u2 hB;have d3 := Zaa u3 hB;have HC := HS.out k hlt wr hB u (ux.below hB);have HQ := hid1 ux;clear hcur HI HS u0 u1 u2 u3 ux;generalize l[k] = y at *;obtain ⟨p3,cap3,rfl,_⟩ := HQ.out;cases hc : b k with
   | false =>
    rw [hc] at HC;have HN : Hid (∀ j,j < k + 1 -> b j = false) := hid1 fun j hj => by
     rcases Nat.lt_or_ge j k with h | h
     ·exact HZ.out j h
     ·obtain rfl : j = k := by omega
      exact hc
    clear hc HZ;go_wp2_with fail;refine Calls.mono HC ?_;rintro e w1 ⟨rfl,hb1⟩;clear HC;go_wp2;exact ⟨⟨k + 1,by omega,by go_num,HN.out,Zab hB hb1⟩,by simp [intOf];omega⟩
   | true =>
    rw [hc] at HC;have HE := hid1 hc;clear hc;go_wp2_with fail;refine Calls.mono HC ?_;rintro e w1 ⟨rfl,hb1⟩;clear HC;go_wp2;go_ret;exact ⟨_,rfl,Zab hB hb1,.inr ⟨k,rfl,hlt,HE.out⟩⟩
  ·have c1 : (l.length : Int) <= (k : Int) := by omega
   have HN : Hid (∀ j,j < l.length -> b j = false) := hid1 fun j hj => HZ.out j (by omega)
   clear HI HS HZ;go_wp2;go_ret;exact ⟨_,rfl,hB,.inl ⟨rfl,HN.out⟩⟩
theorem Zeg {w : World} (v : Value) (l : List Ru) (hrow : RRow w v l) (hl : l.length <= 1000000) (f : Nat) (caps : Array Value) (eg : ∀ args w,(callFunc f args).run Tryz.prog w = .ok (.enter f args) w) (b : Nat -> Bool)
  (HS : Hid (∀ k (hk : k < l.length) W,Below w.heap.size w W -> ∀ u,XRow W u l[k].ins -> Calls Tryz.prog f (#[ruV l[k] u] ++ caps) W fun e w' => e = .returned (.bool (b k)) /\ Below W.heap.size W w')) :
  Calls Tryz.prog 192 #[v,.func (.func f) #[] caps] w fun e w' => ∃ d : Bool,e = .returned (.bool d) /\ Below w.heap.size w w' /\ (d = true ↔ ∃ k,k < l.length /\ b k = true) := by
 have HC := hid1 (Zgh v l hrow hl f caps eg b HS);obtain ⟨p,cap,rfl,hcap,_,hin⟩ := hrow;clear hin HS;go_enter Tryz.func192,Tryz.ntmps192
 go_wp2_with fail;refine HC.out.mono ?_;rintro e w1 ⟨r,rfl,hb,h⟩;rcases h with ⟨rfl,h⟩ | ⟨k,rfl,hk,h⟩
 ·have HN := hid1 h;clear h;go_wp2;go_ret;refine ⟨_,rfl,hb,?_⟩;simp
  intro k hk
  simpa using HN.out k hk
 ·have HN := hid1 h;have z : (0 : Int) <= (k : Int) := by omega
  clear h;go_wp2;go_ret;refine ⟨true,rfl,hb,?_⟩;simp
  exact ⟨k,hk,HN.out⟩
theorem Zgv {w : World} (x r : Ru) (b : Nat) (u : Value) (hu : XRow w u x.ins) (hR : w.cell? ⟨b,0,none⟩ = some (.string (ba r.out))) :
  Calls Tryz.prog 193 #[ruV x u,.pointer (some ⟨b,0,none⟩)] w fun e w' => e = .returned (.bool (x.out == r.out)) /\ Below w.heap.size w w' := by
 have hB0 : Below w.heap.size w (w.alloc (.cells #[.string (ba x.out),.string (ba x.kind),.string (ba x.word),u] 90)) := (Below.refl _ w).alloc (Nat.le_refl _) _;have h0 := Zaa hR hB0;obtain ⟨p3,cap3,rfl,_⟩ := hu;go_enter Tryz.func193,Tryz.ntmps193
 go_wp2;go_ret;exact ⟨rfl,hB0⟩
structure SheetW (w : World) (es : Nat -> Addr) : Prop where
 e : ES w es
 a : AE w (erOf es)
theorem SheetW.below {w W : World} {es : Nat -> Addr} (h : SheetW w es) (hb : Below w.heap.size w W) : SheetW W es := ⟨h.e.below hb,h.a.stays hb⟩
theorem Zil {w : World} {es : Nat -> Addr} (hW : SheetW w es) (l : List Ru) (hl : l.length <= 1000000) (v : Value) (hrow : RRow w v l) (hS : ∀ x ∈ l,x.Small) (b k : Nat) (hk : k < l.length) (hb : w.cell? ⟨b,0,none⟩ = some v) (u : Value) (hu : XRow w u l[k].ins) :
  Calls Tryz.prog 190 #[.int .i64 k,ruV l[k] u,.pointer (some ⟨b,0,none⟩)] w fun e w' => e = .returned (erOf es (Ru.errAt l k)) /\ Below w.heap.size w w' := by
 have HQ := hid1 (Ru.errAt_eq hk);have HC := hid1 fun W (g : Below w.heap.size w W) => Zkn (hW.e.below g) (hW.a.stays g) l[k] (hS _ (List.getElem_mem hk)) u (hu.below g)
 have hB0 : Below w.heap.size w (w.alloc (.cells #[.string (ba l[k].out),.string (ba l[k].kind),.string (ba l[k].word),u] 90)) := (Below.refl _ w).alloc (Nat.le_refl _) _;have hr0 : (w.alloc (.cells #[.string (ba l[k].out),.string (ba l[k].kind),.string (ba l[k].word),u] 90)).cell? ⟨w.heap.size,0,none⟩ = some (.string (ba l[k].out)) := by simp
 have hx := hW.e.c6;obtain ⟨p,cap,rfl,hcap,hnn,hin⟩ := hrow;have hrow : RRow w (.slice p l.length cap) l := ⟨p,cap,rfl,hcap,hnn,hin⟩;have HF := hid1 fun W (g : Below w.heap.size w W) (hr : W.cell? ⟨w.heap.size,0,none⟩ = some (.string (ba l[k].out))) =>
  Zeg (.slice p k cap) (l.take k) ((hrow.below g).take k (by omega)) (by simp;omega) 193 #[.pointer (some ⟨w.heap.size,0,none⟩)] (enters_of Tryz.func193 (by kernel_rfl) rfl) (fun j => (l.getD j l[k]).out == l[k].out)
   (hid1 fun j hj W' g' u' hu' => by
    have hjl : j < l.length := by simp at hj;omega
    have := Zgv (l.take k)[j] l[k] w.heap.size u' hu' (Zaa hr g');rw [List.getElem_take] at this ⊢;rw [List.getD_eq_getElem?_getD,List.getElem?_eq_getElem hjl,Option.getD_some]
    exact this)
 have HM : Hid (∀ d : Bool,(d = true ↔ ∃ j,j < (l.take k).length /\ ((l.getD j l[k]).out == l[k].out) = true) -> (if l[k].out ∈ (l.take k).map Ru.out then 7 else 0) = (if d = true then 7 else 0)) := hid1 fun d hd => by
  congr 1
  rw [eq_iff_iff,hd];constructor
  ·intro h
   obtain ⟨x,hx,e⟩ := List.mem_map.1 h;obtain ⟨j,hj,rfl⟩ := List.getElem_of_mem hx;refine ⟨j,hj,?_⟩;rw [List.getElem_take] at e;rw [List.getD_eq_getElem?_getD,List.getElem?_eq_getElem (by simp at hj;omega),Option.getD_some,e]
   simp
  ·rintro ⟨j,hj,e⟩;have hjl : j < l.length := by simp at hj;omega
   rw [List.getD_eq_getElem?_getD,List.getElem?_eq_getElem hjl,Option.getD_some] at e
   refine List.mem_map.2 ⟨(l.take k)[j],List.getElem_mem hj,?_⟩;rw [List.getElem_take];simpa using e
 have z1 : (k : Int) <= (cap : Int) := by omega
 have z0 : (0 : Int) <= (k : Int) := by omega
 have z2 : (k : Int) <= 1000000 := by omega
 have hbl := Zai hb;simp only at hbl;obtain ⟨p3,cap3,rfl,_⟩ := hu;clear hin hrow hnn hS hW;generalize l[k] = r at *;generalize hn : l.length = n at *;cases hc : r.err with
 | succ m =>
  have HE : Hid (Ru.errAt l k = m + 1) := hid1 (by rw [HQ.out,hc];rfl)
  rw [HE.out];rw [hc] at HC;simp only [erOf] at HC ⊢;clear HF HM;go_enter Tryz.func190,Tryz.ntmps190
  go_wp2_with fail;refine (HC.out _ hB0).mono ?_;rintro e w1 ⟨rfl,g⟩;have g1 := Zab hB0 g;go_wp2;go_ret;exact ⟨rfl,g1⟩
 | zero =>
  have HE : Hid (Ru.errAt l k = if r.out ∈ (l.take k).map Ru.out then 7 else 0) := hid1 (by rw [HQ.out,hc];rfl)
  rw [HE.out];rw [hc] at HC;simp only [erOf] at HC;have HM2 := hid1 fun d hd => congrArg (erOf es) (HM.out d hd)
  generalize erOf es (if r.out ∈ (l.take k).map Ru.out then 7 else 0) = rv at *
  clear HM HE HQ;go_enter Tryz.func190,Tryz.ntmps190
  go_wp2_with fail;refine (HC.out _ hB0).mono ?_;rintro e w1 ⟨rfl,g⟩;have g1 := Zab hB0 g;have hr1 := Zaa hr0 g;have hb1 := Zaa hb g1;clear g hr0 hb;go_wp2_with fail;refine (HF.out _ g1 hr1).mono ?_;rintro e w2 ⟨d,rfl,g,hd⟩;have g2 := Zab g1 g;have hx2 := Zaa hx g2;have HV := hid1 (HM2.out d hd);clear g hd HF HM2 hx;cases d with
  | true =>
   go_wp2;go_ret;exact ⟨ret_eq (by rw [HV.out];rfl),g2⟩
  | false =>
   go_wp2;go_ret;exact ⟨ret_eq (by rw [HV.out];rfl),g2⟩
theorem Zkl {w : World} {es : Nat -> Addr} (v : Value) (l : List Ru) (hrow : RRow w v l) (hl : l.length <= 1000000) (f : Nat) (caps : Array Value) (eg : ∀ args w,(callFunc f args).run Tryz.prog w = .ok (.enter f args) w) (c : Nat -> Nat)
  (HS : Hid (∀ k (hk : k < l.length) W,Below w.heap.size w W -> ∀ u,XRow W u l[k].ins -> Calls Tryz.prog f (#[.int .i64 k,ruV l[k] u] ++ caps) W fun e w' => e = .returned (erOf es (c k)) /\ Below W.heap.size W w')) :
  Calls Tryz.prog 189 #[v,.func (.func f) #[] caps] w fun e w' => ∃ u,e = .returned u /\ Below w.heap.size w w' /\ Told w' es l.length c u := by
 obtain ⟨p,cap,rfl,hcap,_,hin⟩ := hrow;have HI := hid1 hin;clear hin;have zl : (l.length : Int) <= 1000000 := by omega
 go_enter Tryz.func189,Tryz.ntmps189
 go_wp2;go_loopw [10] (fun i wr => ∃ k : Nat,k <= l.length /\ i = .int .i64 k /\ (∀ j,j < k -> c j = 0) /\ Below w.heap.size w wr) (fun i _ => l.length - (intOf i).toNat)
 case atStart => exact ⟨0,Nat.zero_le _,rfl,fun j h => by omega,Below.refl _ _⟩
 case round =>
  obtain ⟨k,hk,rfl,hz,hB⟩ := hrel;have HZ := hid1 hz;clear hz;have c0 : (0 : Int) <= (k : Int) := by omega
  by_cases hlt : k < l.length
  ·have c1 : (k : Int) < (l.length : Int) := by omega
   obtain ⟨g',o,rfl,hg,hcur⟩ := HI.out (by intro e;rw [e] at hlt;simp at hlt)
   obtain ⟨u0,u1,u2,u,u3,ux⟩ := hcur k hlt;have d0 := Zaa u0 hB;have d1 := Zaa u1 hB;have d2 := Zaa u2 hB;have d3 := Zaa u3 hB;have HC := hid1 fun W (g : Below wr.heap.size wr W) => HS.out k hlt W (Zab hB g) u (ux.below (Zab hB g))
   have HQ := hid1 ux;clear hcur HI HS u0 u1 u2 u3 ux;generalize l[k] = y at *;obtain ⟨p3,cap3,rfl,-⟩ := HQ.out;have hst : ∀ (a : Addr) (m : Mode) (W : World),Sem.run Tryz.prog (store a (.slice p3 y.ins.length cap3) m) W = stored Tryz.prog W a (.slice p3 y.ins.length cap3) m := fun a m W => run_store _ W a _ m rfl
   cases hc : c k with
   | zero =>
    rw [hc] at HC;simp only [erOf] at HC;have HN : Hid (∀ j,j < k + 1 -> c j = 0) := hid1 fun j hj => by
     rcases Nat.lt_or_ge j k with h | h
     ·exact HZ.out j h
     ·obtain rfl : j = k := by omega
      exact hc
    clear hc HZ HQ;go_wp2_with fail;refine (HC.out _ ((Below.refl _ wr).alloc (Nat.le_refl _) _)).mono ?_;rintro e w1 ⟨rfl,hb1⟩;have g1 := Zab (hB.alloc hB.size _) hb1;clear HC hb1;go_wp2;exact ⟨⟨k + 1,by omega,by go_num,HN.out,g1⟩,by simp [intOf];omega⟩
   | succ m =>
    rw [hc] at HC;have HE := hid1 hc;clear hc HQ;simp only [erOf] at HC;go_wp2_with fail;refine (HC.out _ ((Below.refl _ wr).alloc (Nat.le_refl _) _)).mono ?_;rintro e w1 ⟨rfl,hb1⟩;have g1 := Zab (hB.alloc hB.size _) hb1;clear HC hb1;go_wp2;go_ret;refine ⟨_,rfl,g1.alloc g1.size _,.inr ⟨k,w1.heap.size,hlt,by rw [HE.out];omega,HZ.out,rfl,?_,?_⟩⟩
    ·simp
    ·rw [HE.out];simp [erOf]
  ·have c1 : (l.length : Int) <= (k : Int) := by omega
   have HN : Hid (∀ j,j < l.length -> c j = 0) := hid1 fun j hj => HZ.out j (by omega)
   clear HI HS HZ;go_wp2;go_ret;exact ⟨_,rfl,hB,.inl ⟨HN.out,rfl⟩⟩
theorem Zkm {w : World} {es : Nat -> Addr} (hW : SheetW w es) (l : List Ru) (hl : l.length <= 1000000) (v : Value) (hrow : RRow w v l) (hS : ∀ x ∈ l,x.Small) :
  Calls Tryz.prog 132 #[v] w fun e w' => ∃ u,e = .returned u /\ Below w.heap.size w w' /\ ErrV w' es u (Ru.fault l) := by
 have hx := hW.e.c1;have hB0 : Below w.heap.size w (w.alloc (.cells #[v] 66)) := (Below.refl _ w).alloc (Nat.le_refl _) _;have hv0 : (w.alloc (.cells #[v] 66)).cell? ⟨w.heap.size,0,none⟩ = some v := by simp
 have hx0 := Zaa hx hB0;have HS := hid1 (Zkl (w := w.alloc (.cells #[v] 66)) (es := es) v l (hrow.below hB0) hl 190 #[.pointer (some ⟨w.heap.size,0,none⟩)] (enters_of Tryz.func190 (by kernel_rfl) rfl) (Ru.errAt l)
  (hid1 fun k hk W g u hu => Zil (hW.below (Zab hB0 g)) l hl v ((hrow.below hB0).below g) hS w.heap.size k hk (Zaa hv0 g) u hu))
 have hle := Ru.errAt_le l;have HM : Hid (40 < l.length -> Ru.fault l = (2,-1)) := hid1 Ru.fault_many;have HT : Hid (l.length <= 40 -> ∀ (W : World) u,Told W es l.length (Ru.errAt l) u -> ErrV W es u (Ru.fault l)) := hid1 fun h40 W u ht => by
  rcases ht with ⟨hz,rfl⟩ | ⟨k,pb,hk,hc,h0,rfl,h1,h2⟩
  ·rw [Ru.fault_none h40 hz];exact .nil
  ·rw [Ru.fault_some h40 hk hc h0];rcases hle k with h | ⟨m,hm,h⟩
   ·exact absurd h hc
   ·exact .inr ⟨pb,m,rfl,hm,h,h1,h2⟩
 obtain ⟨p,cap,rfl,-⟩ := hrow;clear hW hS hle hx;by_cases h40 : 40 < l.length
 ·have z1 : (40 : Int) < (l.length : Int) := by omega
  have HQ := hid1 (HM.out h40);clear HS HM HT hl h40;generalize l.length = n at *;go_enter Tryz.func132,Tryz.ntmps132
  go_wp2;go_ret;exact ⟨_,rfl,hB0,by rw [HQ.out];exact ErrV.bare (by omega)⟩
 ·have z1 : (l.length : Int) <= 40 := by omega
  have HQ := hid1 (HT.out (by omega))
  clear HM HT h40;generalize l.length = n at *;go_enter Tryz.func132,Tryz.ntmps132
  go_wp2_with fail;refine HS.out.mono ?_;rintro e w1 ⟨u,rfl,g,ht⟩;have g1 := Zab hB0 g;have HE := hid1 (HQ.out _ _ ht);clear g ht HS HQ;go_wp2;go_ret;exact ⟨_,rfl,g1,HE.out⟩
def Af.gtB (y x : List UInt8) : Bool := !Op.bytesLess y x && !(y == x)
def Af.Laid (l : List (List UInt8)) (x : List UInt8) (r : List (List UInt8)) : Prop :=
 ∃ k,k <= l.length /\ r = l.take k ++ x :: l.drop k /\ (∀ j (hj : j < l.length),k <= j -> Af.gtB l[j] x = true) /\ (∀ hk : k - 1 < l.length,0 < k -> Af.gtB l[k - 1] x = false)
theorem lay_b2 {w w1 w2 : World} {v : Value} {n : Nat} {xs : List Value} {tmp : Obj} (b1 : Below w.heap.size w w1) (h : w1.ownsRow w.heap.size 9 1 v n xs) (hg : (w1.alloc tmp).grownBy w2 v.ownBlock) : Below w.heap.size w w2 := Zak b1 b1.size h hg
theorem lay_b3 {w w2 w3 : World} {v : Value} {n : Nat} {xs : List Value} (b2 : Below w.heap.size w w2) (h : w2.ownsRow w.heap.size 9 1 v n xs) (hg : w2.grownBy w3 v.ownBlock) : Below w.heap.size w w3 := Zdr b2 b2.size h hg
theorem Zpn {w w2 : World} {g k : Nat} {l : List (List UInt8)} (hR : Hid (∀ W,Below w.heap.size w W -> ∀ k (hk : k < l.length),W.cell? ⟨g,k,none⟩ = some (.string (ba l[k])))) (b2 : Below w.heap.size w w2) :
  ∀ j u,((l.drop k).map sv)[j]? = some u -> w2.cell? ((⟨g,k,none⟩ : Addr).add j) = some u := fun j u hj => by
 have hjl : j < (l.drop k).length := by simpa using (List.getElem?_eq_some_iff.1 hj).1
 have hjl' : k + j < l.length := by simp at hjl;omega
 rw [List.getElem?_map,List.getElem?_eq_getElem hjl] at hj
 simp only [Option.map_some,Option.some.injEq,List.getElem_drop] at hj;rw [<- hj,Zct];exact hR.out w2 b2 (k + j) hjl'
theorem Zrc {w2 : World} {k : Nat} {l : List (List UInt8)} (h : l.length <= k) (ad : Addr) : ∀ j u,((l.drop k).map sv)[j]? = some u -> w2.cell? (ad.add j) = some u := fun j u hj => by
 rw [List.drop_of_length_le h] at hj;simp at hj
theorem Zky {w : World} {B k : Nat} {l : List (List UInt8)} {x : List UInt8} {v : Value} (hk : k <= l.length) (h : w.ownsRow B 9 1 v (0 + k + 1 + (l.length - k)) ([] ++ (l.take k).map sv ++ [.string (ba x)] ++ (l.drop k).map sv)) :
  w.ownsRow B 9 1 v (l.take k ++ x :: l.drop k).length ((l.take k ++ x :: l.drop k).map sv) := by
 have e1 : (l.take k ++ x :: l.drop k).length = 0 + k + 1 + (l.length - k) := by simp;omega
 have e2 : (l.take k ++ x :: l.drop k).map sv = [] ++ (l.take k).map sv ++ [.string (ba x)] ++ (l.drop k).map sv := by
  rw [List.map_append,List.map_cons,List.nil_append,List.append_assoc];rfl
 rw [e1,e2];exact h
theorem Zdp {w : World} {B k : Nat} {l : List (List UInt8)} {x : List UInt8} {v : Value} (hk : k <= l.length) (hlk : l.length = k) (h : w.ownsRow B 9 1 v (0 + k + 1 + 0) ([] ++ (l.take k).map sv ++ [.string (ba x)] ++ (l.drop k).map sv)) :
  w.ownsRow B 9 1 v (l.take k ++ x :: l.drop k).length ((l.take k ++ x :: l.drop k).map sv) :=
 Zky hk (by rw [show 0 + k + 1 + (l.length - k) = 0 + k + 1 + 0 by omega];exact h)
theorem Zwa (g cap : Nat) (l : List (List UInt8)) (x : List UInt8) (hl : l.length <= 100000) (hne : l ≠ []) (w : World) (hrow : TRow w (.slice (some ⟨g,0,none⟩) l.length cap) l) :
  Calls Tryz.prog 124 #[.slice (some ⟨g,0,none⟩) l.length cap,.string (ba x)] w fun e w' => ∃ v r,e = .returned v /\ Af.Laid l x r /\ w'.ownsRow w.heap.size 9 1 v r.length (r.map sv) /\ Below w.heap.size w w' := by
 obtain ⟨i0,hi,hz0,hz1,hz2⟩ := info_parts Tryz.infoStr;obtain ⟨p,c,e,hcap,hin⟩ := hrow;obtain ⟨g',cur,rfl,hg,hcur⟩ := hin hne;obtain ⟨rfl,rfl⟩ : g = g' /\ cap = c := by simpa using e
 have hR : Hid (∀ W,Below w.heap.size w W -> ∀ k (hk : k < l.length),W.cell? ⟨g,k,none⟩ = some (.string (ba l[k]))) := fun W hW k hk => Zac ((hW.block g (Array.getElem?_eq_some_iff.1 hg).1).trans hg) (hcur k hk)
 have zl : (l.length : Int) <= 100000 := by omega
 have zc : l.length <= cap := hcap;clear hin e hcur;go_enter Tryz.func124,Tryz.ntmps124
 go_wp2;go_loopw [5] (fun i wr => ∃ k : Nat,k <= l.length /\ i = .int .i64 k /\ (∀ j (hj : j < l.length),k <= j -> Af.gtB l[j] x = true) /\ w = wr) (fun i _ => (intOf i).toNat)
 case atStart => exact ⟨l.length,Nat.le_refl _,rfl,fun j hj h => by omega,rfl⟩
 case round =>
  obtain ⟨k,hk,rfl,hgt,rfl⟩ := hrel;have HG := hid1 hgt;clear hgt;by_cases h0 : 0 < k
  ·have d0 : (0 : Int) < (k : Int) := by omega
   have hk1 : k - 1 < l.length := by omega
   have hcell := hR.out w (Below.refl _ w) (k - 1) hk1;have e1 : ((k - 1 : Nat) : Int) = (k : Int) - 1 := by omega
   have e2 : IntKind.i64.wrap ((k : Int) - 1) = (k : Int) - 1 := by rw [IntKind.wrap_i64];omega
   have e3 : ((k : Int) - 1).toNat = k - 1 := by omega
   have e4 : (k : Int) - 1 < (l.length : Int) := by omega
   have e5 : (0 : Int) <= (k : Int) - 1 := by omega
   have HB : Hid (Af.gtB l[k - 1] x = (!Op.bytesLess l[k - 1] x && !(l[k - 1] == x))) := rfl;have HS : Hid (Af.gtB l[k - 1] x = true -> ∀ j (hj : j < l.length),k - 1 <= j -> Af.gtB l[j] x = true) := fun hb j hj h => by
    by_cases e : j = k - 1
    ·subst e;exact hb
    ·exact HG.out j hj (by omega)
   have HLast : Hid (Af.gtB l[k - 1] x = false -> ∀ hh : k - 1 < l.length,0 < k -> Af.gtB l[k - 1] x = false) := fun h _ _ => h
   generalize hg : Af.gtB l[k - 1] x = gb at *;generalize l[k - 1] = y at *;cases q1 : Op.bytesLess y x with
   | true =>
    have hg0 : gb = false := by rw [HB.out,q1];rfl
    have HLast := hid1 (HLast.out hg0);clear HB HS hg;have hsrc1 : ∀ j u,((l.take k).map sv)[j]? = some u -> w.cell? ((⟨g,0,none⟩ : Addr).add j) = some u := fun j u hj => by
     have hjl : j < (l.take k).length := by simpa using (List.getElem?_eq_some_iff.1 hj).1
     have hjl' : j < l.length := by simp at hjl;omega
     rw [List.getElem?_map,List.getElem?_eq_getElem hjl] at hj
     simp only [Option.map_some,Option.some.injEq,List.getElem_take] at hj;rw [<- hj,add_at];exact hR.out w (Below.refl _ w) j hjl'
    have hl1 : 1 <= l.length := by
     cases l with
     | nil => exact absurd rfl hne
     | cons y r => simp
    have ka : (k : Int) <= (cap : Int) := by omega
    have kb : k <= cap := by omega
    have kc : (0 : Int) <= (k : Int) := by omega
    have kd' : (k : Int) <= (l.length : Int) := by omega
    have HL := hid1 (show Af.Laid l x (l.take k ++ x :: l.drop k) from ⟨k,hk,rfl,HG.out,HLast.out⟩)
    have n1 : World.ownsRow w w.heap.size 9 1 (.slice none 0 0) 0 [] := World.ownsRow_nil _ _ _ _;by_cases hck : cap = k
    ·subst hck;have hlk : l.length = cap := by omega
     have hlz : l.length - cap = 0 := by omega
     go_wp2_with (first
      | (at_builtin;refine wpList_append_own _ rfl _ _ 45 rfl w.heap.size 9 i0 (.string ⟨#[]⟩) 1 16 Tryz.underlying45 hi hz0 hz1 hz2 rfl (by decide) _ _ _ rfl n1 ⟨g,0,none⟩ cap cap ((l.take cap).map sv) rfl (by simp;omega) hsrc1 one_sv (by unfold maxLen;omega) (by omega) (Nat.le_refl _) ?_;intro v1 w1 hown1 hgrow1 _;have b1 := lay_b1 n1 hgrow1;clear hsrc1 n1 hgrow1)
      | (at_builtin;refine wpList_append_own _ rfl _ _ 45 rfl w.heap.size 9 i0 (.string ⟨#[]⟩) 1 16 Tryz.underlying45 hi hz0 hz1 hz2 rfl (by decide) _ _ _ rfl (hown1.alloc _) ⟨w1.heap.size,0,none⟩ 1 1 [.string (ba x)] rfl rfl (cell_one_new _ _ _) (by simp [Value.oneCell']) (by unfold maxLen;omega) (by omega) (by simp;have := b1.size;omega) ?_;intro v2 w2 hown2 hgrow2 _;have b2 := lay_b2 b1 hown1 hgrow2;clear hown1 hgrow2)
      | (at_builtin;(refine wpList_append_own _ rfl _ _ 45 rfl w.heap.size 9 i0 (.string ⟨#[]⟩) 1 16 Tryz.underlying45 hi hz0 hz1 hz2 rfl (by decide) _ _ _ rfl hown2 ⟨g,0,none⟩ 0 0 ((l.drop cap).map sv) rfl (by simp;omega) (Zrc (k := cap) (l := l) (by omega) _) one_sv (by unfold maxLen;omega) (by omega) b2.size ?_;intro v3 w3 hown3 hgrow3 _;have b3 := lay_b3 b2 hown2 hgrow3;clear hown2 hgrow3))
      | go_in)
     go_ret;first | exact ⟨_,rfl,_,HL.out,Zdp hk hlk hown3,b3⟩ | exact ⟨_,rfl,_,b3,HL.out,Zdp hk hlk hown3⟩ | exact ⟨_,rfl,⟨_,HL.out,Zdp hk hlk hown3⟩,b3⟩
    ·go_wp2_with (first
      | (at_builtin;refine wpList_append_own _ rfl _ _ 45 rfl w.heap.size 9 i0 (.string ⟨#[]⟩) 1 16 Tryz.underlying45 hi hz0 hz1 hz2 rfl (by decide) _ _ _ rfl n1 ⟨g,0,none⟩ k cap ((l.take k).map sv) rfl (by simp;omega) hsrc1 one_sv (by unfold maxLen;omega) (by omega) (Nat.le_refl _) ?_;intro v1 w1 hown1 hgrow1 _;have b1 := lay_b1 n1 hgrow1;clear hsrc1 n1 hgrow1)
      | (at_builtin;refine wpList_append_own _ rfl _ _ 45 rfl w.heap.size 9 i0 (.string ⟨#[]⟩) 1 16 Tryz.underlying45 hi hz0 hz1 hz2 rfl (by decide) _ _ _ rfl (hown1.alloc _) ⟨w1.heap.size,0,none⟩ 1 1 [.string (ba x)] rfl rfl (cell_one_new _ _ _) (by simp [Value.oneCell']) (by unfold maxLen;omega) (by omega) (by simp;have := b1.size;omega) ?_;intro v2 w2 hown2 hgrow2 _;have b2 := lay_b2 b1 hown1 hgrow2;clear hown1 hgrow2)
      | (at_builtin;refine wpList_append_own _ rfl _ _ 45 rfl w.heap.size 9 i0 (.string ⟨#[]⟩) 1 16 Tryz.underlying45 hi hz0 hz1 hz2 rfl (by decide) _ _ _ rfl hown2 ⟨g,k,none⟩ (l.length - k) (cap - k) ((l.drop k).map sv) rfl (by simp) (Zpn (k := k) hR b2) one_sv (by unfold maxLen;omega) (by omega) b2.size ?_;intro v3 w3 hown3 hgrow3 _;have b3 := lay_b3 b2 hown2 hgrow3;clear hown2 hgrow3)
      | go_in)
     go_ret;exact ⟨_,_,rfl,HL.out,Zky hk hown3,b3⟩
   | false =>
    cases q2 : (y == x) with
    | true =>
     have hg0 : gb = false := by rw [HB.out,q1,q2];rfl
     have HLast := hid1 (HLast.out hg0);clear HB HS hg;have hsrc1 : ∀ j u,((l.take k).map sv)[j]? = some u -> w.cell? ((⟨g,0,none⟩ : Addr).add j) = some u := fun j u hj => by
      have hjl : j < (l.take k).length := by simpa using (List.getElem?_eq_some_iff.1 hj).1
      have hjl' : j < l.length := by simp at hjl;omega
      rw [List.getElem?_map,List.getElem?_eq_getElem hjl] at hj
      simp only [Option.map_some,Option.some.injEq,List.getElem_take] at hj;rw [<- hj,add_at];exact hR.out w (Below.refl _ w) j hjl'
     have hl1 : 1 <= l.length := by
      cases l with
      | nil => exact absurd rfl hne
      | cons y r => simp
     have ka : (k : Int) <= (cap : Int) := by omega
     have kb : k <= cap := by omega
     have kc : (0 : Int) <= (k : Int) := by omega
     have kd' : (k : Int) <= (l.length : Int) := by omega
     have HL := hid1 (show Af.Laid l x (l.take k ++ x :: l.drop k) from ⟨k,hk,rfl,HG.out,HLast.out⟩)
     have n1 : World.ownsRow w w.heap.size 9 1 (.slice none 0 0) 0 [] := World.ownsRow_nil _ _ _ _;by_cases hck : cap = k
     ·subst hck;have hlk : l.length = cap := by omega
      have hlz : l.length - cap = 0 := by omega
      go_wp2_with (first
       | (at_builtin;refine wpList_append_own _ rfl _ _ 45 rfl w.heap.size 9 i0 (.string ⟨#[]⟩) 1 16 Tryz.underlying45 hi hz0 hz1 hz2 rfl (by decide) _ _ _ rfl n1 ⟨g,0,none⟩ cap cap ((l.take cap).map sv) rfl (by simp;omega) hsrc1 one_sv (by unfold maxLen;omega) (by omega) (Nat.le_refl _) ?_;intro v1 w1 hown1 hgrow1 _;have b1 := lay_b1 n1 hgrow1;clear hsrc1 n1 hgrow1)
       | (at_builtin;refine wpList_append_own _ rfl _ _ 45 rfl w.heap.size 9 i0 (.string ⟨#[]⟩) 1 16 Tryz.underlying45 hi hz0 hz1 hz2 rfl (by decide) _ _ _ rfl (hown1.alloc _) ⟨w1.heap.size,0,none⟩ 1 1 [.string (ba x)] rfl rfl (cell_one_new _ _ _) (by simp [Value.oneCell']) (by unfold maxLen;omega) (by omega) (by simp;have := b1.size;omega) ?_;intro v2 w2 hown2 hgrow2 _;have b2 := lay_b2 b1 hown1 hgrow2;clear hown1 hgrow2)
       | (at_builtin;(refine wpList_append_own _ rfl _ _ 45 rfl w.heap.size 9 i0 (.string ⟨#[]⟩) 1 16 Tryz.underlying45 hi hz0 hz1 hz2 rfl (by decide) _ _ _ rfl hown2 ⟨g,0,none⟩ 0 0 ((l.drop cap).map sv) rfl (by simp;omega) (Zrc (k := cap) (l := l) (by omega) _) one_sv (by unfold maxLen;omega) (by omega) b2.size ?_;intro v3 w3 hown3 hgrow3 _;have b3 := lay_b3 b2 hown2 hgrow3;clear hown2 hgrow3))
       | go_in)
      go_ret;first | exact ⟨_,rfl,_,HL.out,Zdp hk hlk hown3,b3⟩ | exact ⟨_,rfl,_,b3,HL.out,Zdp hk hlk hown3⟩ | exact ⟨_,rfl,⟨_,HL.out,Zdp hk hlk hown3⟩,b3⟩
     ·go_wp2_with (first
       | (at_builtin;refine wpList_append_own _ rfl _ _ 45 rfl w.heap.size 9 i0 (.string ⟨#[]⟩) 1 16 Tryz.underlying45 hi hz0 hz1 hz2 rfl (by decide) _ _ _ rfl n1 ⟨g,0,none⟩ k cap ((l.take k).map sv) rfl (by simp;omega) hsrc1 one_sv (by unfold maxLen;omega) (by omega) (Nat.le_refl _) ?_;intro v1 w1 hown1 hgrow1 _;have b1 := lay_b1 n1 hgrow1;clear hsrc1 n1 hgrow1)
       | (at_builtin;refine wpList_append_own _ rfl _ _ 45 rfl w.heap.size 9 i0 (.string ⟨#[]⟩) 1 16 Tryz.underlying45 hi hz0 hz1 hz2 rfl (by decide) _ _ _ rfl (hown1.alloc _) ⟨w1.heap.size,0,none⟩ 1 1 [.string (ba x)] rfl rfl (cell_one_new _ _ _) (by simp [Value.oneCell']) (by unfold maxLen;omega) (by omega) (by simp;have := b1.size;omega) ?_;intro v2 w2 hown2 hgrow2 _;have b2 := lay_b2 b1 hown1 hgrow2;clear hown1 hgrow2)
       | (at_builtin;refine wpList_append_own _ rfl _ _ 45 rfl w.heap.size 9 i0 (.string ⟨#[]⟩) 1 16 Tryz.underlying45 hi hz0 hz1 hz2 rfl (by decide) _ _ _ rfl hown2 ⟨g,k,none⟩ (l.length - k) (cap - k) ((l.drop k).map sv) rfl (by simp) (Zpn (k := k) hR b2) one_sv (by unfold maxLen;omega) (by omega) b2.size ?_;intro v3 w3 hown3 hgrow3 _;have b3 := lay_b3 b2 hown2 hgrow3;clear hown2 hgrow3)
       | go_in)
      go_ret;exact ⟨_,_,rfl,HL.out,Zky hk hown3,b3⟩
    | false =>
     have hg0 : gb = true := by rw [HB.out,q1,q2];rfl
     have HS := hid1 (HS.out hg0);clear HB HLast hg;go_wp2;exact ⟨⟨k - 1,by omega,by go_num,HS.out,trivial⟩,by simp [intOf];omega⟩
  ·have d0 : (k : Int) <= 0 := by omega
   have hsrc1 : ∀ j u,((l.take k).map sv)[j]? = some u -> w.cell? ((⟨g,0,none⟩ : Addr).add j) = some u := fun j u hj => by
    have hjl : j < (l.take k).length := by simpa using (List.getElem?_eq_some_iff.1 hj).1
    have hjl' : j < l.length := by simp at hjl;omega
    rw [List.getElem?_map,List.getElem?_eq_getElem hjl] at hj
    simp only [Option.map_some,Option.some.injEq,List.getElem_take] at hj;rw [<- hj,add_at];exact hR.out w (Below.refl _ w) j hjl'
   have hl1 : 1 <= l.length := by
    cases l with
    | nil => exact absurd rfl hne
    | cons y r => simp
   have ka : (k : Int) <= (cap : Int) := by omega
   have kb : k <= cap := by omega
   have kc : (0 : Int) <= (k : Int) := by omega
   have kd' : (k : Int) <= (l.length : Int) := by omega
   have HL := hid1 (show Af.Laid l x (l.take k ++ x :: l.drop k) from ⟨k,hk,rfl,HG.out,fun _ h => absurd h h0⟩)
   have n1 : World.ownsRow w w.heap.size 9 1 (.slice none 0 0) 0 [] := World.ownsRow_nil _ _ _ _;by_cases hck : cap = k
   ·exact absurd hck (by omega)
   ·go_wp2_with (first
     | (at_builtin;refine wpList_append_own _ rfl _ _ 45 rfl w.heap.size 9 i0 (.string ⟨#[]⟩) 1 16 Tryz.underlying45 hi hz0 hz1 hz2 rfl (by decide) _ _ _ rfl n1 ⟨g,0,none⟩ k cap ((l.take k).map sv) rfl (by simp;omega) hsrc1 one_sv (by unfold maxLen;omega) (by omega) (Nat.le_refl _) ?_;intro v1 w1 hown1 hgrow1 _;have b1 := lay_b1 n1 hgrow1;clear hsrc1 n1 hgrow1)
     | (at_builtin;refine wpList_append_own _ rfl _ _ 45 rfl w.heap.size 9 i0 (.string ⟨#[]⟩) 1 16 Tryz.underlying45 hi hz0 hz1 hz2 rfl (by decide) _ _ _ rfl (hown1.alloc _) ⟨w1.heap.size,0,none⟩ 1 1 [.string (ba x)] rfl rfl (cell_one_new _ _ _) (by simp [Value.oneCell']) (by unfold maxLen;omega) (by omega) (by simp;have := b1.size;omega) ?_;intro v2 w2 hown2 hgrow2 _;have b2 := lay_b2 b1 hown1 hgrow2;clear hown1 hgrow2)
     | (at_builtin;refine wpList_append_own _ rfl _ _ 45 rfl w.heap.size 9 i0 (.string ⟨#[]⟩) 1 16 Tryz.underlying45 hi hz0 hz1 hz2 rfl (by decide) _ _ _ rfl hown2 ⟨g,k,none⟩ (l.length - k) (cap - k) ((l.drop k).map sv) rfl (by simp) (Zpn (k := k) hR b2) one_sv (by unfold maxLen;omega) (by omega) b2.size ?_;intro v3 w3 hown3 hgrow3 _;have b3 := lay_b3 b2 hown2 hgrow3;clear hown2 hgrow3)
     | go_in)
    go_ret;exact ⟨_,_,rfl,HL.out,Zky hk hown3,b3⟩
theorem Zsy (x : List UInt8) (w : World) :
  Calls Tryz.prog 124 #[.slice none 0 0,.string (ba x)] w fun e w' => ∃ v r,e = .returned v /\ Af.Laid [] x r /\ w'.ownsRow w.heap.size 9 1 v r.length (r.map sv) /\ Below w.heap.size w w' := by
 obtain ⟨i0,hi,hz0,hz1,hz2⟩ := info_parts Tryz.infoStr;have n1 : World.ownsRow w w.heap.size 9 1 (.slice none 0 0) 0 [] := World.ownsRow_nil _ _ _ _;have HL := hid1 (show Af.Laid [] x [x] from ⟨0,Nat.le_refl _,rfl,fun j hj => absurd hj (by simp),fun h => absurd h (by simp)⟩)
 go_enter Tryz.func124,Tryz.ntmps124
 go_wp2;go_loopw [5] (fun i wr => i = .int .i64 0 /\ w = wr) (fun i _ => (intOf i).toNat)
 case atStart => exact ⟨rfl,rfl⟩
 case round =>
  obtain ⟨rfl,rfl⟩ := hrel;go_wp2_with (first
   | (at_builtin;refine wpList_append_own _ rfl _ _ 45 rfl w.heap.size 9 i0 (.string ⟨#[]⟩) 1 16 Tryz.underlying45 hi hz0 hz1 hz2 rfl (by decide) _ _ _ rfl (n1.alloc _) ⟨w.heap.size,0,none⟩ 1 1 [.string (ba x)] rfl rfl (cell_one_new _ _ _) (by simp [Value.oneCell']) (by unfold maxLen;omega) (by omega) (by simp) ?_;intro v2 w2 hown2 hgrow2 _;have b2 := lay_b2 (Below.refl _ w) n1 hgrow2;clear n1 hgrow2)
   | (at_builtin;refine wpList_append_own_none rfl _ _ 45 rfl w.heap.size 9 i0 1 Tryz.underlying45 hi _ _ _ rfl hown2 rfl ?_)
   | go_in)
  go_ret;exact ⟨_,_,rfl,HL.out,hown2,b2⟩
theorem gtB_le {x y : List UInt8} (h : Af.gtB y x = true) : x <= y := by
 unfold Af.gtB at h;simp only [Bool.and_eq_true,Bool.not_eq_true'] at h;have h1 := h.1;rw [Tf.less_before] at h1;refine List.not_lt.1 fun e => ?_
 rw [(Tf.before_lt y x).2 e] at h1;cases h1
theorem gtB_ge {x y : List UInt8} (h : Af.gtB y x = false) : y <= x := by
 unfold Af.gtB at h;simp only [Bool.and_eq_false_iff,Bool.not_eq_false'] at h;rcases h with h | h
 ·rw [Tf.less_before] at h;exact List.le_of_lt ((Tf.before_lt y x).1 h)
 ·rw [beq_iff_eq.1 h];exact List.le_refl _
theorem Zpo {l r : List (List UInt8)} {x : List UInt8} (hl : l.Pairwise (fun x y => x <= y)) (h : Af.Laid l x r) : r.Pairwise (fun x y => x <= y) /\ r.Perm (l ++ [x]) := by
 obtain ⟨k,hk,rfl,hhi,hlo⟩ := h;have hd : ∀ b ∈ l.drop k,x <= b := by
  intro b hb
  obtain ⟨j,hj,rfl⟩ := List.getElem_of_mem hb;rw [List.getElem_drop];exact gtB_le (hhi (k + j) (by simp at hj;omega) (by omega))
 have ht : ∀ a ∈ l.take k,a <= x := by
  intro a ha
  obtain ⟨j,hj,rfl⟩ := List.getElem_of_mem ha;rw [List.getElem_take];have hj' : j < k := by simp at hj;omega
  have h1 := gtB_ge (hlo (by omega) (by omega))
  by_cases e : j = k - 1
  ·subst e;exact h1
  ·exact List.le_trans (List.pairwise_iff_getElem.1 hl j (k - 1) (by omega) (by omega) (by omega)) h1
 constructor
 ·rw [List.pairwise_append,List.pairwise_cons];refine ⟨hl.sublist (List.take_sublist k l),⟨hd,hl.sublist (List.drop_sublist k l)⟩,?_⟩;intro a ha b hb
  rcases List.mem_cons.1 hb with rfl | hb
  ·exact ht a ha
  ·exact List.le_trans (ht a ha) (hd b hb)
 ·have : (l.take k ++ x :: l.drop k).Perm (x :: (l.take k ++ l.drop k)) := List.perm_middle;rw [List.take_append_drop] at this;exact this.trans (List.perm_append_comm (l₁ := [x]) (l₂ := l))
theorem Zrd {ms r : List (List UInt8)} {x : List UInt8} (h : Af.Laid (Af.srt ms) x r) : r = Af.srt (ms ++ [x]) := by
 obtain ⟨h1,h2⟩ := Zpo (Af.srt_sorted ms) h;rw [<- Af.srt_of_sorted h1];exact Af.srt_eq (h2.trans ((Af.srt_perm ms).append_right [x]))
theorem Zza : Af.srt [] = [] := by
 have := Af.srt_len [];simpa using this
def NIRow (w : World) (v : Value) (l : List Nat) : Prop :=
 ∃ p cap,v = .slice p l.length cap /\ (l ≠ [] -> ∃ g o,p = some ⟨g,o,none⟩ /\ g < w.heap.size /\ ∀ j (hj : j < l.length),w.cell? ⟨g,o + j,none⟩ = some (nv l[j]))
theorem NIRow.below {w w' : World} {v : Value} {l : List Nat} (h : NIRow w v l) (hb : Below w.heap.size w w') : NIRow w' v l := by
 obtain ⟨p,cap,e,h1⟩ := h;refine ⟨p,cap,e,fun hl => ?_⟩
 obtain ⟨g,o,e,hg,hc⟩ := h1 hl;exact ⟨g,o,e,Nat.lt_of_lt_of_le hg hb.size,fun j hj => (hb.cell (p := ⟨g,o + j,none⟩) hg).trans (hc j hj)⟩
theorem NRow.ni {w : World} {v : Value} {l : List Nat} (h : NRow w v l) : NIRow w v l := by
 obtain ⟨p,cap,e,_,h1⟩ := h;refine ⟨p,cap,e,fun hl => ?_⟩
 obtain ⟨g,cur,e,hg,hc⟩ := h1 hl;exact ⟨g,0,e,(Array.getElem?_eq_some_iff.1 hg).1,fun j hj => by rw [Nat.zero_add];exact Zac hg (hc j hj)⟩
def NoRow (v : Value) : Prop := ∃ p cap,v = .slice p 0 cap
abbrev allB1 : Nat -> Bool := fun _ => true
def Zfr (es : Nat -> Addr) (l : List Ru) (w : World) (u ev : Value) : Prop :=
 ((Ru.fault l).1 ≠ 0 /\ ErrV w es ev (Ru.fault l) /\ NoRow u) \/
 ((Ru.fault l).1 = 0 /\ Ru.order l allB1 = none /\ ev = erOf es 9 /\ NoRow u) \/
 ((Ru.fault l).1 = 0 /\ ∃ o,Ru.order l allB1 = some o /\ ev = .nilIface /\ NIRow w u o)
def Zkd (es : Nat -> Addr) (l : List Ru) (outs : List (List UInt8)) (w : World) (u ev : Value) : Prop :=
 ((Ru.fault l).1 ≠ 0 /\ ErrV w es ev (Ru.fault l) /\ NoRow u) \/
 ((Ru.fault l).1 = 0 /\ ∃ k,∃ hk : k < outs.length,(∀ x ∈ l,x.out ≠ outs[k]) /\ (∀ j (hj : j < outs.length),j < k -> ∃ x ∈ l,x.out = outs[j]) /\ ErrV w es ev (6,(k : Int)) /\ NoRow u) \/
 ((Ru.fault l).1 = 0 /\ (∀ j (hj : j < outs.length),∃ x ∈ l,x.out = outs[j]) /\ ev = .nilIface /\ ∃ f,Ru.Needed l outs f /\ NIRow w u ((List.range l.length).filter f))
structure GraphW (w : World) (es : Nat -> Addr) : Prop where
 s : SheetW w es
 cyc : w.cell? ⟨11,0,none⟩ = some (erOf es 9)
theorem GraphW.below {w w' : World} {es : Nat -> Addr} (h : GraphW w es) (hb : Below w.heap.size w w') : GraphW w' es := ⟨h.s.below hb,Zaa h.cyc hb⟩
theorem ErrV.some {w : World} {es : Nat -> Addr} {v : Value} {f : Nat × Int} (h : ErrV w es v f) (hf : f.1 ≠ 0) : ∃ t u,v = .iface t u := by
 rcases h with ⟨_,rfl,_⟩ | ⟨pb,m,rfl,_⟩
 ·obtain ⟨c,n⟩ := f;cases c with
  | zero => exact absurd rfl hf
  | succ k => exact ⟨_,_,rfl⟩
 ·exact ⟨_,_,rfl⟩
theorem Zie {w : World} (a b : Value) (l : List Nat) (ha : NIRow w a l) (hb : NIRow w b l) (hl : l.length <= 1000) :
  Calls Tryz.prog 51 #[a,b] w fun e w' => e = .returned (.bool true) /\ ∃ q,w' = w.drewN q := by
 obtain ⟨pa,ca,rfl,ha⟩ := ha;obtain ⟨pb,cb,rfl,hb⟩ := hb;have HA := hid1 ha;have HB := hid1 hb;clear ha hb;have zl : (l.length : Int) <= 1000 := by omega
 go_enter Tryz.func51,Tryz.ntmps51
 go_wp2;go_loopw [5] (fun i wr => ∃ k : Nat,k <= l.length /\ i = .int .i64 k /\ ∃ q,wr = w.drewN q) (fun i _ => l.length - (intOf i).toNat)
 case atStart => exact ⟨0,Nat.zero_le _,rfl,0,rfl⟩
 case round =>
  obtain ⟨k,hk,rfl,q,rfl⟩ := hrel;have c0 : (0 : Int) <= (k : Int) := by omega
  by_cases hlt : k < l.length
  ·have c1 : (k : Int) < (l.length : Int) := by omega
   obtain ⟨ga,oa,rfl,_,h1⟩ := HA.out (by intro e;rw [e] at hlt;simp at hlt)
   obtain ⟨gb,ob,rfl,_,h2⟩ := HB.out (by intro e;rw [e] at hlt;simp at hlt)
   have d1 := h1 k hlt;have d2 := h2 k hlt;clear h1 h2 HA HB;generalize l[k] = y at *;go_wp2;go_region;go_wp2;exact ⟨⟨k + 1,by omega,by go_num,q + 1,rfl⟩,by simp [intOf];omega⟩
  ·have c1 : (l.length : Int) <= (k : Int) := by omega
   clear HA HB;go_wp2;go_ret;exact ⟨rfl,q,rfl⟩
end Go.Proofs.YtbgkfmodbofalaaGreatDoor
