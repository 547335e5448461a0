import Derived.Test.YtdljhggillgpfaaGreatDoorSA41
set_option maxRecDepth 100000
set_option maxHeartbeats 8000000
namespace Go.Proofs.YtdljhggillgpfaaGreatDoor
open Go.RowKit Go.Shelf Go.Lib
namespace Rd
theorem codeL_at {ls : List (List UInt8)} {k : Nat} (h : k < ls.length) : codeL ls k = if (line ls[k]).isSome then 0 else 1 := by
 unfold codeL
 rw [List.getD_eq_getElem?_getD,List.getElem?_eq_getElem h]
 rfl
theorem rules_take {ls : List (List UInt8)} {k : Nat} (h : k < ls.length) {r : Ru} (hr : line ls[k] = some r) : rules (ls.take (k + 1)) = rules (ls.take k) ++ [r] := by
 unfold rules
 rw [List.take_succ_eq_append_getElem h,List.filterMap_append]
 simp [hr]
theorem rules_len (ls : List (List UInt8)) : (rules ls).length ≤ ls.length := List.length_filterMap_le _ _
theorem rules_wide {s : List UInt8} (hs : s.length ≤ 10000) : ∀ x ∈ rules (lines s),x.Wide := fun x hx => by
 obtain ⟨y,hy,h⟩ := List.mem_filterMap.1 hx
 have h1 := lines_each s y hy
 obtain ⟨a,b,c,d⟩ := line_len h
 exact ⟨by omega,by omega,by omega,fun z hz => by have := d z hz;omega⟩
end Rd
theorem ruRead_calls {w : World} {es : Nat → Addr} (hW : SheetW w es) (hx : w.cell? ⟨1,0,none⟩ = some (erOf es 1)) (m : Int) (hm : w.cell? ⟨13,0,none⟩ = some (.int .i64 m)) (s : List UInt8) (hs : s.length ≤ 100000) :
  Calls Tryz.prog 66 #[.string (ba s)] w fun e w' => ∃ v ev,e = .returned (.tuple #[v,ev]) ∧ Below w.heap.size w w' ∧ ErrV w' es ev (Rd.fault s) ∧ ((Rd.fault s).1 = 0 → ev = .nilIface ∧ RNew w.heap.size w' v (Rd.rules (Rd.lines s))) := by
 obtain ⟨ft,hft⟩ : ∃ ft,Rd.fault s = ft := ⟨_,rfl⟩
 have HF : Hid (Rd.fault s = ft) := hid1 hft
 rw [hft]
 clear hft
 have hbd := hW.e.c1
 by_cases hlong : 10000 < s.length
 ·have e1 : ft = (2,-1) := by rw [← HF.out];unfold Rd.fault;rw [if_pos hlong]
  subst e1
  have hz := ba_size s
  have z1 : (10000 : Int) < ((ba s).size : Int) := by omega
  clear HF
  generalize ba s = bs at *
  go_enter Tryz.func66,Tryz.ntmps66
  go_wp2
  go_region
  go_wp2
  go_ret2
  exact ⟨_,_,rfl,(Below.refl _ _).drew,.inl ⟨rfl,rfl,by simp⟩,fun h => by simp at h⟩
 ·have hz := ba_size s
  have z1 : ((ba s).size : Int) ≤ (10000 : Int) := by omega
  obtain ⟨w1,hw1⟩ : ∃ w1,w.alloc (.cells #[.slice none 0 0] 49) = w1 := ⟨_,rfl⟩
  have g1 : Below w.heap.size w w1 := by rw [← hw1];exact (Below.refl _ w).alloc (Nat.le_refl _) _
  have b1 : Boxed w1 w.heap.size 49 (.slice none 0 0) := by rw [← hw1];exact Boxed.new w 49 _
  have s1 : w.heap.size < w1.heap.size := b1.lt
  have H1 := hid1 (strLines_calls s w1)
  have H2 := hid1 (CollectLines_calls s hs w1)
  have HSh := hid1 fun (V : World) (g : Below w.heap.size w V) (v : Value) (hr : RRow V v (Rd.rules (Rd.lines s))) => ruSheetW_calls (hW.below g) (Rd.rules (Rd.lines s)) (by have := Rd.rules_len (Rd.lines s);have := Rd.lines_len s;omega) v hr (Rd.rules_wide (by omega))
  have hll := Rd.lines_len s
  have HFe : Hid (ft = match Ru.first (Rd.codeL (Rd.lines s)) (Rd.lines s).length with | some k => (1,(k : Int)) | none => Ru.fault (Rd.rules (Rd.lines s))) := hid1 (by rw [← HF.out];unfold Rd.fault;rw [if_neg hlong];cases Ru.first (Rd.codeL (Rd.lines s)) (Rd.lines s).length <;> rfl)
  have HEach := hid1 fun (k : Nat) (hk : k < (Rd.lines s).length) => Rd.lines_each s _ (List.getElem_mem hk)
  clear HF hW hbd
  generalize Rd.lines s = ls at *
  have hen := enters_of Tryz.func98 (by kernel_rfl) rfl
  go_enter Tryz.func66,Tryz.ntmps66
  go_wp2_with fail
  refine H1.out.mono ?_
  rintro e w2 ⟨rfl,rfl⟩
  go_wp2_with fail
  refine H2.out.mono ?_
  rintro e w2 ⟨v,rfl,hxr,g2,hnew⟩
  have s2 : w1.heap.size ≤ w2.heap.size := g2.size
  have b2 : w2.heap[w.heap.size]? = some (.cells #[.slice none 0 0] 49 (0,0)) := (g2.block _ s1).trans b1
  have G2 : Below w.heap.size w w2 := below_then g1 g2
  have j0 : RdJ w2.heap.size w.heap.size w2 (Rd.rules (ls.take 0)) w2 := ⟨⟨[],_,by simp [Rd.rules],b2,World.ownsRow_nil _ _ _ _,fun x hx => by simp at hx⟩,Nat.le_refl _,fun _ _ _ => rfl,Below.refl _ _⟩
  have HX : Hid (∀ k W,RdJ w2.heap.size w.heap.size w2 (Rd.rules (ls.take k)) W → XRow W v ls) := hid1 fun k W hJ => by
   refine hxr.stay hJ.size fun hl a n c e => ?_
   obtain ⟨p,cap,e',-,-,h⟩ := hxr
   obtain ⟨g,o,eg,hg,-⟩ := h hl
   have h3 := hnew _ _ _ e
   rw [e',eg] at e
   cases e
   exact hJ.rest g hg (by simp at h3;omega)
  have hJm := searchS_inv (w := w2) (es := es) w.heap.size (by omega) v ls (by omega) 98 #[.pointer (some ⟨w.heap.size,0,none⟩)] hen (Rd.codeL ls) (fun k W => RdJ w2.heap.size w.heap.size w2 (Rd.rules (ls.take k)) W) HX (hid1 fun k W hJ => hJ.base) (hid1 fun k hk W hJ => by
   have hl := HEach.out k hk
   have hBW : Below w.heap.size w W := G2.trans hJ.base
   have hr : (Rd.rules (ls.take k)).length ≤ 100000 := by have := Rd.rules_len (ls.take k);simp at this;omega
   have := ruRead1_calls (es := es) hJ (by omega) hr ls[k] (by omega) k m (cell_below' hm hBW) (cell_below' hx hBW)
   rw [Rd.codeL_at hk]
   cases hq : Rd.line ls[k] with
   | none =>
    rw [hq] at this
    refine Calls.mono this ?_
    rintro e w' ⟨rfl,g⟩
    exact ⟨rfl,fun h => by simp at h,g⟩
   | some r =>
    rw [hq] at this
    refine Calls.mono this ?_
    rintro e w' ⟨rfl,h,g⟩
    refine ⟨rfl,fun _ => ?_,g⟩
    rw [Rd.rules_take hk hq]
    exact h) j0
  have HJm := hid1 hJm
  clear hJm HX HEach j0 hen b2 b1 H1 H2
  obtain ⟨pv,cv,rfl,-⟩ := hxr
  go_wp2_with fail
  refine HJm.out.mono ?_
  rintro e w3 ⟨u,rfl,g3,ht,hJ⟩
  have G3 := G2.trans g3
  clear HJm
  rcases ht with ⟨hz0,rfl⟩ | ⟨k,pb,hk,hc,h0,rfl,h1,h2⟩
  ·have hJ3 := hJ rfl
   rw [List.take_length] at hJ3
   obtain ⟨⟨dn,out,hdn,hrow,hsh⟩,-,-,-⟩ := hJ3
   have hcell : w3.cell? ⟨w.heap.size,0,none⟩ = some out := cell_of_row (j := 0) hrow rfl
   have hN := hsh.new
   rw [hdn] at hN
   have hR : RRow w3 out (Rd.rules ls) := hN w3 (Nat.le_refl _) fun _ _ _ => rfl
   have HC := hid1 (HSh.out w3 G3 out hR)
   have e2 : ft = Ru.fault (Rd.rules ls) := by rw [HFe.out,Ru.first_none hz0]
   have HE2 := hid1 e2
   have HN := hid1 hN
   obtain ⟨po,co,rfl,-⟩ := hR
   clear HSh HFe hJ hsh hN e2
   go_wp2_with fail
   refine HC.out.mono ?_
   rintro e w4 ⟨ev,rfl,g4,hev⟩
   have hrow4 := (g4.block _ (Array.getElem?_eq_some_iff.1 hrow).1).trans hrow
   have hcell4 : w4.cell? ⟨w.heap.size,0,none⟩ = some (.slice po (Rd.rules ls).length co) := cell_of_row (j := 0) hrow4 rfl
   have HEv := hid1 hev
   have HG4 := hid1 g4
   have G4 := below_then G3 g4
   clear HC g4
   by_cases hf0 : (Ru.fault (Rd.rules ls)).1 = 0
   ·obtain rfl : ev = .nilIface := by
     rcases hev with ⟨_,h,_⟩ | ⟨_,_,_,_,h,_⟩
     ·rw [h,hf0];rfl
     ·omega
    clear hev
    go_wp2
    go_ret2
    refine ⟨_,_,rfl,G4,by rw [HE2.out];exact HEv.out,fun _ => ⟨rfl,fun V hz hV => ?_⟩⟩
    refine HN.out V (Nat.le_trans HG4.out.size hz) fun j h1 h2 => ?_
    exact (hV j (by have := G2.size;omega) (Nat.lt_of_lt_of_le h2 HG4.out.size)).trans (HG4.out.block j h2)
   ·obtain ⟨t,x,rfl⟩ : ∃ t x,ev = .iface t x := by
     rcases hev with ⟨_,h,_⟩ | ⟨_,_,h,_⟩
     ·rw [h]
      generalize (Ru.fault (Rd.rules ls)).1 = c at *
      cases c with
      | zero => exact absurd rfl hf0
      | succ c => exact ⟨_,_,rfl⟩
     ·exact ⟨_,_,h⟩
    clear hev
    go_wp2
    go_ret2
    exact ⟨_,_,rfl,G4,by rw [HE2.out];exact HEv.out,fun h => absurd (by rw [← HE2.out];exact h) hf0⟩
  ·have e2 : ft = (1,(k : Int)) := by rw [HFe.out,Ru.first_some hk hc h0]
   have hck : Rd.codeL ls k = 1 := by
    rw [Rd.codeL_at hk] at hc ⊢
    split at hc
    ·exact absurd rfl hc
    ·rename_i h
     rw [if_neg h]
   rw [hck] at h2
   have HE2 := hid1 e2
   clear e2
   have HV : Hid (ErrV w3 es (.iface 64 (.pointer (some ⟨pb,0,none⟩))) (1,(k : Int))) := hid1 (.inr ⟨pb,0,rfl,by omega,rfl,h1,h2⟩)
   clear HSh HFe hJ
   go_wp2
   go_ret2
   exact ⟨_,_,rfl,G3,by rw [HE2.out];exact HV.out,fun h => by rw [HE2.out] at h;simp at h⟩
end Go.Proofs.YtdljhggillgpfaaGreatDoor
namespace Go.Proofs.YtdljhggillgpfaaGreatDoor
open Go.RowKit Go.Shelf Go.Lib
namespace Sc
def words : List (List UInt8) := [[116,101,120,116],[98,111,117,110,100],[115,104,97,112,101],[110,97,109,101],[107,105,110,100],[110,111,110,101],[101,120,105,115,116],[102,117,108,108],[99,121,99,108,101],[108,111,110,103],[116,117,114,110],[100,111,110,101]]
def errT (c : Nat) : List UInt8 := [107,105,108,110,102,105,101,108,100,58,32] ++ words.getD (c - 1) []
abbrev An := List UInt8 × Nat
def told (a : An) : List UInt8 := if a.2 = 0 then a.1 else errT a.2
def ok : List UInt8 := [111,107]
def inLine (s : List UInt8) : List UInt8 := Lib.replaceAll s [10] [59]
def row (l : List (List UInt8)) : List UInt8 := if l = [] then [110,111,116,104,105,110,103] else Lib.join l [32]
end Sc
structure ErTx (w : World) (es : Nat → Addr) : Prop where
 cell : ∀ k,k < 12 → ∃ b o,es k = ⟨b,o,none⟩ ∧ w.cell? ⟨b,o,none⟩ = some (.string (ba (Sc.errT (k + 1))))
theorem ErTx.below {w w' : World} {es : Nat → Addr} (h : ErTx w es) (hb : Below w.heap.size w w') : ErTx w' es := ⟨fun k hk => by
 obtain ⟨b,o,e,hc⟩ := h.cell k hk
 exact ⟨b,o,e,cell_below' hc hb⟩⟩
theorem notPath_calls {w : World} {es : Nat → Addr} (hE : ES w es) (s : List UInt8) (hs : s.length ≤ 1000000) :
  Calls Tryz.prog 70 #[.string (ba s)] w fun e w' => e = .returned (.bool (!pathB s)) ∧ Below w.heap.size w w' := by
 have HC := hid1 (pCheck_any hE s hs)
 clear hE
 cases hp : pathB s with
 | false =>
  rw [hp] at HC
  simp only [if_true,erOf] at HC
  go_enter Tryz.func70,Tryz.ntmps70
  go_wp2_with fail
  refine HC.out.mono ?_
  rintro e w1 ⟨rfl,g⟩
  go_wp2
  go_ret
  exact ⟨rfl,g⟩
 | true =>
  rw [hp] at HC
  simp only [Bool.true_eq_false,if_false,erOf] at HC
  go_enter Tryz.func70,Tryz.ntmps70
  go_wp2_with fail
  refine HC.out.mono ?_
  rintro e w1 ⟨rfl,g⟩
  go_wp2
  go_ret
  exact ⟨rfl,g⟩
theorem ErrV.face {w : World} {es : Nat → Addr} {v : Value} {f : Nat × Int} (h : ErrV w es v f) (hf : f.1 ≠ 0) : ∃ t u,v = .iface t u := by
 rcases h with ⟨_,h,_⟩ | ⟨_,_,h,_⟩
 ·obtain ⟨c,a⟩ := f
  cases c with
  | zero => exact absurd rfl hf
  | succ c => exact ⟨_,_,h⟩
 ·exact ⟨_,_,h⟩
def CmdV (w : World) (es : Nat → Addr) (a : Sc.An) (t : List UInt8) (ev : Value) : Prop := (∃ p,ErrV w es ev (a.2,p)) ∧ (a.2 = 0 → t = a.1)
theorem CmdV.err {w : World} {es : Nat → Addr} {c : Nat} (h : c < 12) (t : List UInt8) : CmdV w es ([],c + 1) t (erOf es (c + 1)) := ⟨⟨-1,.inl ⟨rfl,rfl,by omega⟩⟩,fun h => by simp at h⟩
theorem CmdV.fine {w : World} {es : Nat → Addr} (t : List UInt8) : CmdV w es (t,0) t .nilIface := ⟨⟨-1,.nil⟩,fun _ => rfl⟩
theorem done_calls {w : World} {es : Nat → Addr} (ev : Value) (c : Nat) (p : Int) (h : ErrV w es ev (c,p)) :
  Calls Tryz.prog 74 #[ev] w fun e w' => ∃ t,e = .returned (.tuple #[.string (ba t),ev]) ∧ w' = w ∧ CmdV w es (if c = 0 then Sc.ok else [],c) t ev := by
 have HV := hid1 h
 by_cases hc : c = 0
 ·have e1 := h.zero hc
  subst e1 hc
  clear h
  go_enter Tryz.func74,Tryz.ntmps74
  go_wp2
  go_ret2
  exact ⟨Sc.ok,rfl,rfl,⟨p,HV.out⟩,fun _ => rfl⟩
 ·obtain ⟨t,u,rfl⟩ := h.face hc
  clear h
  go_enter Tryz.func74,Tryz.ntmps74
  go_wp2
  go_ret2
  exact ⟨[],rfl,rfl,⟨p,HV.out⟩,fun h => absurd h hc⟩
theorem replace_calls (s a b : List UInt8) (hs : s.length ≤ 1000000) (ha : a.length = 1) (hb : b.length = 1) (m : Int) (w : World) (hm : w.cell? ⟨13,0,none⟩ = some (.int .i64 m)) :
  Calls Tryz.prog 65 #[.string (ba s),.string (ba a),.string (ba b)] w fun e w' => e = .returned (.string (ba (Lib.replaceAll s a b))) ∧ Below w.heap.size w w' := by
 have hcount : Lib.countB (ba s) (ba a) ≤ s.length + 1 := Lib.count_le s a
 exact Tryz.strings_ReplaceAll (ba s) (ba a) (ba b) m w (by rw [ba_size];omega) hm (by rw [ba_size];omega) (by
  rw [ba_size,ba_size,hb]
  omega)
theorem inLine_calls (s : List UInt8) (hs : s.length ≤ 1000000) (m : Int) (w : World) (hm : w.cell? ⟨13,0,none⟩ = some (.int .i64 m)) :
  Calls Tryz.prog 78 #[.string (ba s)] w fun e w' => e = .returned (.string (ba (Sc.inLine s))) ∧ Below w.heap.size w w' := by
 have HR := hid1 (replace_calls s [10] [59] hs rfl rfl m w hm)
 go_enter Tryz.func78,Tryz.ntmps78
 go_wp2_with fail
 refine HR.out.mono ?_
 rintro e w1 ⟨rfl,g⟩
 go_wp2
 go_ret
 exact ⟨rfl,g⟩
theorem row_calls (v : Value) (l : List (List UInt8)) (hn : l.length ≤ 100000) (hl : ∀ x ∈ l,x.length ≤ 100000) (w : World) (hr : IRow w v l) (hk : CapRow v) :
  Calls Tryz.prog 54 #[v] w fun e w' => e = .returned (.string (ba (Sc.row l))) ∧ Below w.heap.size w w' := by
 obtain ⟨p,cap,rfl,hin⟩ := hr
 by_cases h0 : l = []
 ·subst h0
  have HQ : Hid (Sc.row [] = [110,111,116,104,105,110,103]) := hid1 rfl
  rw [HQ.out]
  go_enter Tryz.func54,Tryz.ntmps54
  go_wp2
  go_ret
  exact ⟨rfl,Below.refl _ _⟩
 ·have hq : Sc.row l = Lib.join l [32] := by unfold Sc.row;rw [if_neg h0]
  rw [hq]
  obtain ⟨g,o,rfl,hg,hc⟩ := hin h0
  have hcap := hk _ _ _ rfl
  have hpos : 0 < l.length := List.length_pos_iff.2 h0
  have HJ : Hid (Calls Tryz.prog 80 #[.slice (some ⟨g,o,none⟩) l.length cap,.string (ba [32])] w fun e w' => e = .returned (.string (ba (Lib.join l [32]))) ∧ Below w.heap.size w w') := hid1 (by
   have hj := join_len [32] l
   have hs : ∀ k : List (List UInt8),(∀ x ∈ k,x.length ≤ 100000) → (k.map List.length).sum ≤ k.length * 100000 := fun k => by
    induction k with
    | nil => intro _;simp
    | cons x k ih =>
     intro h
     have h1 := h x (by simp)
     have h2 := ih fun y hy => h y (by simp [hy])
     simp only [List.map_cons,List.sum_cons,List.length_cons]
     omega
   have h3 := hs l hl
   have e : (l.map ba).map (·.data.toList) = l := by
    rw [List.map_map]
    exact (List.map_congr_left fun x _ => rfl).trans (List.map_id l)
   have := Tryz.strings_Join g o cap (l.map ba) (ba [32]) w (fun j x hx => by
    rw [List.getElem?_map,Option.map_eq_some_iff] at hx
    obtain ⟨y,hy,rfl⟩ := hx
    obtain ⟨hj,rfl⟩ := List.getElem?_eq_some_iff.1 hy
    exact hc j hj) hg (by simp;omega) (by simpa using hcap) (by
    rw [e]
    show (Lib.join l [32]).length ≤ _
    simp at hj
    omega)
   rw [e,List.length_map] at this
   exact this)
  have z : ((l.length : Int) == 0) = false := by rw [beq_eq_false_iff_ne];omega
  clear hc hin hq hl
  generalize l.length = n at *
  go_enter Tryz.func54,Tryz.ntmps54
  go_wp2_with fail
  refine HJ.out.mono ?_
  rintro e w1 ⟨rfl,gb⟩
  go_wp2
  go_ret
  exact ⟨rfl,gb⟩
end Go.Proofs.YtdljhggillgpfaaGreatDoor
namespace Go.Proofs.YtdljhggillgpfaaGreatDoor
open Go.RowKit Go.Shelf Go.Lib
theorem errString_calls (b : Nat) (o : Nat) (s : ByteArray) (w : World) (h : w.cell? ⟨b,o,none⟩ = some (.string s)) :
  Calls Tryz.prog 359 #[.pointer (some ⟨b,o,none⟩)] w fun e w' => e = .returned (.string s) ∧ w' = w := by
 go_enter Tryz.func359,Tryz.ntmps359
 go_wp2
 go_ret
 exact ⟨rfl,rfl⟩
theorem Tryz.methodErrorS (v : Value) (w : World) : (Go.method 496 357 v "Error").run Tryz.prog w = .ok (359, v) w := by kernel_rfl
theorem textOf_bare {w : World} {es : Nat → Addr} (hE : ES w es) (hT : ErTx w es) (k : Nat) (hk : k < 12) :
  Calls Tryz.prog 26 #[erOf es (k + 1)] w fun e w' => e = .returned (.string (ba (Sc.errT (k + 1)))) ∧ Below w.heap.size w w' := by
 have hB0 : Below w.heap.size w (w.alloc (.cells #[.pointer none] 64)) := (Below.refl _ w).alloc (Nat.le_refl _) _
 have hE0 := hE.below hB0
 obtain ⟨b,o,ek,hc⟩ := hT.cell k hk
 have hM := Tryz.methodErrorS
 simp only [erOf]
 rw [ek]
 generalize ba (Sc.errT (k + 1)) = s at *
 clear hE hT ek
 have HA := hid1 (as_miss ⟨b,o,none⟩ ⟨w.heap.size,0,none⟩ _ hE0.t)
 go_enter Tryz.func26,Tryz.ntmps26
 go_wp2_with fail
 refine HA.out.mono ?_
 rintro e w1 ⟨rfl,g1⟩
 have G1 := below_then hB0 g1
 have HS := hid1 (errString_calls b o s w1 (cell_below' hc G1))
 clear HA hE0 g1 hB0
 go_wp2_with fail
 refine HS.out.mono ?_
 rintro e w2 ⟨rfl,rfl⟩
 go_wp2
 go_ret
 exact ⟨rfl,G1⟩
theorem textOf_fault {w : World} {es : Nat → Addr} (hE : ES w es) (hT : ErTx w es) (k : Nat) (hk : k < 12) (pb : Nat) (h1 : w.cell? ⟨pb,1,none⟩ = some (erOf es (k + 1))) :
  Calls Tryz.prog 26 #[.iface 64 (.pointer (some ⟨pb,0,none⟩))] w fun e w' => e = .returned (.string (ba (Sc.errT (k + 1)))) ∧ Below w.heap.size w w' := by
 have hB0 : Below w.heap.size w (w.alloc (.cells #[.pointer none] 64)) := (Below.refl _ w).alloc (Nat.le_refl _) _
 have hE0 := hE.below hB0
 obtain ⟨b,o,ek,hc⟩ := hT.cell k hk
 have hM := Tryz.methodErrorS
 simp only [erOf] at h1
 rw [ek] at h1
 generalize ba (Sc.errT (k + 1)) = s at *
 clear hE hT ek
 go_enter Tryz.func26,Tryz.ntmps26
 go_wp2_with fail
 refine (as_hit ⟨pb,0,none⟩ ⟨w.heap.size,0,none⟩ (.pointer none) _ hE0.t (by simp) (by simp)).mono ?_
 rintro e w1 ⟨rfl,hw1⟩
 have hB1 : Below w.heap.size w w1 := by
  rw [hw1]
  exact (((((hB0.alloc (by simp) _).alloc (by simp;omega) _).alloc (by simp;omega) _).alloc (by simp;omega) _).setCell (p := ⟨w.heap.size,0,none⟩) (Nat.le_refl _) _)
 have hc1 : w1.cell? ⟨w.heap.size,0,none⟩ = some (.pointer (some ⟨pb,0,none⟩)) := by
  rw [hw1]
  refine World.cell?_setCell_same' _ _ _ ?_
  rw [World.cell?_alloc_lt _ _ ⟨w.heap.size,0,none⟩ (by simp;omega),World.cell?_alloc_lt _ _ ⟨w.heap.size,0,none⟩ (by simp;omega),World.cell?_alloc_lt _ _ ⟨w.heap.size,0,none⟩ (by simp;omega),World.cell?_alloc_lt _ _ ⟨w.heap.size,0,none⟩ (by simp)]
  simp
 clear hw1
 have g1 := cell_below h1 hB1
 have HS := hid1 (errString_calls b o s w1 (cell_below' hc hB1))
 clear hE0 hB0 h1
 go_wp2_with fail
 refine HS.out.mono ?_
 rintro e w2 ⟨rfl,rfl⟩
 go_wp2
 go_ret
 exact ⟨rfl,hB1⟩
theorem textOf_calls {w : World} {es : Nat → Addr} (hE : ES w es) (hT : ErTx w es) (ev : Value) (f : Nat × Int) (h : ErrV w es ev f) (hf : f.1 ≠ 0) :
  Calls Tryz.prog 26 #[ev] w fun e w' => e = .returned (.string (ba (Sc.errT f.1))) ∧ Below w.heap.size w w' := by
 rcases h with ⟨_,rfl,h12⟩ | ⟨pb,k,rfl,hk,e,_,h2⟩
 ·obtain ⟨k,hk⟩ : ∃ k,f.1 = k + 1 := ⟨f.1 - 1,by omega⟩
  rw [hk]
  exact textOf_bare hE hT k (by omega)
 ·rw [e] at h2 ⊢
  exact textOf_fault hE hT k hk pb h2
end Go.Proofs.YtdljhggillgpfaaGreatDoor
namespace Go.Proofs.YtdljhggillgpfaaGreatDoor
open Go.RowKit Go.Shelf Go.Lib
namespace Sc
open Bf
def takeA (l : List Ru) : An := if (Ru.fault l).1 ≠ 0 then ([],(Ru.fault l).1) else if (Ru.order l allB1).isSome then (ok,0) else ([],9)
def takeY (y : Yd) (l : List Ru) : Yd := if (takeA l).2 = 0 then { y with l := l } else y
def counts (d : Bd) : List UInt8 := Lib.decDigits d.ran ++ 32 :: (Lib.decDigits d.hits ++ 32 :: (Lib.decDigits d.fails ++ 32 :: Lib.decDigits d.lefts))
def allOuts (l : List Ru) (outs : List (List UInt8)) : Bool := outs.all fun p => l.any fun x => x.out == p
theorem allOuts_iff {l : List Ru} {outs : List (List UInt8)} : allOuts l outs = true ↔ ∀ p ∈ outs,∃ x ∈ l,x.out = p := by simp [allOuts]
noncomputable def makeY (y : Yd) (outs : List (List UInt8)) : Yd := if allOuts y.l outs then y.makeP outs else y
noncomputable def makeA (y : Yd) (outs : List (List UInt8)) : An := if allOuts y.l outs then (counts (y.made outs).1,0) else ([],6)
def showA (y : Yd) (p : List UInt8) : An := match Tf.get y.os p with
 | some b => (inLine b,0)
 | none => match Tf.get y.fs p with
  | some b => (inLine b,0)
  | none => ([],6)
noncomputable def wantA (y : Yd) (p : List UInt8) : An :=
 if y.l.any fun x => x.out == p then if (want Af.actO y.fs y.l p).2 = 0 then (inLine (want Af.actO y.fs y.l p).1,0) else ([],(want Af.actO y.fs y.l p).2) else ([],6)
def orderL (l : List Ru) : List (List UInt8) := ((Ru.order l allB1).getD []).map fun i => (l.getD i ⟨[],[],[],[]⟩).out
open Classical in
noncomputable def leavesL (l : List Ru) : List (List UInt8) := if h : ∃ r,Ru.Leaves l r then h.choose else []
theorem leaves_eq {l : List Ru} {r : List (List UInt8)} (h : Ru.Leaves l r) : r = leavesL l := by
 have e : ∃ r,Ru.Leaves l r := ⟨r,h⟩
 unfold leavesL
 rw [dif_pos e]
 exact h.unique e.choose_spec
def ruleA (y : Yd) (s : List UInt8) : An :=
 if (Rd.fault (s ++ [10])).1 ≠ 0 then ([],(Rd.fault (s ++ [10])).1)
 else if (Rd.rules (Rd.lines (s ++ [10]))).length = 1 then takeA (y.l ++ Rd.rules (Rd.lines (s ++ [10]))) else ([],1)
def ruleY (y : Yd) (s : List UInt8) : Yd := if (ruleA y s).2 = 0 then { y with l := y.l ++ Rd.rules (Rd.lines (s ++ [10])) } else y
def putT (s : List UInt8) : List UInt8 := Lib.replaceAll (Lib.cut s [32]).2.1 [59] [10]
def putA (y : Yd) (s : List UInt8) : An :=
 if (Lib.cut s [32]).2.2 = false ∨ pathB (Lib.cut s [32]).1 = false then ([],1)
 else (if Tf.putCode pathB y.fs (Lib.cut s [32]).1 (putT s) = 0 then ok else [],Tf.putCode pathB y.fs (Lib.cut s [32]).1 (putT s))
def putY (y : Yd) (s : List UInt8) : Yd :=
 if (Lib.cut s [32]).2.2 = false ∨ pathB (Lib.cut s [32]).1 = false then y else { y with fs := Tf.putF pathB y.fs (Lib.cut s [32]).1 (putT s) }
noncomputable def aloneA (y : Yd) (n : List UInt8) : An :=
 if n = [99,108,101,97,114] then takeA []
 else if n = [109,97,107,101] then makeA y []
 else if n = [115,116,97,108,101] then (row (stale y.fs y.os y.l),0)
 else if n = [111,114,100,101,114] then (row (orderL y.l),0)
 else if n = [108,101,97,118,101,115] then (row (leavesL y.l),0)
 else if n = [102,105,108,101,115] then (row (y.fs.map Prod.fst),0)
 else ([],1)
noncomputable def aloneY (y : Yd) (n : List UInt8) : Yd :=
 if n = [99,108,101,97,114] then takeY y [] else if n = [109,97,107,101] then makeY y [] else y
noncomputable def ofA (y : Yd) (n s : List UInt8) : An :=
 if n = [112,117,116] then putA y s
 else if n = [114,117,108,101] then ruleA y s
 else if n = [109,97,107,101] then if (cutB 32 s).all pathB then makeA y (cutB 32 s) else ([],1)
 else if n = [100,114,111,112] then if pathB s then (if Tf.hasP y.fs s then (ok,0) else ([],6)) else ([],1)
 else if n = [115,104,111,119] then if pathB s then showA y s else ([],1)
 else if n = [119,97,110,116] then if pathB s then wantA y s else ([],1)
 else ([],1)
noncomputable def ofY (y : Yd) (n s : List UInt8) : Yd :=
 if n = [112,117,116] then putY y s
 else if n = [114,117,108,101] then ruleY y s
 else if n = [109,97,107,101] then if (cutB 32 s).all pathB then makeY y (cutB 32 s) else y
 else if n = [100,114,111,112] then if pathB s then { y with fs := Tf.del y.fs s } else y
 else y
noncomputable def ans (y : Yd) (s : List UInt8) : List UInt8 :=
 told (if (Lib.cut s [32]).2.2 then ofA y (Lib.cut s [32]).1 (Lib.cut s [32]).2.1 else aloneA y (Lib.cut s [32]).1)
noncomputable def step (y : Yd) (s : List UInt8) : Yd :=
 if (Lib.cut s [32]).2.2 then ofY y (Lib.cut s [32]).1 (Lib.cut s [32]).2.1 else aloneY y (Lib.cut s [32]).1
noncomputable def run (y : Yd) : List (List UInt8) → Yd
 | [] => y
 | v :: r => run (step y v) r
noncomputable def answers (y : Yd) : List (List UInt8) → List (List UInt8)
 | [] => []
 | v :: r => ans y v :: answers (step y v) r
theorem run_snoc : ∀ (a : List (List UInt8)) (y : Yd) (v : List UInt8),run y (a ++ [v]) = step (run y a) v
 | [],_,_ => rfl
 | x :: r,y,v => run_snoc r (step y x) v
theorem answers_snoc : ∀ (a : List (List UInt8)) (y : Yd) (v : List UInt8),answers y (a ++ [v]) = answers y a ++ [ans (run y a) v]
 | [],_,_ => rfl
 | x :: r,y,v => by
  show ans y x :: answers (step y x) (r ++ [v]) = _
  rw [answers_snoc r]
  rfl
theorem answers_len : ∀ (a : List (List UInt8)) (y : Yd),(answers y a).length = a.length
 | [],_ => rfl
 | x :: r,y => by
  show (answers (step y x) r).length + 1 = _
  rw [answers_len r]
  rfl
theorem answers_take : ∀ (a : List (List UInt8)) (n : Nat) (y : Yd),answers y (a.take n) = (answers y a).take n
 | [],n,y => by simp [answers]
 | x :: r,0,y => rfl
 | x :: r,n + 1,y => by
  show ans y x :: answers (step y x) (r.take n) = ans y x :: (answers (step y x) r).take n
  rw [answers_take r n]
def y0 : Yd := ⟨[],[],[],some (8,[])⟩
end Sc
end Go.Proofs.YtdljhggillgpfaaGreatDoor
namespace Go.Proofs.YtdljhggillgpfaaGreatDoor
open Go.RowKit Go.Shelf Go.Lib
variable {es : Nat → Addr} {At : (Nat → Prop) → World → Value → Nat → Cf.Ens → Prop}
structure YStep (W w' : World) (L L' : YL) : Prop where
 size : W.heap.size ≤ w'.heap.size
 rest : ∀ j,j < W.heap.size → L.k j = 9 → w'.heap[j]? = W.heap[j]?
 kk : ∀ j,j < W.heap.size → L'.k j = L.k j
theorem YdAt.files2 (HC : Caches0 es At) {B : Nat} {W W' : World} {yb : Nat} {L : YL} {y : Bf.Yd} (h : YdAt At B W yb L y) {fs : Tf.Fs} {o' : Option Nat} (hT : TreeAt B W' L.tb fs o') (hon : OldNew W L.o1 o') (hK : Kept (tS L.tb L.o1) W W') : ∃ L',YdAt At B W' yb L' { y with fs := fs } ∧ YStep W W' L L' :=
 ⟨_,h.files HC hT hon hK,hK.size,fun j hj h9 => hK.block j hj fun e => e.elim (fun e => by rw [e,h.kt] at h9;omega) fun e => by rw [h.k1 j e] at h9;omega,fun j hj => L.more_old hj⟩
theorem YdAt.made2 {B : Nat} {W w' : World} {yb : Nat} {L L' : YL} {y : Bf.Yd} (h : YdAt At B W yb L y) (hz : W.heap.size ≤ w'.heap.size) (hr : ∀ j,j < W.heap.size → j ≠ L.ob → L.o2 ≠ some j → ¬ L.SC j → w'.heap[j]? = W.heap[j]?) (hk : ∀ j,j < W.heap.size → L'.k j = L.k j) : YStep W w' L L' :=
 ⟨hz,fun j hj h9 => hr j hj (fun e => by rw [e,h.ko] at h9;omega) (fun e => by rw [h.k2 j e] at h9;omega) (fun e => by rw [h.kc j e] at h9;omega),hk⟩
end Go.Proofs.YtdljhggillgpfaaGreatDoor
namespace Go.Proofs.YtdljhggillgpfaaGreatDoor
open Go.RowKit Go.Shelf Go.Lib
open Go.Sort (grow)
theorem kbuilder_below {w w' : World} {B b : Nat} {u : Value} {bs : List Value} (h : Lib.BuilderAtF 187 5 B b u bs w) (hb : Below w.heap.size w w') : Lib.BuilderAtF 187 5 B b u bs w' := by
 obtain ⟨h1,v,h2,h3,h4⟩ := h
 exact ⟨h1,v,(hb.block b (Array.getElem?_eq_some_iff.1 h2).1).trans h2,h3.kept (row := none) ⟨hb.os,hb.tape,hb.output,hb.size,fun k hk _ => hb.block k hk⟩ (by cases v.ownBlock <;> simp),h4⟩
theorem isBuilder_belowK {w w' : World} {B b : Nat} {bs : List Value} (h : Lib.IsBuilderF 187 5 B b bs w) (hb : Below w.heap.size w w') : Lib.IsBuilderF 187 5 B b bs w' :=
 h.imp (fun h => kbuilder_below h hb) (fun h => kbuilder_below h hb)
abbrev KPow (w : World) : Prop := Lib.TabIs Tryz.prog w "internal/strconv.uint64pow10" .u64 Lib.pow10Tab
theorem kpow_below {w w' : World} (h : KPow w) (hb : Below w.heap.size w w') : KPow w' := Go.Joins.tab_stays (g := 16) (by kernel_rfl) h hb (Nat.le_refl _)
theorem cKey1_calls {w0 W : World} (hP : KPow w0) (hB : Below w0.heap.size w0 W) (b : Nat) (bs s : List UInt8) (hb : Lib.IsBuilderF 187 5 w0.heap.size b (Lib.byteCells bs) W) (hl : bs.length ≤ 100000) (hs : s.length ≤ 3000) :
  Calls Tryz.prog 254 #[.string (ba s),.pointer (some ⟨b,0,none⟩)] W fun e w' => e = .returned (.tuple #[]) ∧ Lib.IsBuilderF 187 5 w0.heap.size b (Lib.byteCells (bs ++ Kp.piece s)) w' ∧ Below w0.heap.size W w' := by
 have HI := hid1 ((Tryz.strconv_Itoa (s.length : Int) (by omega) (by omega) W (kpow_below hP hB)).mono (R' := fun e w' => e = .returned (.string (ba (Lib.decDigits s.length))) ∧ Below W.heap.size W w') (by
  rintro e w' ⟨rfl,k,os,rfl⟩
  rw [Lib.itoa_nonneg]
  exact ⟨rfl,below_grow W k os⟩))
 have hdl := digits_len s.length (by omega)
 have HW : Hid (∀ (bs s : List UInt8) V,bs.length + s.length ≤ 10000000 → w0.heap.size ≤ V.heap.size → Lib.IsBuilderF 187 5 w0.heap.size b (Lib.byteCells bs) V → Calls Tryz.prog 119 #[.pointer (some ⟨b,0,none⟩),.string (ba s)] V fun e w' =>
   e = .returned (.tuple #[.int .i64 s.length,.nilIface]) ∧ Lib.IsBuilderF 187 5 w0.heap.size b (Lib.byteCells (bs ++ s)) w' ∧ Below w0.heap.size V w') := hid1 fun bs s V hl hV hb => by
  refine (Any.Builder_WriteString_k Tryz.lays166B Tryz.Builder_Extra_166B w0.heap.size b (Lib.byteCells bs) (ba s) V hb (by rw [Lib.byteCells_length,ba_size];omega) hV).mono ?_
  rintro e w' ⟨rfl,h1,h2,h3⟩
  refine ⟨by rw [ba_size],.inr ?_,h2⟩
  rw [Lib.byteCells_append]
  exact h1
 have HC : Hid (∀ (bs : List UInt8) V,bs.length ≤ 10000000 → w0.heap.size ≤ V.heap.size → Lib.IsBuilderF 187 5 w0.heap.size b (Lib.byteCells bs) V → Calls Tryz.prog 221 #[.pointer (some ⟨b,0,none⟩),.int .u8 58] V fun e w' =>
   e = .returned .nilIface ∧ Lib.IsBuilderF 187 5 w0.heap.size b (Lib.byteCells (bs ++ [58])) w' ∧ Below w0.heap.size V w') := hid1 fun bs V hl hV hb => by
  refine (Any.Builder_WriteByte_k Tryz.lays167 Tryz.Builder_Extra_167 w0.heap.size b (Lib.byteCells bs) 58 V hb (by rw [Lib.byteCells_length];omega) hV).mono ?_
  rintro e w' ⟨rfl,h1,h2,h3⟩
  refine ⟨rfl,.inr ?_,h2⟩
  rw [Lib.byteCells_append]
  exact h1
 have HB := hid1 hb
 have zB := hB.size
 go_enter Tryz.func254,Tryz.ntmps254
 go_wp2_with fail
 refine HI.out.mono ?_
 rintro e w1 ⟨rfl,g1⟩
 have B1 := hid1 (isBuilder_belowK HB.out g1)
 have z1 := g1.size
 go_wp2_with fail
 refine (HW.out bs _ w1 (by omega) (by omega) B1.out).mono ?_
 rintro e w2 ⟨rfl,b2,g2⟩
 have B2 := hid1 b2
 have G2 := hid1 ((g1.mono zB).trans g2)
 have z2 := g2.size
 go_wp2_with fail
 refine (HC.out _ w2 (by rw [List.length_append];omega) (by omega) B2.out).mono ?_
 rintro e w3 ⟨rfl,b3,g3⟩
 have B3 := hid1 b3
 have G3 := hid1 (G2.out.trans g3)
 have z3 := g3.size
 go_wp2_with fail
 refine (HW.out _ s w3 (by rw [List.length_append,List.length_append,List.length_singleton];omega) (by omega) B3.out).mono ?_
 rintro e w4 ⟨rfl,b4,g4⟩
 have B4 := hid1 b4
 have G4 := hid1 (G3.out.trans g4)
 go_wp2
 go_end0
 refine ⟨rfl,?_,G4.out⟩
 have := B4.out
 unfold Kp.piece
 simpa using this
theorem Kp.piece_len (s : List UInt8) (h : s.length ≤ 3000) : (Kp.piece s).length ≤ 3022 := by
 unfold Kp.piece
 have := digits_len s.length (by omega)
 simp
 omega
theorem Kp.flat_len : ∀ (l : List (List UInt8)),(∀ x ∈ l,x.length ≤ 3000) → (l.flatMap Kp.piece).length ≤ l.length * 3022
 | [],_ => by simp
 | x :: l,h => by
  have h1 := Kp.piece_len x (h x (by simp))
  have h2 := Kp.flat_len l fun y hy => h y (List.mem_cons_of_mem _ hy)
  simp only [List.flatMap_cons,List.length_append,List.length_cons]
  omega
theorem Kp.flat_take {l : List (List UInt8)} {j : Nat} (hj : j < l.length) : (l.take (j + 1)).flatMap Kp.piece = (l.take j).flatMap Kp.piece ++ Kp.piece l[j] := by
 rw [List.take_succ_eq_append_getElem hj,List.flatMap_append,List.flatMap_cons,List.flatMap_nil,List.append_nil]
theorem cKey_calls {w0 W : World} (hP : KPow w0) (hB : Below w0.heap.size w0 W) (kind word : List UInt8) (v : Value) (ins : List (List UInt8)) (hx : XRow W v ins) (h1 : kind.length ≤ 3000) (h2 : word.length ≤ 3000) (h3 : ins.length ≤ 20) (h4 : ∀ x ∈ ins,x.length ≤ 3000) :
  Calls Tryz.prog 231 #[.string (ba kind),.string (ba word),v] W fun e w' => e = .returned (.string (ba (Kp.key kind word ins))) ∧ Below W.heap.size W w' := by
 have hPW := kpow_below hP hB
 obtain ⟨p,cap,rfl,hcap,hnn,hin⟩ := hx
 have HX := hid1 hin
 have g0 : Below W.heap.size W (W.alloc (.cells #[.pointer none,.slice none 0 0] 187)) := (Below.refl _ W).alloc (Nat.le_refl _) _
 have b0 : Lib.IsBuilderF 187 5 W.heap.size W.heap.size (Lib.byteCells []) (W.alloc (.cells #[.pointer none,.slice none 0 0] 187)) := Lib.IsBuilderF.of (Lib.fresh_isBuilder 187 5 W)
 have HA := hid1 fun (V : World) (bs s : List UInt8) (gV : Below W.heap.size W V) (bV : Lib.IsBuilderF 187 5 W.heap.size W.heap.size (Lib.byteCells bs) V) (hl : bs.length ≤ 100000) (hs : s.length ≤ 3000) => cKey1_calls hPW gV W.heap.size bs s bV hl hs
 have HS := hid1 fun (V : World) (bs : List UInt8) (hV : W.heap.size ≤ V.heap.size) (hb : Lib.IsBuilderF 187 5 W.heap.size W.heap.size (Lib.byteCells bs) V) => Any.Builder_String_any_k Tryz.lays169 Tryz.Builder_Extra_169 W.heap.size W.heap.size bs V hb hV
 have hf1 := Kp.piece_len kind h1
 have hf2 := Kp.piece_len word h2
 have HFl := hid1 fun j : Nat => Kp.flat_len (ins.take j) fun x hx => h4 x (List.mem_of_mem_take hx)
 have HH4 := hid1 h4
 generalize hW0 : W.alloc (.cells #[.pointer none,.slice none 0 0] 187) = w1 at *
 go_enter Tryz.func231,Tryz.ntmps231
 go_wp2_with fail
 refine (HA.out w1 [] kind g0 b0 (by simp) h1).mono ?_
 rintro e w2 ⟨rfl,b2,g2⟩
 have G2 := g0.trans g2
 go_wp2_with fail
 refine (HA.out w2 _ word G2 b2 (by simp;omega) h2).mono ?_
 rintro e w3 ⟨rfl,b3,g3⟩
 have G3 := G2.trans g3
 have HB3 := hid1 b3
 go_wp2
 go_loopw [20] (fun iv wr => ∃ j : Nat,j ≤ ins.length ∧ iv = .int .i64 j ∧ Lib.IsBuilderF 187 5 W.heap.size W.heap.size (Lib.byteCells (Kp.piece kind ++ Kp.piece word ++ (ins.take j).flatMap Kp.piece)) wr ∧ Below W.heap.size W wr) (fun iv _ => ins.length - (intOf iv).toNat)
 case atStart => exact ⟨0,Nat.zero_le _,rfl,by simpa using HB3.out,G3⟩
 case round =>
  obtain ⟨j,hj,rfl,hb,hB⟩ := hrel
  have HB := hid1 hb
  have hfl := HFl.out j
  rw [List.length_take] at hfl
  have j0 : (0 : Int) ≤ (j : Int) := by omega
  by_cases hlt : j < ins.length
  ·have j1 : (j : Int) < (ins.length : Int) := by omega
   obtain ⟨g,o,rfl,hg,hc⟩ := HX.out (by intro e;rw [e] at hlt;simp at hlt)
   have d0 := (hB.cell (p := ⟨g,o + j,none⟩) hg).trans (hc j hlt)
   have HF := hid1 (HA.out wr _ ins[j] hB HB.out (by simp only [List.length_append];omega) (HH4.out _ (List.getElem_mem hlt)))
   have HT := hid1 (Kp.flat_take hlt)
   generalize ins[j] = x at *
   go_wp2_with fail
   refine HF.out.mono ?_
   rintro e w5 ⟨rfl,b5,g5⟩
   have HB5 := hid1 b5
   have G5 := hB.trans g5
   go_wp2
   refine ⟨⟨j + 1,by omega,by go_num,?_,G5⟩,by simp [intOf];omega⟩
   have := HB5.out
   rw [HT.out]
   simpa using this
  ·have j1 : (ins.length : Int) ≤ (j : Int) := by omega
   obtain rfl : j = ins.length := by omega
   have hb : Lib.IsBuilderF 187 5 W.heap.size W.heap.size (Lib.byteCells (Kp.key kind word ins)) wr := by
    have := HB.out
    rw [List.take_length] at this
    exact this
   have HE := hid1 (HS.out wr _ hB.size hb)
   go_wp2_with fail
   refine HE.out.mono ?_
   rintro e w5 ⟨rfl,-,g5,-⟩
   have G5 := hB.trans g5
   go_wp2
   go_ret
   exact ⟨rfl,G5⟩
theorem keyTells {W : World} (hP : KPow W) : KeyTells W := fun V hV kind word v ins hx h1 h2 h3 h4 => cKey_calls hP hV kind word v ins hx (by omega) (by omega) (by omega) fun x hx => by have := h4 x hx;omega
end Go.Proofs.YtdljhggillgpfaaGreatDoor
