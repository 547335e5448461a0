import Derived.Test.YtbgkfmodbofalaaGreatDoorRows
import Derived.ProofKit
import Derived.LaidMore
import Derived.OpenShut
import Derived.Stop.Joined
import Derived.Stop.LaidErr
import Derived.Lay
import Derived.HandedShaped
import Derived.Shelf.Vars
import Derived.Lib.LaidTab
import Derived.Deep.Slices
import Derived.Deep.Strs
import Derived.Carry
import Derived.SizedLaws
import Derived.SliceStrings
import Derived.Test.YtbgkfmodbofalaaGreatDoorPR36
set_option maxRecDepth 100000
namespace Go.Proofs.YtbgkfmodbofalaaGreatDoor.TL
open Go.ChangeShapes Go.WideShapes Go.ChangeAt Go.WideMaps Go.WideElems Go.RowKit Go.Deep
theorem own : ownKnob Tryz.prog.godebug = none := by kernel_rfl
theorem laidOut : laidOutB Tryz.prog = true := by kernel_rfl
theorem starES : "*" ++ "errors.errorString" = "*errors.errorString" := by decide
theorem rowES (u : TypeId) (h : Tryz.prog.typeName? 3 u = some "*errors.errorString") : u = 407 :=
 typeName_ptr_named (nm := "errors.errorString") (by rw [starES]; kernel_rfl) (by kernel_rfl) (by decide) u (by rw [starES]; exact h)
theorem cellsES : Tryz.prog.cellsOf 409 = 1 := by kernel_rfl
theorem cellsStr : Tryz.prog.cellsOf 9 = 1 := by kernel_rfl
section
variable {H : Type} {enc : TypeId × Value -> H}
theorem returns_laid_shaped {a : Assume} {C : Checked} {os : Os} {f : FuncId} {fn : Func} {s : ChangeSpec} {conds : List PathCond} {apart fresh handsOn again : Bool} {X : World -> Array Value -> Prop}
  (hX : ∀ (w w' : World) (args : Array Value),w.heap = w'.heap -> X w args -> X w' args)
  (own : ownKnob C.prog.godebug = none) (started : os.Started) (noInit : C.prog.inits.idxOf? f = none) (hfn : C.prog.funcs[f]? = some fn)
  (witness : ∃ (w : World) (tape : Tape) (i : Input),w.os = os /\ (w.forCall tape i).Shaped C.prog /\ i.vars = [] /\ Input.okWide C.prog (w.forCall tape i) .any w.heap.size f i /\
   ((s.pre enc C.prog fn conds apart (w.forCall tape i).memory i.args /\ X (w.forCall tape i).memory i.args) /\ sizedMet enc C.prog fn (OpenSpec.ofChange s) apart (w.forCall tape i).memory i.args) /\ a.holds C.prog (lone (Frame.enter C.prog f i.args .normal) [] (w.forCall tape i)))
  (contract : ∀ (W : World) (base : Nat) (args : Array Value) (ds gs : List (DataW H)) (before : List MemPlace),
   (∀ (j : Nat) t v,fn.params[j]? = some t -> args[j]? = some v -> Value.okWide C.prog W .any base t v) ->
   DataW.Whole enc C.prog fn.params.toList s.vars apart W args.toList ds gs before ->
   W.ShapedOpen C.prog -> X W args -> (DataW.weightsEach C.prog (fn.params.toList ++ s.plain.varTypes C.prog) (ds ++ gs)).all (· <= reachBytes) = true ->
   Calls C.prog f args W fun e W' => ∃ v,e = .returned v /\ s.post enc C.prog fn apart fresh handsOn again W args v W') :
  ReturnsInHanded a C os f .any (fun w args => (s.pre enc C.prog fn conds apart w args /\ X w args) /\ sizedMet enc C.prog fn (OpenSpec.ofChange s) apart w args) (s.post enc C.prog fn apart fresh handsOn again) := by
 refine returnsInHanded_of_calls own started noInit witness ?_;intro w tape i _ hsh _ hok hpre _
 obtain ⟨_,_,_,fn',hfn',_,_,_,_,hval⟩ := hok;have e : fn' = fn := Option.some.inj (hfn'.symm.trans hfn);subst e;obtain ⟨⟨⟨ds,gs,before,hw,_⟩,hx⟩,hz⟩ := hpre;have hw' := DataW.Whole.of_heap (w' := w.forCall tape i) (by rfl) hw
 refine (contract (w.forCall tape i) w.heap.size i.args ds gs before hval hw' hsh (hX _ _ _ (by rfl) hx) (hz.weights hw)).mono fun e W' ⟨v,he,hp⟩ => ?_
 subst he;exact ChangeSpec.post_blind hp
end
theorem sentinel1 {n : String} {text : List UInt8} {r : List (String × DataW Unit)} {W : World} (g : Nat)
  (h : laidMet Tryz.prog ((n, .iface "*errors.errorString" (.ptr (.agg [.lit (.string text)]))) :: r) W)
  (hg : Tryz.prog.globalNamed n = some g) (ht : (Tryz.prog.globals[g]?).map (·.type) = some 25) :
  ∃ a : Addr,W.cell? ⟨g,0,none⟩ = some (.iface 407 (.pointer (some a))) := by
 obtain ⟨a,s,hv,_⟩ := laid_sentinel h hg ht Tryz.underlying25 rowES Tryz.underlying407 Tryz.underlying409 rfl rfl Tryz.underlying9 cellsES cellsStr;exact ⟨a,by simpa using World.var?_cell hg hv 0⟩
theorem maxLen_cell {W : World} (h : W.ShapedOpen Tryz.prog) : ∃ m,W.cell? ⟨14,0,none⟩ = some (.int .i64 m) :=
 cell_of_shapedOpen_int (P := Tryz.prog) (t := 3) (zero := #[.int .i64 0]) h (of_decide_eq_true (by kernel_rfl)) (by kernel_rfl) rfl (by kernel_rfl) (by kernel_rfl) Tryz.underlying3
theorem Zxp : (Rows.laid_internal_strconv_uint64pow10 : DataW Unit) = Lib.tabData .u64 Lib.pow10Tab := by rfl
theorem pow_laid {W : World} {r : List (String × DataW Unit)} (h : laidMet Tryz.prog (("internal/strconv.uint64pow10", Rows.laid_internal_strconv_uint64pow10) :: r) W) : Pow W := by
 rw [Zxp] at h;exact Lib.tabIs_of_head (g := 13) (t := 374) (e := 321) (n := 20) (by kernel_rfl) (by kernel_rfl) Tryz.underlying374 Tryz.underlying321 (by kernel_rfl) (by kernel_rfl) h
theorem ba_self (s : ByteArray) : s = ba s.data.toList := rfl
end Go.Proofs.YtbgkfmodbofalaaGreatDoor.TL
namespace Go.Proofs.YtbgkfmodbofalaaGreatDoor.GL
open Go.ChangeShapes Go.WideShapes Go.ChangeAt Go.WideMaps Go.WideElems Go.RowKit Go.Deep
theorem Zww : Tryz.prog.cellsOf 90 = 4 := by kernel_rfl
theorem Zwv : Tryz.prog.cellsOf 45 = 1 := by kernel_rfl
theorem ba_self (s : ByteArray) : s = ba s.data.toList := by
 apply ByteArray.ext
 simp
instance : Inhabited Ru := ⟨⟨[],[],[],[]⟩⟩
section
variable {H : Type} {enc : TypeId × Value -> H}
theorem open_texts {W : World} {sp : Nat -> Bool} {fuel : Nat} {cs : List Value} {x : DataW H × List MemPlace} (h : DataW.trod enc Tryz.prog W 0 sp true fuel 45 cs = some x) : ∃ v ls,cs = [v] /\ XRow W v ls := by
 rcases open_strings Tryz.underlying45 Tryz.underlying9 TL.cellsStr h with ⟨hc,_⟩ | ⟨a,len,cap,ss,hc,_,hlc,_,hsl,_,hin,_⟩
 ·exact ⟨_,[],hc,XRow.nil W⟩
 ·have hle : len <= ss.length := by rw [hsl];split <;> omega
  have hlen : ((ss.take len).map fun s => s.data.toList).length = len := by simp;omega
  refine ⟨_,(ss.take len).map fun s => s.data.toList,hc,some a,cap,by rw [hlen],by omega,fun h => (by cases h),fun hne => ?_⟩
  have h0 : 0 < len := by
   rcases Nat.eq_zero_or_pos len with e | e
   ·subst e;simp at hne
   ·exact e
  have hs : a.spot = none := World.cell?_spot (a := a.add 0) (hin 0 (by omega))
  obtain ⟨ab,ao,spt⟩ := a;cases hs
  refine ⟨ab,ao,rfl,Zai (hin 0 (by omega)),fun j hj => ?_⟩
  rw [hlen] at hj;have hc := hin j (by omega)
  rw [Zct] at hc;rw [hc,List.getElem_map,List.getElem_take,<- ba_self];have hjl : j < ss.length := by omega
  rw [List.getD_eq_getElem?_getD,List.getElem?_eq_getElem hjl]
  rfl
theorem open_rules {W : World} {sp : Nat -> Bool} {fuel : Nat} {cs : List Value} {x : DataW H × List MemPlace} (h : DataW.trod enc Tryz.prog W 0 sp true fuel 66 cs = some x) : ∃ v l,cs = [v] /\ RRow W v l := by
 rcases open_slice Tryz.underlying66 h with h0 | ⟨a,len,cap,m,n,D,Pl,rfl,hb,hl,hm,hmm,rfl,hx⟩
 ·exact ⟨_,[],h0.1,RRow.nil W⟩
 have hlm : len <= m := by rw [hmm];split <;> omega
 have each : ∀ i,i < m -> ∃ r : Ru,W.cell? (a.add (i * 4)) = some (.string (ba r.out)) /\ W.cell? (a.add (i * 4 + 1)) = some (.string (ba r.kind)) /\ W.cell? (a.add (i * 4 + 2)) = some (.string (ba r.word)) /\ ∃ u,W.cell? (a.add (i * 4 + 3)) = some u /\ XRow W u r.ins := by
  intro i hi
  obtain ⟨cs',h1,h2⟩ := hx i hi;rw [Zww] at h1;obtain ⟨_,hlen,hcell⟩ := World.cells?_some h1;obtain ⟨y0,y1,y2,y3,k,hxy,_,u0,u1,u2,u3⟩ := Go.Joins.trod_struct4 Tryz.underlying90 h2;match cs',hlen with
  | [v0,v1,v2,v3],_ =>
   simp only [TL.cellsStr,Zwv,List.drop,List.take] at u0 u1 u2 u3;obtain ⟨s0,e0,d0,_⟩ := DataW.trod_string Tryz.underlying9 u0;obtain ⟨s1,e1,d1,_⟩ := DataW.trod_string Tryz.underlying9 u1;obtain ⟨s2,e2,d2,_⟩ := DataW.trod_string Tryz.underlying9 u2;obtain ⟨u,ls,e3,hX⟩ := open_texts u3;simp only [List.cons.injEq,and_true] at e0 e1 e2 e3;subst e0;subst e1;subst e2;subst e3
   have c0 := hcell 0 (by omega)
   have c1 := hcell 1 (by omega)
   have c2 := hcell 2 (by omega)
   have c3 := hcell 3 (by omega)
   rw [add_add] at c0 c1 c2 c3;exact ⟨⟨s0.data.toList,s1.data.toList,s2.data.toList,ls⟩,by rw [<- ba_self];simpa using c0,by rw [<- ba_self];simpa using c1,by rw [<- ba_self];simpa using c2,_,by simpa using c3,hX⟩
 obtain ⟨q,hq⟩ := choose_lt (α := Ru) each;refine ⟨_,(List.range len).map q,rfl,some a,cap,by simp,by simp;omega,fun h => (by cases h),fun hne => ?_⟩
 have h0 : 0 < len := by
  rcases Nat.eq_zero_or_pos len with e | e
  ·subst e;simp at hne
  ·exact e
 have hs : a.spot = none := World.cell?_spot (a := a.add (0 * 4)) (hq 0 (by omega)).1
 obtain ⟨ab,ao,spt⟩ := a;cases hs
 refine ⟨ab,ao,rfl,Zai (hq 0 (by omega)).1,fun j hj => ?_⟩
 have hjl : j < len := by simpa using hj
 obtain ⟨c0,c1,c2,u,c3,hX⟩ := hq j (by omega)
 rw [Zct] at c0 c1 c2 c3;rw [<- Nat.add_assoc] at c1 c2 c3;simp only [List.getElem_map,List.getElem_range];exact ⟨c0,c1,c2,u,c3,hX⟩
end
end Go.Proofs.YtbgkfmodbofalaaGreatDoor.GL
namespace Go.Proofs.YtbgkfmodbofalaaGreatDoor.OL
open Go.ChangeShapes Go.WideShapes Go.ChangeAt Go.WideMaps Go.WideElems Go.RowKit Go.Deep
theorem Zwx : Tryz.prog.cellsOf 51 = 2 := by kernel_rfl
theorem Zyp : Tryz.prog.cellsOf 3 = 1 := by kernel_rfl
section
variable {H : Type} {enc : TypeId × Value -> H}
theorem open_files {W : World} {sp : Nat -> Bool} {fuel : Nat} {cs : List Value} {x : DataW H × List MemPlace} (h : DataW.trod enc Tryz.prog W 0 sp true fuel 36 cs = some x) : ∃ v l,cs = [v] /\ FIRow W v l := by
 rcases open_slice Tryz.underlying36 h with h0 | ⟨a,len,cap,m,n,D,Pl,rfl,hb,hl,hm,hmm,rfl,hx⟩
 ·exact ⟨_,[],h0.1,none,0,rfl,fun h => absurd rfl h⟩
 have hlm : len <= m := by rw [hmm];split <;> omega
 have each : ∀ i,i < m -> ∃ r : List UInt8 × List UInt8,W.cell? (a.add (i * 2)) = some (.string (ba r.1)) /\ W.cell? (a.add (i * 2 + 1)) = some (.string (ba r.2)) := by
  intro i hi
  obtain ⟨cs',h1,h2⟩ := hx i hi;rw [Zwx] at h1;obtain ⟨_,hlen,hcell⟩ := World.cells?_some h1;obtain ⟨y0,y1,k,hxy,_,u0,u1⟩ := trod_struct2 Tryz.underlying51 h2;match cs',hlen with
  | [v0,v1],_ =>
   simp only [TL.cellsStr,List.drop,List.take] at u0 u1;obtain ⟨s0,e0,d0,_⟩ := DataW.trod_string Tryz.underlying9 u0;obtain ⟨s1,e1,d1,_⟩ := DataW.trod_string Tryz.underlying9 u1;simp only [List.cons.injEq,and_true] at e0 e1;subst e0;subst e1;have c0 := hcell 0 (by omega)
   have c1 := hcell 1 (by omega)
   rw [add_add] at c0 c1;exact ⟨(s0.data.toList,s1.data.toList),by rw [<- GL.ba_self];simpa using c0,by rw [<- GL.ba_self];simpa using c1⟩
 obtain ⟨q,hq⟩ := choose_lt (α := List UInt8 × List UInt8) each;refine ⟨_,(List.range len).map q,rfl,some a,cap,by simp,fun hne => ?_⟩
 have h0 : 0 < len := by
  rcases Nat.eq_zero_or_pos len with e | e
  ·subst e;simp at hne
  ·exact e
 have hs : a.spot = none := World.cell?_spot (a := a.add (0 * 2)) (hq 0 (by omega)).1
 obtain ⟨ab,ao,spt⟩ := a;cases hs
 refine ⟨ab,ao,rfl,Zai (hq 0 (by omega)).1,fun j hj => ?_⟩
 have hjl : j < len := by simpa using hj
 obtain ⟨c0,c1⟩ := hq j (by omega)
 rw [Zct] at c0 c1;rw [<- Nat.add_assoc] at c1;simp only [List.getElem_map,List.getElem_range];exact ⟨c0,c1⟩
theorem Zvj {W : World} {sp : Nat -> Bool} {fuel : Nat} {cs : List Value} {x : DataW H × List MemPlace} (h : DataW.trod enc Tryz.prog W 0 sp true fuel 68 cs = some x) : ∃ v l,cs = [v] /\ ZRow W v l /\ ∀ x ∈ l,-9223372036854775808 <= x /\ x <= 9223372036854775807 := by
 rcases open_slice Tryz.underlying68 h with h0 | ⟨a,len,cap,m,n,D,Pl,rfl,hb,hl,hm,hmm,rfl,hx⟩
 ·exact ⟨_,[],h0.1,⟨none,0,rfl,fun h => absurd rfl h⟩,by simp⟩
 have hlm : len <= m := by rw [hmm];split <;> omega
 have each : ∀ i,i < m -> ∃ r : Int,W.cell? (a.add (i * 1)) = some (.int .i64 r) /\ -9223372036854775808 <= r /\ r <= 9223372036854775807 := by
  intro i hi
  obtain ⟨cs',h1,h2⟩ := hx i hi;rw [Zyp] at h1;obtain ⟨_,hlen,hcell⟩ := World.cells?_some h1;obtain ⟨r,e0,_,hw⟩ := DataW.trod_int Tryz.underlying3 h2;subst e0;have c0 := hcell 0 (by omega)
  rw [add_add] at c0;have e1 : IntKind.i64.min = -9223372036854775808 := by decide
  have e2 : IntKind.i64.max = 9223372036854775807 := by decide
  simp [Lit.wf,e1,e2] at hw;exact ⟨r,by simpa using c0,hw.1,hw.2⟩
 obtain ⟨q,hq⟩ := choose_lt (α := Int) each;refine ⟨_,(List.range len).map q,rfl,⟨some a,cap,by simp,fun hne => ?_⟩,fun x hx => ?_⟩
 ·have h0 : 0 < len := by
   rcases Nat.eq_zero_or_pos len with e | e
   ·subst e;simp at hne
   ·exact e
  have hs : a.spot = none := World.cell?_spot (a := a.add (0 * 1)) (hq 0 (by omega)).1
  obtain ⟨ab,ao,spt⟩ := a;cases hs
  refine ⟨ab,ao,rfl,Zai (hq 0 (by omega)).1,fun j hj => ?_⟩
  have hjl : j < len := by simpa using hj
  have c0 := (hq j (by omega)).1
  rw [Zct,Nat.mul_one] at c0;simp only [List.getElem_map,List.getElem_range];exact c0
 ·obtain ⟨i,hi,rfl⟩ := List.mem_map.1 hx;exact (hq i (by have := List.mem_range.1 hi;omega)).2
end
end Go.Proofs.YtbgkfmodbofalaaGreatDoor.OL
namespace Go.Proofs.YtbgkfmodbofalaaGreatDoor.OL
open Go.ChangeShapes Go.WideShapes Go.ChangeAt Go.WideMaps Go.WideElems Go.RowKit Go.Deep
section
variable {H : Type} {enc : TypeId × Value -> H}
theorem open_picks {W : World} {sp : Nat -> Bool} {fuel : Nat} {cs : List Value} {x : DataW H × List MemPlace} (h : DataW.trod enc Tryz.prog W 0 sp true fuel 68 cs = some x) : ∃ v l,cs = [v] /\ ZRow W v l /\ (∀ x ∈ l,-9223372036854775808 <= x /\ x <= 9223372036854775807) /\ (v = .slice none 0 0 \/ ∃ a n c,v = .slice (some a) n c) := by
 obtain ⟨v,l,e,h1,h2⟩ := Zvj h;refine ⟨v,l,e,h1,h2,?_⟩;rcases open_slice Tryz.underlying68 h with h0 | ⟨a,len,cap,m,n,D,Pl,e2,-⟩
 ·left
  have := h0.1;rw [e] at this;simpa using this
 ·right
  rw [e] at e2;exact ⟨a,len,cap,by simpa using e2⟩
end
end Go.Proofs.YtbgkfmodbofalaaGreatDoor.OL
