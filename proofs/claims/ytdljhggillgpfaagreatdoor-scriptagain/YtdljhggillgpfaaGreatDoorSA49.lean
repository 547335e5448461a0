import Derived.Test.YtdljhggillgpfaaGreatDoorRows
import Derived.ProofKit
import Derived.LaidMore
import Derived.OpenShut
import Derived.Stop.Joined
import Derived.Stop.LaidErr
import Derived.Lay
import Derived.HandedShaped
import Derived.Shelf.Vars
import Derived.Lib.LaidTab
import Derived.Deep.Slices
import Derived.Deep.Strs
import Derived.Carry
import Derived.SizedLaws
import Derived.LaidHandle
import Derived.SliceStrings
import Derived.Test.YtdljhggillgpfaaGreatDoorSA47
set_option maxRecDepth 100000
set_option maxHeartbeats 16000000
namespace Go.Proofs.YtdljhggillgpfaaGreatDoor.TL
open Go.ChangeShapes Go.WideShapes Go.ChangeAt Go.WideMaps Go.WideElems Go.RowKit Go.Deep
theorem own : ownKnob Tryz.prog.godebug = none := by kernel_rfl
theorem laidOut : laidOutB Tryz.prog = true := by kernel_rfl
theorem starES : "*" ++ "errors.errorString" = "*errors.errorString" := by decide
theorem rowES (u : TypeId) (h : Tryz.prog.typeName? 3 u = some "*errors.errorString") : u = 357 :=
 typeName_ptr_named (nm := "errors.errorString") (by rw [starES]; kernel_rfl) (by kernel_rfl) (by decide) u (by rw [starES]; exact h)
theorem cellsES : Tryz.prog.cellsOf 359 = 1 := by kernel_rfl
theorem cellsStr : Tryz.prog.cellsOf 9 = 1 := by kernel_rfl
section
variable {H : Type} {enc : TypeId × Value → H}
theorem returns_laid_shaped {a : Assume} {C : Checked} {os : Os} {f : FuncId} {fn : Func} {s : ChangeSpec} {conds : List PathCond} {apart fresh handsOn again : Bool} {X : World → Array Value → Prop}
  (hX : ∀ (w w' : World) (args : Array Value),w.heap = w'.heap → X w args → X w' args)
  (own : ownKnob C.prog.godebug = none) (started : os.Started) (noInit : C.prog.inits.idxOf? f = none) (hfn : C.prog.funcs[f]? = some fn)
  (witness : ∃ (w : World) (tape : Tape) (i : Input),w.os = os ∧ (w.forCall tape i).Shaped C.prog ∧ i.vars = [] ∧ Input.okWide C.prog (w.forCall tape i) .any w.heap.size f i ∧
   ((s.pre enc C.prog fn conds apart (w.forCall tape i).memory i.args ∧ X (w.forCall tape i).memory i.args) ∧ sizedMet enc C.prog fn (OpenSpec.ofChange s) apart (w.forCall tape i).memory i.args) ∧ a.holds C.prog (lone (Frame.enter C.prog f i.args .normal) [] (w.forCall tape i)))
  (contract : ∀ (W : World) (base : Nat) (args : Array Value) (ds gs : List (DataW H)) (before : List MemPlace),
   (∀ (j : Nat) t v,fn.params[j]? = some t → args[j]? = some v → Value.okWide C.prog W .any base t v) →
   DataW.Whole enc C.prog fn.params.toList s.vars apart W args.toList ds gs before →
   W.ShapedOpen C.prog → X W args → (DataW.weightsEach C.prog (fn.params.toList ++ s.plain.varTypes C.prog) (ds ++ gs)).all (· ≤ reachBytes) = true →
   Calls C.prog f args W fun e W' => ∃ v,e = .returned v ∧ s.post enc C.prog fn apart fresh handsOn again W args v W') :
  ReturnsInHanded a C os f .any (fun w args => (s.pre enc C.prog fn conds apart w args ∧ X w args) ∧ sizedMet enc C.prog fn (OpenSpec.ofChange s) apart w args) (s.post enc C.prog fn apart fresh handsOn again) := by
 refine returnsInHanded_of_calls own started noInit witness ?_
 intro w tape i _ hsh _ hok hpre _
 obtain ⟨_,_,_,fn',hfn',_,_,_,_,hval⟩ := hok
 have e : fn' = fn := Option.some.inj (hfn'.symm.trans hfn)
 subst e
 obtain ⟨⟨⟨ds,gs,before,hw,_⟩,hx⟩,hz⟩ := hpre
 have hw' := DataW.Whole.of_heap (w' := w.forCall tape i) (by rfl) hw
 refine (contract (w.forCall tape i) w.heap.size i.args ds gs before hval hw' hsh (hX _ _ _ (by rfl) hx) (hz.weights hw)).mono fun e W' ⟨v,he,hp⟩ => ?_
 subst he
 exact ChangeSpec.post_blind hp
end
theorem sentinel1 {n : String} {text : List UInt8} {r : List (String × DataW Unit)} {W : World} (g : Nat)
  (h : laidMet Tryz.prog ((n, .iface "*errors.errorString" (.ptr (.agg [.lit (.string text)]))) :: r) W)
  (hg : Tryz.prog.globalNamed n = some g) (ht : (Tryz.prog.globals[g]?).map (·.type) = some 25) :
  ∃ a : Addr,W.cell? ⟨g,0,none⟩ = some (.iface 357 (.pointer (some a))) := by
 obtain ⟨a,s,hv,_⟩ := laid_sentinel h hg ht Tryz.underlying25 rowES Tryz.underlying357 Tryz.underlying359 rfl rfl Tryz.underlying9 cellsES cellsStr
 exact ⟨a,by simpa using World.var?_cell hg hv 0⟩
theorem maxLen_cell {W : World} (h : W.ShapedOpen Tryz.prog) : ∃ m,W.cell? ⟨13,0,none⟩ = some (.int .i64 m) :=
 cell_of_shapedOpen_int (P := Tryz.prog) (t := 3) (zero := #[.int .i64 0]) h (of_decide_eq_true (by kernel_rfl)) (by kernel_rfl) rfl (by kernel_rfl) (by kernel_rfl) Tryz.underlying3
theorem pow_data : (Rows.laid_internal_strconv_uint64pow10 : DataW Unit) = Lib.tabData .u64 Lib.pow10Tab := by rfl
theorem pow_laid {W : World} {r : List (String × DataW Unit)} (h : laidMet Tryz.prog (("internal/strconv.uint64pow10", Rows.laid_internal_strconv_uint64pow10) :: r) W) : Pow W := by
 rw [pow_data] at h
 exact Lib.tabIs_of_head (g := 16) (t := 331) (e := 254) (n := 20) (by kernel_rfl) (by kernel_rfl) Tryz.underlying331 Tryz.underlying254 (by kernel_rfl) (by kernel_rfl) h
theorem ba_self (s : ByteArray) : s = ba s.data.toList := rfl
end Go.Proofs.YtdljhggillgpfaaGreatDoor.TL
namespace Go.Proofs.YtdljhggillgpfaaGreatDoor.EL
open Go.ChangeShapes Go.WideShapes Go.ChangeAt Go.WideMaps Go.WideElems Go.RowKit
abbrev sd (text : List UInt8) : DataW Unit := .iface "*errors.errorString" (.ptr (.agg [.lit (.string text)]))
theorem sentinels_all {W : World} (r : List (String × DataW Unit)) : ∀ (L : List (String × List UInt8 × Nat)) (ps : List MemPlace),
  DataW.LaidVars Tryz.prog W (L.map (fun x => (x.1,sd x.2.1)) ++ r) ps →
  (∀ x ∈ L,Tryz.prog.globalNamed x.1 = some x.2.2 ∧ (Tryz.prog.globals[x.2.2]?).map (·.type) = some 25) → ps.Nodup →
  (∀ b off,MemPlace.cell b off ∈ ps → (∃ c t,W.heap[b]? = some (.cells c t (0,0))) ∧ ∀ u v,W.cell? ⟨b,off,none⟩ = some (.iface u v) → Value.okWide Tryz.prog W .any 0 u v) →
  ∃ ads : List Addr,ads.length = L.length ∧ ads.Nodup ∧ (∀ a ∈ ads,MemPlace.cell a.block a.off ∈ ps) ∧ ∀ (k : Nat) x a,L[k]? = some x → ads[k]? = some a → W.cell? ⟨x.2.2,0,none⟩ = some (.iface 357 (.pointer (some a))) ∧ ∃ s,W.cell? a = some (.string s) ∧ s.data.toList = x.2.1
 | [],ps,_,_,_,_ => ⟨[],rfl,List.nodup_nil,by simp,by simp⟩
 | x :: L,ps,h,hg,hnd,hrows => by
  obtain ⟨g0,t0,cs0,f0,p0,q0,hg0,ht0,hv0,hd0,hq0,e0⟩ := h
  obtain ⟨hgx,htx⟩ := hg x (by simp)
  obtain rfl := Option.some.inj (hgx.symm.trans hg0)
  obtain rfl := Option.some.inj (htx.symm.trans ht0)
  subst e0
  obtain ⟨l0⟩ := cs0
  have ok0 : ∀ u v,l0 = [.iface u v] → Value.okWide Tryz.prog W .any 0 u v := fun u v e => by
   subst e
   exact (hrows x.2.2 0 (by simp [MemPlace.row])).2 u v (by simpa using World.var?_cell hg0 hv0 0)
  obtain ⟨a0,s0,rfl,hc0,hs0,hz0,rfl⟩ := errorString_of_trod Tryz.underlying25 TL.rowES Tryz.underlying357 Tryz.underlying359 rfl rfl Tryz.underlying9 TL.cellsES TL.cellsStr hd0 ok0
  obtain ⟨ads,hl,hn,hin,hc⟩ := sentinels_all r L q0 hq0 (fun y hy => hg y (by simp [hy])) (List.Nodup.sublist (List.sublist_append_right _ _) hnd) (fun b off hm => hrows b off (List.mem_append_right _ hm))
  refine ⟨a0 :: ads,by simp [hl],List.nodup_cons.2 ⟨fun hm => ?_,hn⟩,?_,?_⟩
  ·have h1 := hin a0 hm
   rw [List.nodup_append] at hnd
   exact hnd.2.2 _ (by simp [MemPlace.row]) _ h1 rfl
  ·intro a ha
   rcases List.mem_cons.1 ha with rfl | ha
   ·simp [MemPlace.row]
   ·exact List.mem_append_right _ (hin a ha)
  ·intro k y a hy ha
   cases k with
   | zero =>
    simp at hy ha
    subst hy ha
    exact ⟨by simpa using World.var?_cell hg0 hv0 0,s0,hc0,hs0⟩
   | succ k => exact hc k y a (by simpa using hy) (by simpa using ha)
def textOf : DataW Unit → List UInt8
 | .iface _ (.ptr (.agg [.lit (.string t)])) => t
 | _ => []
def g12 : List Nat := [1,0,2,3,4,5,6,7,8,9,10,11]
def sents (l : List (String × DataW Unit)) : List (String × List UInt8 × Nat) := (l.zip g12).map fun x => (x.1.1,textOf x.1.2,x.2)
def twelve : List (String × List UInt8 × Nat) := sents ((Rows.scriptReadsRow.laid.drop 5).take 12)
theorem twelve_globals : ∀ x ∈ twelve,Tryz.prog.globalNamed x.1 = some x.2.2 ∧ (Tryz.prog.globals[x.2.2]?).map (·.type) = some 25 := by
 have h : (twelve.all fun x => Tryz.prog.globalNamed x.1 == some x.2.2 && (Tryz.prog.globals[x.2.2]?).map (·.type) == some 25) = true := by kernel_rfl
 intro x hx
 have := List.all_eq_true.1 h x hx
 simpa using this
theorem twelve_snd : twelve.map (·.2.2) = g12 := by kernel_rfl
theorem et : Tryz.prog.globalNamed "errors.errorType" = some 12 := by kernel_rfl
theorem rt : (Tryz.prog.cutTypes.find? (·.1 == "internal/reflectlite.rtype")).map (·.2) = some 113 := by kernel_rfl
theorem oneRow : ((List.range 396).filter fun t => Tryz.prog.rowNamed t [101,114,114,111,114]) = [25] := by kernel_rfl
theorem typesSize : Tryz.prog.types.size = 396 := by kernel_rfl
theorem handle_of {W : World} {l : List (String × DataW Unit)} (h : handlesMet Tryz.prog l W) (hm : ("errors.errorType", Rows.laid_errors_errorType) ∈ l) :
  W.cell? ⟨12,0,none⟩ = some (.iface 113 (.agg #[.pointer (some ⟨26,25,none⟩)])) := by
 obtain ⟨name,u,ty,e1,e2,e3,e4,e5⟩ := h _ hm
 have en : name = [101,114,114,111,114] := (Option.some.inj e1).symm
 subst en
 obtain rfl := Option.some.inj (rt.symm.trans e2)
 have hm : ty ∈ (List.range 396).filter fun t => Tryz.prog.rowNamed t [101,114,114,111,114] := List.mem_filter.2 ⟨List.mem_range.2 (by rw [← typesSize];exact e3),e4⟩
 rw [oneRow] at hm
 obtain rfl := List.mem_singleton.1 hm
 have hh : typeHandle Tryz.prog 25 = .pointer (some ⟨26,25,none⟩) := by kernel_rfl
 rw [hh] at e5
 simpa using World.var?_cell et e5 0
theorem e12x_of {W : World} {r : List (String × DataW Unit)} (h : laidMet Tryz.prog (twelve.map (fun x => (x.1,sd x.2.1)) ++ r) W)
  (ht : W.cell? ⟨12,0,none⟩ = some (.iface 113 (.agg #[.pointer (some ⟨26,25,none⟩)]))) : ∃ es,E12 W es ∧ ∀ k,k < 12 → ∃ s,W.cell? (es k) = some (.string s) ∧ s.data.toList = (twelve.map (·.2.1)).getD k [] := by
 obtain ⟨ps,hv,hnd,hrows⟩ := h
 obtain ⟨l,hl,hn,hin,hc⟩ := sentinels_all r twelve ps hv twelve_globals hnd hrows
 have h12 : l.length = 12 := by rw [hl];kernel_rfl
 have hcell : ∀ (k : Nat) (hk : k < 12),W.cell? ⟨g12.getD k 0,0,none⟩ = some (.iface 357 (.pointer (some (l.getD k ⟨0,0,none⟩)))) := by
  intro k hk
  have h1 : k < twelve.length := by rw [← hl,h12];exact hk
  have h2 : k < l.length := by omega
  have := hc k twelve[k] l[k] (List.getElem?_eq_getElem h1) (List.getElem?_eq_getElem h2)
  have e : g12.getD k 0 = twelve[k].2.2 := by
   rw [← twelve_snd,List.getD_eq_getElem?_getD,List.getElem?_map,List.getElem?_eq_getElem h1];rfl
  rw [e,List.getD_eq_getElem?_getD,List.getElem?_eq_getElem h2]
  exact this.1
 refine ⟨fun k => l.getD k ⟨0,0,none⟩,⟨hcell 0 (by omega),hcell 1 (by omega),hcell 2 (by omega),hcell 3 (by omega),hcell 4 (by omega),hcell 5 (by omega),hcell 6 (by omega),hcell 7 (by omega),hcell 8 (by omega),hcell 9 (by omega),hcell 10 (by omega),hcell 11 (by omega),ht,?_,?_⟩,?_⟩
 ·intro k hk
  have h2 : k < l.length := by omega
  have : l.getD k ⟨0,0,none⟩ ∈ l := by
   rw [List.getD_eq_getElem?_getD,List.getElem?_eq_getElem h2];exact List.getElem_mem h2
  exact (hrows _ _ (hin _ this)).1
 ·intro j k hj hk hne e
  have h1 : j < l.length := by omega
  have h2 : k < l.length := by omega
  simp only [List.getD_eq_getElem?_getD,List.getElem?_eq_getElem h1,List.getElem?_eq_getElem h2,Option.getD_some] at e
  exact hne ((List.getElem_inj hn).1 e)
 ·intro k hk
  have h1 : k < twelve.length := by rw [← hl,h12];exact hk
  have h2 : k < l.length := by omega
  obtain ⟨-,s,hs,e⟩ := hc k twelve[k] l[k] (List.getElem?_eq_getElem h1) (List.getElem?_eq_getElem h2)
  refine ⟨s,?_,?_⟩
  ·show W.cell? (l.getD k ⟨0,0,none⟩) = _
   rw [List.getD_eq_getElem?_getD,List.getElem?_eq_getElem h2]
   exact hs
  ·rw [e,List.getD_eq_getElem?_getD,List.getElem?_map,List.getElem?_eq_getElem h1]
   rfl
theorem laidMet_drop {P : Program} {W : World} {r : List (String × DataW Unit)} : ∀ l : List (String × DataW Unit),laidMet P (l ++ r) W → laidMet P r W
 | [],h => h
 | _ :: l,h => laidMet_drop l h.tail
theorem laidMet_layAll {P : Program} {w0 : World} {laid : List (String × DataW Unit)} (args : Array Value)
  (hf : w0.layFits P laid [] = true) (hi : w0.layIfaces P laid (w0.layVars P laid) = true) :
  laidMet P laid ((w0.layVars P laid).forCall (fun _ _ => 0) ⟨#[],args,[]⟩).memory := by
 have e1 : (laid.filter fun x => (laid.map (·.1)).contains x.1) = laid := List.filter_eq_self.2 fun x hx => List.contains_iff_mem.2 (List.mem_map.2 ⟨x,hx,rfl⟩)
 have e2 : (laid.filter fun x => !(laid.map (·.1)).contains x.1) = [] := List.filter_eq_nil_iff.2 fun x hx => by rw [List.contains_iff_mem.2 (List.mem_map.2 ⟨x,hx,rfl⟩)];simp
 have h : laidMet P laid (w0.layVars P laid) := laidMet_layVars (w0 := w0) (laid.map (·.1)) [] (by rw [e1]) (by rw [e1];exact hf) (by rw [e1];exact hi) (by rw [e2];exact LaidIn.none)
 exact h.of_heap (by simp [World.memory,World.forCall,Input.heap])
end Go.Proofs.YtdljhggillgpfaaGreatDoor.EL
namespace Go.Proofs.YtdljhggillgpfaaGreatDoor
open Go.ChangeShapes Go.WideShapes Go.ChangeAt Go.WideMaps Go.WideElems Go.RowKit
theorem twelve_texts : ((List.range 12).all fun k => (EL.twelve.map (·.2.1)).getD k [] == Sc.errT (k + 1)) = true := by kernel_rfl
theorem erTx_of {W : World} {es : Nat → Addr} (h : ∀ k,k < 12 → ∃ s,W.cell? (es k) = some (.string s) ∧ s.data.toList = (EL.twelve.map (·.2.1)).getD k []) : ErTx W es := ⟨fun k hk => by
 obtain ⟨s,hs,e⟩ := h k hk
 have e2 : (EL.twelve.map (·.2.1)).getD k [] = Sc.errT (k + 1) := by
  have := List.all_eq_true.1 twelve_texts k (List.mem_range.2 hk)
  simpa using this
 have e3 : s = ba (Sc.errT (k + 1)) := by
  rw [← e2,← e]
 have hsp := World.cell?_spot hs
 obtain ⟨b,o,sp,hes⟩ : ∃ b o sp,es k = ⟨b,o,sp⟩ := ⟨_,_,_,rfl⟩
 rw [hes] at hsp hs
 simp only at hsp
 subst hsp
 exact ⟨b,o,hes,by rw [← e3];exact hs⟩⟩
end Go.Proofs.YtdljhggillgpfaaGreatDoor
namespace Go.Proofs.YtdljhggillgpfaaGreatDoor.GL
open Go.ChangeShapes Go.WideShapes Go.ChangeAt Go.WideMaps Go.WideElems Go.RowKit Go.Deep
theorem cellsRule : Tryz.prog.cellsOf 36 = 4 := by kernel_rfl
theorem cellsStrs : Tryz.prog.cellsOf 22 = 1 := by kernel_rfl
theorem ba_self (s : ByteArray) : s = ba s.data.toList := by
 apply ByteArray.ext
 simp
instance : Inhabited Ru := ⟨⟨[],[],[],[]⟩⟩
section
variable {H : Type} {enc : TypeId × Value → H}
theorem open_texts {W : World} {sp : Nat → Bool} {fuel : Nat} {cs : List Value} {x : DataW H × List MemPlace} (h : DataW.trod enc Tryz.prog W 0 sp true fuel 22 cs = some x) : ∃ v ls,cs = [v] ∧ XRow W v ls := by
 rcases open_strings Tryz.underlying22 Tryz.underlying9 TL.cellsStr h with ⟨hc,_⟩ | ⟨a,len,cap,ss,hc,_,hlc,_,hsl,_,hin,_⟩
 ·exact ⟨_,[],hc,XRow.nil W⟩
 ·have hle : len ≤ ss.length := by rw [hsl];split <;> omega
  have hlen : ((ss.take len).map fun s => s.data.toList).length = len := by simp;omega
  refine ⟨_,(ss.take len).map fun s => s.data.toList,hc,some a,cap,by rw [hlen],by omega,fun h => (by cases h),fun hne => ?_⟩
  have h0 : 0 < len := by
   rcases Nat.eq_zero_or_pos len with e | e
   ·subst e;simp at hne
   ·exact e
  have hs : a.spot = none := World.cell?_spot (a := a.add 0) (hin 0 (by omega))
  obtain ⟨ab,ao,spt⟩ := a
  cases hs
  refine ⟨ab,ao,rfl,lt_of_cell (hin 0 (by omega)),fun j hj => ?_⟩
  rw [hlen] at hj
  have hc := hin j (by omega)
  rw [add_at2] at hc
  rw [hc,List.getElem_map,List.getElem_take,← ba_self]
  have hjl : j < ss.length := by omega
  rw [List.getD_eq_getElem?_getD,List.getElem?_eq_getElem hjl]
  rfl
end
end Go.Proofs.YtdljhggillgpfaaGreatDoor.GL
namespace Go.Proofs.YtdljhggillgpfaaGreatDoor
open Go.RowKit Go.Shelf Go.Lib Go.Maps
theorem NewTells.below {es : Nat → Addr} {n : Nat} {fs : Tf.Fs} {l : List Ru} {outs : List (List UInt8)} {cv : Value} {w w' : World} {ev : Value} (h : NewTells es (BuAt es) n fs l outs cv w (.pointer none) ev) (hb : Below w.heap.size w w') : NewTells es (BuAt es) n fs l outs cv w' (.pointer none) ev := by
 rcases h with ⟨h0,h1 | ⟨h1,k,hk,h2,h3,h4⟩ | h1⟩ | ⟨_,_,_,_,⟨p,e⟩,_⟩
 ·exact .inl ⟨h0,.inl ⟨h1.1,h1.2.below hb⟩⟩
 ·exact .inl ⟨h0,.inr (.inl ⟨h1,k,hk,h2,h3,h4.below hb⟩)⟩
 ·exact .inl ⟨h0,.inr (.inr h1)⟩
 ·cases e
theorem newOrder_calls {es : Nat → Addr} {V : World} (hG : GraphW V es) (lv : Value) (l : List Ru) (hrow : RRow V lv l) (hl : l.length ≤ 1000) (hS : ∀ x ∈ l,x.Small) (nb : Nat) (v : Value) (ll : List Nat) (hc : V.cell? ⟨nb,0,none⟩ = some v) (hr : NIRow V v ll) (hll : ll.length ≤ 1000) (hcl : ∀ i k,i ∈ ll → Ru.needs l i k = true → k ∈ ll) :
  Calls Tryz.prog 114 #[lv,.func (.func 148) #[] #[.pointer (some ⟨nb,0,none⟩)]] V fun e w' => ∃ u ev,e = .returned (.tuple #[u,ev]) ∧ Below V.heap.size V w' ∧ SomeTells es l (fun k => decide (k ∈ ll)) w' u ev :=
 grOrderOf_calls hG lv l hrow hl hS 148 #[.pointer (some ⟨nb,0,none⟩)] (enters_of Tryz.func148 (by kernel_rfl) rfl) (fun k => decide (k ∈ ll)) (hid1 fun i k hi hk => by
  simp only [decide_eq_true_eq] at hi ⊢
  exact hcl i k hi hk) (hid1 fun x W' _ gW => containsI_new (cell_below' hc gW) (hr.below gW) hll x)
theorem buNew_calls {es : Nat → Addr} {W : World} (hW : BuildW W es) {Bt tb : Nat} {fs : Tf.Fs} {o : Option Nat} (hT : TreeAt Bt W tb fs o) (lv : Value) (l : List Ru) (hrow : RRow W lv l) (hl : l.length ≤ 1000) (hS : ∀ x ∈ l,x.Small) (ov : Value) (outs : List (List UInt8)) (hout : XRow W ov outs) (hol : outs.length ≤ 1000) (cv : Value) (hcv : ∃ q,cv = .pointer q) :
  Calls Tryz.prog 108 #[Ptr tb,lv,ov,cv] W fun e w' => ∃ bv ev,e = .returned (.tuple #[bv,ev]) ∧ Below W.heap.size W w' ∧ NewTells es (BuAt es) W.heap.size fs l outs cv w' bv ev := by
 have HNd := hid1 (gNeeds_calls hW.g.s hW.none lv l hrow hl hS ov outs hout hol)
 have HOf := hid1 fun (V : World) (g : Below W.heap.size W V) => newOrder_calls (hW.g.below g) lv l (hrow.below g) hl hS
 have HSt := hid1 fun (V : World) (g : Below W.heap.size W V) (h40 : l.length ≤ 40) (hA : Ru.Apart l) (uv : Value) (ord : List Nat) (hord : NIRow V uv ord) (ht : Ru.Topo l ord) (hnd : ord.Nodup) (ho : ∀ i ∈ ord,i < l.length) => stepsOf_calls (es := es) (hT.below g) lv l (hrow.below g) h40 hS hA uv ord hord ht hnd ho
 have HS := hid1 hS
 obtain ⟨q,rfl⟩ := hcv
 obtain ⟨pl,cl,rfl,-⟩ := hrow
 obtain ⟨po,co,rfl,-⟩ := hout
 clear hW hT hS
 go_enter Tryz.func108,Tryz.ntmps108
 go_wp2_with fail
 refine HNd.out.mono ?_
 rintro e w1 ⟨u1,ev,rfl,g1,hT1⟩
 clear HNd
 rcases hT1 with ⟨hf,hE,pn,cn,rfl⟩ | ⟨hf,k,hk,h1,h2,hE,pn,cn,rfl⟩ | ⟨hf,h1,rfl,f,hN,hrw⟩
 ·have HP : Hid (NewTells es (BuAt es) W.heap.size fs l outs (.pointer q) w1 (.pointer none) ev) := hid1 (.inl ⟨rfl,.inl ⟨hf,hE⟩⟩)
  obtain ⟨t,x,rfl⟩ := hE.some hf
  have gA : Below w1.heap.size w1 (w1.alloc (.cells #[.slice pn 0 cn] 147)) := (Below.refl _ w1).alloc (Nat.le_refl _) _
  clear hf hE HOf HSt
  go_wp2
  go_ret2
  exact ⟨_,_,rfl,below_then g1 gA,HP.out.below gA⟩
 ·have HP : Hid (NewTells es (BuAt es) W.heap.size fs l outs (.pointer q) w1 (.pointer none) ev) := hid1 (.inl ⟨rfl,.inr (.inl ⟨hf,k,hk,h1,h2,hE⟩)⟩)
  obtain ⟨t,x,rfl⟩ := hE.some (by simp)
  have gA : Below w1.heap.size w1 (w1.alloc (.cells #[.slice pn 0 cn] 147)) := (Below.refl _ w1).alloc (Nat.le_refl _) _
  clear hf hE h1 h2 HOf HSt
  go_wp2
  go_ret2
  exact ⟨_,_,rfl,below_then g1 gA,HP.out.below gA⟩
 ·obtain ⟨h40,hA⟩ := Ru.fault_ok hf
  have HR1 := hid1 hrw
  obtain ⟨pn,cn,rfl,-⟩ := hrw
  have gA : Below w1.heap.size w1 (w1.alloc (.cells #[.slice pn ((List.range l.length).filter f).length cn] 147)) := (Below.refl _ w1).alloc (Nat.le_refl _) _
  have G2 := below_then g1 gA
  have hfl : ((List.range l.length).filter f).length ≤ 40 := Nat.le_trans (by simpa using List.length_filter_le f (List.range l.length)) h40
  have hch : ∀ k,k < l.length → (decide (k ∈ (List.range l.length).filter f)) = Bf.need l outs k := fun k hk => by
   rw [Bf.need_eq hN hk]
   simp [hk]
  have HCh := hid1 (Ru.order_congr2 hch)
  have HO := hid1 (HOf.out _ G2 w1.heap.size _ _ (by simp) (HR1.out.below gA) (by omega) fun i k hi hk => by
   simp only [List.mem_filter,List.mem_range] at hi ⊢
   exact ⟨(Ru.needs_lt hk).2,hN.closed i k hi.2 hk⟩)
  unfold SomeTells at HO
  rw [HCh.out] at HO
  have HFt := hid1 hf
  have H1 := hid1 h1
  have HN := hid1 hN
  have HA := hid1 hA
  have hsh := HR1.out
  clear hf h1 hN hA HOf HCh hch hsh HR1
  go_wp2_with fail
  refine HO.out.mono ?_
  rintro e w3 ⟨u3,ev3,rfl,g3,hT3⟩
  have G3 := below_then G2 g3
  clear HO
  rcases hT3 with ⟨h0,-⟩ | ⟨-,hnone,rfl,pn3,cn3,rfl⟩ | ⟨-,ord,hsome,rfl,hr3⟩
  ·exact absurd HFt.out h0
  ·have HP : Hid (NewTells es (BuAt es) W.heap.size fs l outs (.pointer q) w3 (.pointer none) (erOf es 9)) := hid1 (.inl ⟨rfl,.inr (.inr ⟨HFt.out,H1.out,hnone,rfl⟩)⟩)
   clear hnone HSt
   obtain ⟨t9,x9,e9⟩ : ∃ t x,erOf es 9 = .iface t x := ⟨_,_,rfl⟩
   rw [e9] at HP ⊢
   clear e9
   go_wp2
   go_ret2
   exact ⟨_,_,rfl,G3,HP.out⟩
  ·obtain ⟨ht,hall⟩ := Ru.order_some hsome
   obtain ⟨hnd,hlt⟩ := Ru.order_nodup hsome
   have hch := Ru.order_ch hsome
   have HSo := hid1 (HSt.out w3 G3 h40 HA.out u3 ord hr3 ht hnd hlt)
   have hol2 : ord.length ≤ 40 := Nat.le_trans (len_le hnd hlt) h40
   have HMem : Hid (∀ k,k ∈ ord ↔ k < l.length ∧ f k = true) := hid1 fun k => by
    constructor
    ·intro hk
     have h1 := hlt k hk
     exact ⟨h1,by rw [← Bf.need_eq HN.out h1];exact hch k hk⟩
    ·rintro ⟨h1,h2⟩
     exact hall k h1 (by rw [Bf.need_eq HN.out h1];exact h2)
   have HSome : Hid ((Ru.order l (Bf.need l outs)).isSome = true) := hid1 (by rw [hsome];rfl)
   obtain ⟨p3,c3,rfl,-⟩ := hr3
   clear HSt ht hall hnd hlt hch hsome
   go_wp2_with fail
   refine HSo.out.mono ?_
   rintro e w4 ⟨bm,mb,L,rfl,hO4⟩
   have g4 : Below w3.heap.size w3 w4 := hO4.made.base
   have gB : Below w4.heap.size w4 (w4.alloc (.cells #[.map (some bm),.pointer q] 225)) := (Below.refl _ w4).alloc (Nat.le_refl _) _
   have rr := row_new w4 (.cells #[.map (some bm),.pointer q] 225)
   obtain ⟨hB,hlo⟩ := hO4.build HA.out HS.out HN.out HMem.out hol2 (cv := .pointer q) gB (Nat.le_refl _) (cell_of_row (j := 0) rr rfl) (cell_of_row (j := 1) rr rfl)
   have hz3 := G3.size
   have HP : Hid (NewTells es (BuAt es) W.heap.size fs l outs (.pointer q) (w4.alloc (.cells #[.map (some bm),.pointer q] 225)) (Ptr w4.heap.size) .nilIface) := hid1 (.inr ⟨HFt.out,H1.out,HSome.out,rfl,⟨_,rfl⟩,_,⟨_,_,_,L,rfl,⟨q,rfl⟩,fun _ => Iff.rfl,hB⟩,fun j hj => Nat.le_trans hz3 (hlo j hj)⟩)
   have G5 := below_then (below_then G3 g4) gB
   clear HSo hO4 hB hlo rr g4 gB
   go_wp2
   go_ret2
   exact ⟨_,_,rfl,G5,HP.out⟩
end Go.Proofs.YtdljhggillgpfaaGreatDoor
namespace Go.Proofs.YtdljhggillgpfaaGreatDoor
open Go.RowKit Go.Shelf Go.Lib Go.Maps
theorem builds (es : Nat → Addr) : Builds es Af.actO CAt (BuAt es) where
 same := fun S W W' v cv d h _ hb => by
  obtain ⟨bb,bm,n,L,e,hc,hS,h⟩ := h
  exact ⟨bb,bm,n,L,e,hc,hS,h.same fun j hj => hb j ((hS j).2 hj)⟩
 lt := fun S W v cv d h k hk => by
  obtain ⟨bb,bm,n,L,e,hc,hS,h⟩ := h
  exact h.lt k ((hS k).1 hk)
 noTree := fun W lv l ov outs cv hW _ _ => buNew_nil hW lv ov cv
 new := fun W B tb fs o lv l ov outs cv hW hT _ _ _ hrow hl hS hout hol _ hcv => buNew_calls hW hT lv l hrow (by omega) hS ov outs hout (by omega) cv hcv
 ready := fun S W p cv d h hl => by
  obtain ⟨bb,bm,n,L,e,hc,hS,h⟩ := h
  cases e
  exact buReady_calls h (by omega)
 state := fun S W p cv d i h _ h0 h1 => by
  obtain ⟨bb,bm,n,L,e,hc,hS,h⟩ := h
  cases e
  exact buState_calls h i h0 h1
 result := fun S W p cv d i h _ h0 h1 => by
  obtain ⟨bb,bm,n,L,e,hc,hS,h⟩ := h
  cases e
  exact buResult_calls h i h0 h1
 count := fun S W p cv d h hl => by
  obtain ⟨bb,bm,n,L,e,hc,hS,h⟩ := h
  cases e
  exact buCount_calls h (by omega)
 run := fun B S SC W p cv d c i h hC hap hW hSB hSC hf hS hfit hcf h0 h1 => by
  obtain ⟨bb,bm,n,L,e,hc,hB,h⟩ := h
  cases e
  refine (buRun_calls h hC (fun j hj => hap j ((hB j).2 hj)) hW hSC hS hfit hcf i h0 h1).mono ?_
  rintro e w' ⟨rfl,hM,hO,SC',hC',hSC'⟩
  have hdom : ∀ j,BBlk bb bm (Bf.run Af.actO c d i).d L j ↔ BBlk bb bm d L j := fun j => by
   have : (Bf.run Af.actO c d i).d.dom = d.dom := by
    unfold Bf.run
    split
    ·rfl
    ·unfold Bf.runN
     split
     ·rfl
     ·split
      ·rfl
      ·split
       ·rfl
       ·rename_i h5
        exact dom_go c d (by simpa using h5)
   unfold BBlk
   rw [this]
  have hlt := h.lt
  refine ⟨rfl,⟨hO.os,hO.tape,hO.output,hO.size,fun j hj hn => hO.block j hj fun e => hn (e.imp_left (hB j).2)⟩,S,SC',⟨bb,bm,n,L,rfl,hc,fun j => (hB j).trans (hdom j).symm,hM⟩,hC',fun j hj hx => ?_,fun j hj => .inl hj,hSC'⟩
  rcases hSC' j hx with h2 | h2
  ·exact hap j hj h2
  ·have := hlt j ((hB j).1 hj)
   omega
 all := fun B S SC W p cv d c h hC hap hW hSB hSC hf hS hfit hcf => by
  obtain ⟨bb,bm,n,L,e,hc,hB,h⟩ := h
  cases e
  obtain ⟨h40,_⟩ := Ru.fault_ok hf
  refine (buAll_calls h hC (fun j hj => hap j ((hB j).2 hj)) hW (fun j hj => hSB j ((hB j).2 hj)) hSC hS (by omega) hfit hcf).mono ?_
  rintro e w' ⟨rfl,hM,hO,SC',hC',hSC'⟩
  have hdom : ∀ j,BBlk bb bm (Bf.all Af.actO c d).1 L j ↔ BBlk bb bm d L j := fun j => by
   have key : ∀ (f : Nat) (c : Bf.Ca) (d : Bf.Bd),(Bf.allF Af.actO f c d).1.dom = d.dom := fun f => by
    induction f with
    | zero => exact fun _ _ => rfl
    | succ f ih =>
     intro c d
     unfold Bf.allF
     cases hq : d.ready with
     | nil => rfl
     | cons i q =>
      have hm := Bf.mem_ready.1 (show i ∈ d.ready by rw [hq];simp)
      exact (ih _ _).trans (dom_go c d hm.2)
   unfold BBlk
   rw [show (Bf.all Af.actO c d).1.dom = d.dom from key _ c d]
  have hlt := h.lt
  refine ⟨rfl,⟨hO.os,hO.tape,hO.output,hO.size,fun j hj hn => hO.block j hj fun e => hn (e.imp_left (hB j).2)⟩,S,SC',⟨bb,bm,n,L,rfl,hc,fun j => (hB j).trans (hdom j).symm,hM⟩,hC',fun j hj hx => ?_,fun j hj => .inl hj,hSC'⟩
  rcases hSC' j hx with h2 | h2
  ·exact hap j hj h2
  ·have := hlt j ((hB j).1 hj)
   omega
end Go.Proofs.YtdljhggillgpfaaGreatDoor
namespace Go.Proofs.YtdljhggillgpfaaGreatDoor
open Go.RowKit Go.Shelf Go.Lib
theorem E12.terr {w : World} {es : Nat → Addr} (h : E12 w es) : TErr w (erOf es) :=
 ⟨h.c1,h.c2,h.c3,h.c5,h.c6,h.c7,fun _ => ⟨_,_,rfl⟩,rfl⟩
end Go.Proofs.YtdljhggillgpfaaGreatDoor
namespace Go.Proofs.YtdljhggillgpfaaGreatDoor.OL
open Go.ChangeShapes Go.WideShapes Go.ChangeAt Go.WideMaps Go.WideElems Go.RowKit Go.Deep
theorem cellsLine : Tryz.prog.cellsOf 38 = 7 := by kernel_rfl
instance : Inhabited Ln := ⟨⟨[],[],[],⟨[],[],[],[]⟩⟩⟩
section
variable {H : Type} {enc : TypeId × Value → H}
theorem open_lines {W : World} {sp : Nat → Bool} {fuel : Nat} {cs : List Value} {x : DataW H × List MemPlace} (h : DataW.trod enc Tryz.prog W 0 sp true fuel 33 cs = some x) : ∃ v l,cs = [v] ∧ LnRow W v l := by
 rcases open_slice Tryz.underlying33 h with h0 | ⟨a,len,cap,m,n,D,Pl,rfl,hb,hl,hm,hmm,rfl,hx⟩
 ·exact ⟨_,[],h0.1,none,0,rfl,fun h => absurd rfl h⟩
 have hlm : len ≤ m := by rw [hmm];split <;> omega
 have each : ∀ i,i < m → ∃ r : Ln,W.cell? (a.add (i * 7)) = some (.string (ba r.w)) ∧ (∃ u,W.cell? (a.add (i * 7 + 1)) = some u ∧ XRow W u r.p) ∧ W.cell? (a.add (i * 7 + 2)) = some (.string (ba r.t)) ∧
   W.cell? (a.add (i * 7 + 3)) = some (.string (ba r.r.out)) ∧ W.cell? (a.add (i * 7 + 4)) = some (.string (ba r.r.kind)) ∧ W.cell? (a.add (i * 7 + 5)) = some (.string (ba r.r.word)) ∧ ∃ u,W.cell? (a.add (i * 7 + 6)) = some u ∧ XRow W u r.r.ins := by
  intro i hi
  obtain ⟨cs',h1,h2⟩ := hx i hi
  rw [cellsLine] at h1
  obtain ⟨_,hlen,hcell⟩ := World.cells?_some h1
  obtain ⟨y0,y1,y2,y3,k,hxy,_,u0,u1,u2,u3⟩ := Go.Joins.trod_struct4 Tryz.underlying38 h2
  match cs',hlen with
  | [v0,v1,v2,v3,v4,v5,v6],_ =>
   simp only [TL.cellsStr,GL.cellsStrs,GL.cellsRule,List.drop,List.take] at u0 u1 u2 u3
   obtain ⟨z0,z1,z2,z3,k2,hz,_,w0,w1,w2,w3⟩ := Go.Joins.trod_struct4 Tryz.underlying36 u3
   simp only [TL.cellsStr,GL.cellsStrs,List.drop,List.take] at w0 w1 w2 w3
   obtain ⟨s0,e0,d0,_⟩ := DataW.trod_string Tryz.underlying9 u0
   obtain ⟨uu,ls,e1,hX⟩ := GL.open_texts u1
   obtain ⟨s2,e2,d2,_⟩ := DataW.trod_string Tryz.underlying9 u2
   obtain ⟨s3,e3,d3,_⟩ := DataW.trod_string Tryz.underlying9 w0
   obtain ⟨s4,e4,d4,_⟩ := DataW.trod_string Tryz.underlying9 w1
   obtain ⟨s5,e5,d5,_⟩ := DataW.trod_string Tryz.underlying9 w2
   obtain ⟨u6,l6,e6,hX6⟩ := GL.open_texts w3
   simp only [List.cons.injEq,and_true] at e0 e1 e2 e3 e4 e5 e6
   subst e0 e1 e2 e3 e4 e5 e6
   have c0 := hcell 0 (by omega)
   have c1 := hcell 1 (by omega)
   have c2 := hcell 2 (by omega)
   have c3 := hcell 3 (by omega)
   have c4 := hcell 4 (by omega)
   have c5 := hcell 5 (by omega)
   have c6 := hcell 6 (by omega)
   rw [add_add] at c0 c1 c2 c3 c4 c5 c6
   exact ⟨⟨s0.data.toList,ls,s2.data.toList,⟨s3.data.toList,s4.data.toList,s5.data.toList,l6⟩⟩,by rw [← GL.ba_self];simpa using c0,⟨_,by simpa using c1,hX⟩,by rw [← GL.ba_self];simpa using c2,by rw [← GL.ba_self];simpa using c3,by rw [← GL.ba_self];simpa using c4,by rw [← GL.ba_self];simpa using c5,_,by simpa using c6,hX6⟩
 obtain ⟨q,hq⟩ := choose_lt (α := Ln) each
 refine ⟨_,(List.range len).map q,rfl,some a,cap,by simp,fun hne => ?_⟩
 have h0 : 0 < len := by
  rcases Nat.eq_zero_or_pos len with e | e
  ·subst e;simp at hne
  ·exact e
 have hs : a.spot = none := World.cell?_spot (a := a.add (0 * 7)) (hq 0 (by omega)).1
 obtain ⟨ab,ao,spt⟩ := a
 cases hs
 refine ⟨ab,ao,rfl,lt_of_cell (hq 0 (by omega)).1,fun j hj => ?_⟩
 have hjl : j < len := by simpa using hj
 obtain ⟨c0,⟨u,c1,hX⟩,c2,c3,c4,c5,u6,c6,hX6⟩ := hq j (by omega)
 rw [add_at2] at c0 c1 c2 c3 c4 c5 c6
 rw [← Nat.add_assoc] at c1 c2 c3 c4 c5 c6
 simp only [List.getElem_map,List.getElem_range]
 exact ⟨c0,⟨u,c1,hX⟩,c2,c3,c4,c5,u6,c6,hX6⟩
end
end Go.Proofs.YtdljhggillgpfaaGreatDoor.OL
namespace Go.Proofs.YtdljhggillgpfaaGreatDoor
open Go.ChangeShapes Go.WideShapes Go.ChangeAt Go.WideMaps Go.WideElems Go.RowKit
theorem big_of {W : World} (h : W.ShapedOpen Tryz.prog) : 20 < W.heap.size := by
 have h0 : (((begin Tryz.prog (fun _ _ => 0) default).world.heap[20]?).bind Obj.row?).isSome = true := by kernel_rfl
 obtain ⟨⟨zero,t⟩,hz⟩ := Option.isSome_iff_exists.1 h0
 obtain ⟨cs,hh,_⟩ := h.1 20 zero t (of_decide_eq_true (by kernel_rfl)) hz
 exact (Array.getElem?_eq_some_iff.1 hh).1
end Go.Proofs.YtdljhggillgpfaaGreatDoor
