import Derived.Test.YtdljhggillgpfaaGreatDoorSA23
set_option maxRecDepth 100000
set_option maxHeartbeats 16000000
namespace Go.Proofs.YtdljhggillgpfaaGreatDoor
open Go.RowKit Go.Shelf Go.Lib Go.Maps
def vElem : Value → Option (DataW Value × List MemPlace) := fun v => some (.held v,[])
def VMap (W : World) (b : Nat) (fd : List UInt8 → Option Value) : Prop :=
 ∃ (D : DataW Value) (K : List (List UInt8)),W.ownsMap Tryz.prog 9 vElem b K.length D ∧ Maps.size D = K.length ∧ K.Nodup ∧ (∀ x,has D (.string x) = (fd x).isSome) ∧ (∀ x,x ∈ K ↔ (fd x).isSome = true) ∧ ∀ x v z,fd x = some v → D.atKey (.string x) z = .held v
theorem vowns_tight {w : World} {b n : Nat} {D : DataW Value} (h : w.ownsMap Tryz.prog 9 vElem b n D) : w.ownsMap Tryz.prog 9 vElem b (Maps.size D) D := by
 obtain ⟨es,clock,h1,F,_,hD⟩ := h
 refine ⟨es,clock,h1,F,?_,hD⟩
 rw [hD]
 simp [Maps.size,length_sorted]
theorem VMap.lt {W : World} {b : Nat} {fd : List UInt8 → Option Value} (h : VMap W b fd) : b < W.heap.size := by
 obtain ⟨D,K,h1,_⟩ := h
 exact h1.lt
theorem VMap.same {W W' : World} {b : Nat} {fd : List UInt8 → Option Value} (h : VMap W b fd) (hb : W'.heap[b]? = W.heap[b]?) : VMap W' b fd := by
 obtain ⟨D,K,⟨es,clock,h1,F⟩,h2⟩ := h
 exact ⟨D,K,⟨es,clock,hb.trans h1,F⟩,h2⟩
theorem VMap.below {W W' : World} {b : Nat} {fd : List UInt8 → Option Value} (h : VMap W b fd) (hb : Below W.heap.size W W') : VMap W' b fd := h.same (hb.block b h.lt)
theorem VMap.made (W : World) : VMap (W.alloc (.map #[] 0)) W.heap.size (fun _ => none) :=
 ⟨.map [],[],World.ownsMap_made W _ _ _,rfl,List.nodup_nil,fun _ => rfl,fun x => by simp,fun x v z h => by cases h⟩
theorem VMap.congr {W : World} {b : Nat} {fd fd' : List UInt8 → Option Value} (h : VMap W b fd) (he : ∀ x,fd' x = fd x) : VMap W b fd' := by
 have : fd' = fd := funext he
 rw [this];exact h
theorem VMap.look {W : World} {b : Nat} {fd : List UInt8 → Option Value} (h : VMap W b fd) {t e : TypeId} (ht : Tryz.prog.underlying t = some (.map 9 e)) {z : Value} (hz : (zeroValue e).run Tryz.prog W = .ok z W) (x : List UInt8) (hx : x.length ≤ 1000000) :
  (Instr.lookup t (.map (some b)) (.string (ba x)) true).run Tryz.prog W = .ok (.tuple #[(fd x).getD z,.bool (fd x).isSome]) W := by
 obtain ⟨D,K,h1,h2,h3,h4,h5,h6⟩ := h
 obtain ⟨v,ps,hrun,hv⟩ := h1.look_ok (t := t) (e := e) claw ht (z := z) hz (zd := .held z) (zp := []) rfl (ckey x hx)
 have hv' : (DataW.held v : DataW Value) = D.atKey (.string x) (.held z) := by
  have : vElem v = some (.held v,[]) := rfl
  rw [this] at hv
  simpa using congrArg (fun o => o.map Prod.fst) hv
 rw [hrun,h4]
 have : v = (fd x).getD z := by
  cases hf : fd x with
  | some u =>
   rw [h6 x u _ hf] at hv'
   injection hv'
  | none =>
   have hh : has D (.string x) = false := by rw [h4,hf];rfl
   rw [atKey_of_not_has hh] at hv'
   injection hv'
 rw [this]
theorem VMap.laid {W : World} {b : Nat} {fd : List UInt8 → Option Value} (h : VMap W b fd) {t e : TypeId} (ht : Tryz.prog.underlying t = some (.map 9 e)) (L : List (List UInt8)) (hL : ∀ x,(fd x).isSome = true → x ∈ L) (hn : L.length ≤ 1000000) (x : List UInt8) (hx : x.length ≤ 1000000) (v : Value) :
  ∃ w1,(Instr.mapUpdate t (.map (some b)) (.string (ba x)) v).run Tryz.prog W = .ok () w1 ∧ VMap w1 b (fun y => if y = x then some v else fd y) ∧ W.mapTurned w1 b := by
 obtain ⟨D,K,h1,h2,h3,h4,h5,h6⟩ := h
 have hK : K.length ≤ L.length := Cf.nodup_len h3 fun y hy => hL y ((h5 y).1 hy)
 obtain ⟨w1,hr,ho1,ht1⟩ := h1.store (t := t) (e := e) claw ht (by unfold maxLen;omega) (ckey x hx) (show vElem v = some (.held v,[]) from rfl)
 have hT := h1.tidy claw
 have hk : WideAt.IsKeyLit (.string x) := by simp [WideAt.IsKeyLit]
 have hat : ∀ y u z,(if y = x then some v else fd y) = some u → (D.put (.string x) (.held v)).atKey (.string y) z = .held u := fun y u z hy => by
  by_cases e : y = x
  ·subst e
   rw [if_pos rfl] at hy
   cases hy
   rw [atKey_put_same hT.isMap hk]
  ·rw [if_neg e] at hy
   rw [atKey_put_other (by simpa using e),h6 y u z hy]
 have hhas : ∀ y,has (D.put (.string x) (.held v)) (.string y) = (if y = x then some v else fd y).isSome := fun y => by
  by_cases e : y = x
  ·subst e
   rw [if_pos rfl,has_put_same hT.isMap hk]
   rfl
  ·rw [if_neg e,has_put_other (by simpa using e),h4]
 have hsz := size_put (k := .string x) (d := .held v) hT
 rw [h4,h2] at hsz
 refine ⟨w1,hr,?_,ht1⟩
 cases hf : (fd x).isSome with
 | true =>
  rw [hf] at hsz
  have hsz' : Maps.size (D.put (.string x) (.held v)) = K.length := by simpa using hsz
  refine ⟨_,K,hsz' ▸ vowns_tight ho1,hsz',h3,hhas,fun y => ?_,hat⟩
  show _ ↔ (if y = x then some v else fd y).isSome = true
  by_cases e : y = x
  ·subst e;rw [if_pos rfl,h5,hf];simp
  ·rw [if_neg e,h5]
 | false =>
  rw [hf] at hsz
  have hsz' : Maps.size (D.put (.string x) (.held v)) = (x :: K).length := by simpa using hsz
  refine ⟨_,x :: K,hsz' ▸ vowns_tight ho1,hsz',List.nodup_cons.2 ⟨fun hx => ?_,h3⟩,hhas,fun y => ?_,hat⟩
  ·rw [h5,hf] at hx;cases hx
  ·show _ ↔ (if y = x then some v else fd y).isSome = true
   by_cases e : y = x
   ·subst e;simp
   ·rw [if_neg e,← h5];simp [e]
abbrev ansV (es : Nat → Addr) (x : List UInt8 × Nat) : Value := .agg #[.string (ba x.1),erOf es x.2]
def ruF (l : List Ru) (uv : Nat → Value) (x : List UInt8) : Option Value := (Bf.mkr l x).map fun i => ruV (l.getD i ⟨[],[],[],[]⟩) (uv i)
structure AskE (w : World) (es : Nat → Addr) : Prop where
 a : AE w (erOf es)
 none : w.cell? ⟨5,0,Option.none⟩ = some (erOf es 6)
theorem AskE.below {w w' : World} {es : Nat → Addr} (h : AskE w es) (hb : Below w.heap.size w w') : AskE w' es := ⟨h.a.stays hb,cell_below' h.none hb⟩
structure AskB (es : Nat → Addr) (tb : Nat) (fs : Tf.Fs) (l : List Ru) (uv : Nat → Value) (W0 : World) : Prop where
 e : AskE W0 es
 tree : ∃ B o,TreeAt B W0 tb fs o
 bytes : ∀ x b,Tf.get fs x = some b → b.length ≤ 2000
 ins : ∀ i (hi : i < l.length),XRow W0 (uv i) l[i].ins
 small : ∀ x ∈ l,x.Small
 len : l.length ≤ 40
structure AskL where
 (rc tc dc kc rm dm : Nat)
abbrev AskL.caps (L : AskL) : Array Value := #[Ptr L.rc,Ptr L.tc,Ptr L.dc,Ptr L.kc]
abbrev AskL.fn (L : AskL) : Value := .func (.func 163) #[] L.caps
structure Asks (es : Nat → Addr) (tb : Nat) (fs : Tf.Fs) (l : List Ru) (uv : Nat → Value) (W0 : World) (L : AskL) (W : World) : Prop where
 base : Below W0.heap.size W0 W
 cr : W.cell? ⟨L.rc,0,none⟩ = some (.map (some L.rm))
 ct : W.cell? ⟨L.tc,0,none⟩ = some (Ptr tb)
 cd : W.cell? ⟨L.dc,0,none⟩ = some (.map (some L.dm))
 ck : W.cell? ⟨L.kc,0,none⟩ = some L.fn
 rules : VMap W L.rm (ruF l uv)
 told : ∃ fd,VMap W L.dm fd ∧ ∀ x v,fd x = some v → (Bf.mkr l x).isSome = true ∧ v = ansV es (Bf.want Af.actO fs l x)
 nr : L.rc ≠ L.dm
 nt : L.tc ≠ L.dm
 nd : L.dc ≠ L.dm
 nk : L.kc ≠ L.dm
 nm : L.rm ≠ L.dm
 new : W0.heap.size ≤ L.dm
theorem Asks.below {es : Nat → Addr} {tb : Nat} {fs : Tf.Fs} {l : List Ru} {uv : Nat → Value} {W0 W W' : World} {L : AskL} (h : Asks es tb fs l uv W0 L W) (hb : Below W.heap.size W W') : Asks es tb fs l uv W0 L W' := by
 obtain ⟨fd,h1,h2⟩ := h.told
 exact ⟨below_then h.base hb,cell_below' h.cr hb,cell_below' h.ct hb,cell_below' h.cd hb,cell_below' h.ck hb,h.rules.below hb,⟨fd,h1.below hb,h2⟩,h.nr,h.nt,h.nd,h.nk,h.nm,h.new⟩
theorem Asks.turn {es : Nat → Addr} {tb : Nat} {fs : Tf.Fs} {l : List Ru} {uv : Nat → Value} {W0 W W' : World} {L : AskL} (h : Asks es tb fs l uv W0 L W) (hb : Only (fun j => j = L.dm) W W') {fd : List UInt8 → Option Value} (h1 : VMap W' L.dm fd) (h2 : ∀ x v,fd x = some v → (Bf.mkr l x).isSome = true ∧ v = ansV es (Bf.want Af.actO fs l x)) : Asks es tb fs l uv W0 L W' :=
 ⟨h.base.trans (hb.below (fun j hj => by rw [hj];exact h.new) h.base.size),hb.cell h.cr h.nr,hb.cell h.ct h.nt,hb.cell h.cd h.nd,hb.cell h.ck h.nk,h.rules.same (hb.block _ h.rules.lt h.nm),⟨fd,h1,h2⟩,h.nr,h.nt,h.nd,h.nk,h.nm,h.new⟩
theorem Asks.lt {es : Nat → Addr} {tb : Nat} {fs : Tf.Fs} {l : List Ru} {uv : Nat → Value} {W0 W : World} {L : AskL} (h : Asks es tb fs l uv W0 L W) : L.dm < W.heap.size := by
 obtain ⟨fd,h1,_⟩ := h.told
 exact h1.lt
theorem Only.then {S : Nat → Prop} {a b c : World} (h : Only S a b) (hb : Below a.heap.size b c) : Only S a c :=
 ⟨hb.os.trans h.os,hb.tape.trans h.tape,hb.output.trans h.output,Nat.le_trans h.size hb.size,fun j hj hs => (hb.block j hj).trans (h.block j hj hs)⟩
theorem Asks.after {es : Nat → Addr} {tb : Nat} {fs : Tf.Fs} {l : List Ru} {uv : Nat → Value} {W0 W1 W W' : World} {L : AskL} (h1 : Asks es tb fs l uv W0 L W1) (h : Asks es tb fs l uv W0 L W) (hb : Below W1.heap.size W W') : Asks es tb fs l uv W0 L W' := by
 obtain ⟨fd,h2,h3⟩ := h.told
 have hc : ∀ {a : Addr} {u u' : Value},W1.cell? a = some u' → W.cell? a = some u → W'.cell? a = some u := fun h1 h2 => (hb.cell (lt_of_cell h1)).trans h2
 exact ⟨h.base.trans (hb.mono h1.base.size),hc h1.cr h.cr,hc h1.ct h.ct,hc h1.cd h.cd,hc h1.ck h.ck,h.rules.same (hb.block _ h1.rules.lt),⟨fd,h2.same (hb.block _ h1.lt),h3⟩,h.nr,h.nt,h.nd,h.nk,h.nm,h.new⟩
theorem Asks.keep {es : Nat → Addr} {tb : Nat} {fs : Tf.Fs} {l : List Ru} {uv : Nat → Value} {W0 W : World} {L : AskL} (h : Asks es tb fs l uv W0 L W) (hl : l.length ≤ 40) (x : List UInt8) (hx : x.length ≤ 1000) (hm : (Bf.mkr l x).isSome = true) :
  ∃ w1,(Instr.mapUpdate 237 (.map (some L.dm)) (.string (ba x)) (ansV es (Bf.want Af.actO fs l x))).run Tryz.prog W = .ok () w1 ∧ Asks es tb fs l uv W0 L w1 ∧ Only (fun j => j = L.dm) W w1 := by
 obtain ⟨fd,h1,h2⟩ := h.told
 have hout : ∀ y,(Bf.mkr l y).isSome = true → y ∈ l.map Ru.out := fun y hy => by
  obtain ⟨i,hi⟩ := Option.isSome_iff_exists.1 hy
  obtain ⟨hk,e⟩ := Bf.mkr_of hi
  exact List.mem_map.2 ⟨_,List.getElem_mem hk,e⟩
 obtain ⟨w1,hr,hv,ht⟩ := h1.laid Tryz.underlying237 (l.map Ru.out) (fun y hy => by
  obtain ⟨v,hv⟩ := Option.isSome_iff_exists.1 hy
  exact hout y (h2 y v hv).1) (by simp;omega) x (by omega) (ansV es (Bf.want Af.actO fs l x))
 have ho : Only (fun j => j = L.dm) W w1 := by
  refine ⟨ht.grown.os,ht.grown.tape,ht.grown.output,ht.grown.size,fun j hj hs => ht.grown.block j hj fun e => hs ?_⟩
  simpa using e
 refine ⟨w1,hr,h.turn ho hv fun y v hy => ?_,ho⟩
 by_cases e : y = x
 ·subst e
  rw [if_pos rfl] at hy
  cases hy
  exact ⟨hm,rfl⟩
 ·rw [if_neg e] at hy
  exact h2 y v hy
theorem Asks.known {es : Nat → Addr} {tb : Nat} {fs : Tf.Fs} {l : List Ru} {uv : Nat → Value} {W0 W : World} {L : AskL} (h : Asks es tb fs l uv W0 L W) (x : List UInt8) (hx : x.length ≤ 1000) :
  (Instr.lookup 237 (.map (some L.dm)) (.string (ba x)) true).run Tryz.prog W = .ok (.tuple #[.agg #[.string ⟨#[]⟩,.nilIface],.bool false]) W ∨
  (Instr.lookup 237 (.map (some L.dm)) (.string (ba x)) true).run Tryz.prog W = .ok (.tuple #[ansV es (Bf.want Af.actO fs l x),.bool true]) W := by
 obtain ⟨fd,h1,h2⟩ := h.told
 have := h1.look Tryz.underlying237 (Tryz.zeroValue240 W) x (by omega)
 cases hf : fd x with
 | none => rw [hf] at this;exact .inl this
 | some v =>
  rw [hf,(h2 x v hf).2] at this
  exact .inr this
theorem Asks.maker {es : Nat → Addr} {tb : Nat} {fs : Tf.Fs} {l : List Ru} {uv : Nat → Value} {W0 W : World} {L : AskL} (h : Asks es tb fs l uv W0 L W) (x : List UInt8) (hx : x.length ≤ 1000) :
  (Instr.lookup 236 (.map (some L.rm)) (.string (ba x)) true).run Tryz.prog W = .ok (.tuple #[(ruF l uv x).getD (.agg #[.string ⟨#[]⟩,.string ⟨#[]⟩,.string ⟨#[]⟩,.slice none 0 0]),.bool (ruF l uv x).isSome]) W :=
 h.rules.look Tryz.underlying236 (Tryz.zeroValue36 W) x (by omega)
theorem wFile_calls {W : World} {es : Nat → Addr} {B tb : Nat} {fs : Tf.Fs} {o : Option Nat} (hT : TreeAt B W tb fs o) (hE : AskE W es) (x : List UInt8) (hx : x.length ≤ 1000) :
  Calls Tryz.prog 164 #[Ptr tb,.string (ba x)] W fun e w' => e = .returned (.tuple #[.string (ba ((Tf.get fs x).getD [])),erOf es (if (Tf.get fs x).isSome = true then 0 else 6)]) ∧ Below W.heap.size W w' := by
 have HG := hid1 (Get_calls hT x (by omega))
 have hN := hE.none
 clear hE hT
 rw [hasW_get] at HG
 cases hg : Tf.get fs x with
 | none =>
  rw [hg] at HG
  simp only [Option.getD_none,Option.isSome_none] at HG ⊢
  clear hg
  go_enter Tryz.func164,Tryz.ntmps164
  go_wp2_with fail
  refine HG.out.mono ?_
  rintro e w1 ⟨rfl,g1⟩
  have n1 := cell_below' hN g1
  clear HG
  go_wp2
  go_region
  go_wp2
  go_ret2
  exact ⟨rfl,g1.drew⟩
 | some b =>
  rw [hg] at HG
  simp only [Option.getD_some,Option.isSome_some] at HG ⊢
  clear hg
  go_enter Tryz.func164,Tryz.ntmps164
  go_wp2_with fail
  refine HG.out.mono ?_
  rintro e w1 ⟨rfl,g1⟩
  clear HG
  go_wp2
  go_ret2
  exact ⟨rfl,g1⟩
def AskTells (es : Nat → Addr) (tb : Nat) (fs : Tf.Fs) (l : List Ru) (uv : Nat → Value) (W0 : World) (L : AskL) (x : List UInt8) : Prop :=
 ∀ V,Asks es tb fs l uv W0 L V → Calls Tryz.prog 163 (#[.string (ba x)] ++ L.caps) V fun e w' => e = .returned (.tuple #[.string (ba (Bf.want Af.actO fs l x).1),erOf es (Bf.want Af.actO fs l x).2]) ∧ Asks es tb fs l uv W0 L w' ∧ Only (fun j => j = L.dm) V w'
theorem wAsk1_enters : ∀ args w,(callFunc 163 args).run Tryz.prog w = .ok (.enter 163 args) w := enters_of Tryz.func163 (by kernel_rfl) rfl
theorem wRun_calls {es : Nat → Addr} {tb : Nat} {fs : Tf.Fs} {l : List Ru} {uv : Nat → Value} {W0 W : World} {L : AskL} (hB : AskB es tb fs l uv W0) (h : Asks es tb fs l uv W0 L W) (i : Nat) (hi : i < l.length) (HF : Hid (∀ x ∈ l[i].ins,AskTells es tb fs l uv W0 L x)) :
  Calls Tryz.prog 165 #[ruV l[i] (uv i),L.fn] W fun e w' => e = .returned (.tuple #[.string (ba (Bf.wrule Af.actO (Bf.want Af.actO fs l) l[i]).1),erOf es (Bf.wrule Af.actO (Bf.want Af.actO fs l) l[i]).2]) ∧ Asks es tb fs l uv W0 L w' ∧ Only (fun j => j = L.dm) W w' := by
 have hX := hB.ins i hi
 have hsm := hB.small _ (List.getElem_mem hi)
 have HE := hid1 hB.e
 have HL : Hid (∀ x,(Bf.want Af.actO fs l x).1.length ≤ 2000) := hid1 fun x => Bf.want_len hB.bytes x _
 have HA := hid1 h
 have hd := h.lt
 have eg := wAsk1_enters
 obtain ⟨i0,hti,hz0,hz1,hz2⟩ := info_parts Tryz.infoStr
 have hwl := hsm.word
 have hil := hsm.many
 clear hB h hsm
 generalize hf : Bf.want Af.actO fs l = f at *
 generalize hr : l[i] = r at *
 obtain ⟨y,hy⟩ : ∃ y,Bf.wrule Af.actO f r = y := ⟨_,rfl⟩
 rw [hy]
 unfold Bf.wrule at hy
 have HY := hid1 hy
 clear hy
 obtain ⟨p,cap,eu,hcap,hnil,hin⟩ := hX
 rw [eu]
 have HIn := hid1 hin
 clear hin eu hr
 have bA : Below W.heap.size W (W.alloc (.cells #[.string (ba r.out),.string (ba r.kind),.string (ba r.word),.slice p r.ins.length cap] 36)) := (Below.refl _ W).alloc (Nat.le_refl _) _
 have HA1 := hid1 (HA.out.below bA)
 have HO1 : Hid (Only (fun j => j = L.dm) W (W.alloc (.cells #[.string (ba r.out),.string (ba r.kind),.string (ba r.word),.slice p r.ins.length cap] 36))) := hid1 (Only.of bA)
 have rr := row_newW W (.cells #[.string (ba r.out),.string (ba r.kind),.string (ba r.word),.slice p r.ins.length cap] 36)
 have HRR := hid1 rr
 have k1 := cell_of_row (j := 1) rr rfl
 have k2 := cell_of_row (j := 2) rr rfl
 have k3 := cell_of_row (j := 3) rr rfl
 clear HA bA rr
 go_enter Tryz.func165,Tryz.ntmps165
 go_wp2
 generalize hW1 : W.alloc (.cells #[.string (ba r.out),.string (ba r.kind),.string (ba r.word),.slice p r.ins.length cap] 36) = W1 at *
 have hz1' : W1.heap.size = W.heap.size + 1 := by rw [← hW1];simp
 clear hW1
 go_loopw [6,14] (fun lv iv wr => ∃ (k : Nat) (xs : List (List UInt8)),k ≤ r.ins.length ∧ iv = .int .i64 k ∧ Bf.winB f (r.ins.take k) = (xs,0) ∧ wr.ownsRow W1.heap.size 9 1 lv xs.length (xs.map sv) ∧ Asks es tb fs l uv W0 L wr ∧ Only (fun j => j = L.dm) W1 wr) (fun _ iv _ => r.ins.length - (intOf iv).toNat)
 case atStart => exact ⟨0,[],Nat.zero_le _,rfl,rfl,World.ownsRow_nil _ _ _ _,HA1.out,⟨rfl,rfl,rfl,Nat.le_refl _,fun _ _ _ => rfl⟩⟩
 case round =>
  obtain ⟨k,xs,hk,rfl,hg,hrow,hA,hO⟩ := hrel
  have hxl := Bf.winB_len f hg
  have hxl2 : xs.length ≤ 12 := by rw [hxl];simp;omega
  have HG := hid1 hg
  have HRow := hid1 hrow
  have HAs := hid1 hA
  have HOn := hid1 hO
  have k0 : (0 : Int) ≤ (k : Int) := by omega
  clear hg hxl hrow
  by_cases hlt : k < r.ins.length
  ·have k1' : (k : Int) < (r.ins.length : Int) := by omega
   obtain ⟨g,o,rfl,hgl,hc⟩ := HIn.out (by intro e;rw [e] at hlt;simp at hlt)
   have d0 := (hA.base.cell (p := ⟨g,o + k,none⟩) hgl).trans (hc k hlt)
   have hmem : r.ins[k] ∈ r.ins := List.getElem_mem hlt
   have HT := hid1 (HF.out r.ins[k] hmem wr hA)
   have htk : r.ins.take (k + 1) = r.ins.take k ++ [r.ins[k]] := List.take_succ_eq_append_getElem hlt
   have HSn : Hid ((f r.ins[k]).2 = 0 → Bf.winB f (r.ins.take (k + 1)) = (xs ++ [(f r.ins[k]).1],0)) := hid1 fun h0 => by
    rw [htk];exact Bf.winB_snoc f _ _ HG.out h0
   have HSt : Hid ((f r.ins[k]).2 ≠ 0 → (Bf.winB f r.ins).2 = (f r.ins[k]).2) := hid1 fun h0 => by
    have := Bf.winB_stop f (r.ins.take k) r.ins[k] (r.ins.drop (k + 1)) HG.out h0
    rwa [← List.drop_eq_getElem_cons hlt,List.take_append_drop] at this
   rw [hf] at HT
   clear hc hA hO htk hmem HIn HF HG HL hcap hnil
   generalize r.ins[k] = x at *
   obtain ⟨b,c,hbc⟩ : ∃ b c,f x = (b,c) := ⟨_,_,rfl⟩
   rw [hbc] at HT HSn HSt
   clear hbc
   simp only at HT HSn HSt
   cases c with
   | zero =>
    have HT0 : Hid (erOf es 0 = .nilIface) := hid1 rfl
    rw [HT0.out] at HT
    have HS := hid1 (HSn.out rfl)
    clear HSn HSt HT0
    go_wp2_with fail
    refine HT.out.mono ?_
    rintro e w3 ⟨rfl,hA3,hO3⟩
    have hrow3 : w3.ownsRow W1.heap.size 9 1 u6 xs.length (xs.map sv) := own_same HRow.out fun j hj => hO3.block j (own_lt HRow.out _ hj.symm).2 fun e => by have := (own_lt HRow.out _ hj.symm).1;omega
    have HA3 := hid1 hA3
    have hB3 : Only (fun j => j = L.dm) W1 w3 := HOn.out.trans hO3 fun j hj => .inl hj
    have hml : xs.length + 1 ≤ maxLen := by unfold maxLen;omega
    have hz3 := hB3.size
    have HB3 := hid1 hB3
    clear HT hA3 hO3 HRow hB3 HAs HOn
    go_wp2_with (first
     | (at_builtin;refine wpList_append_own _ rfl _ _ 22 rfl W1.heap.size 9 i0 (.string ⟨#[]⟩) 1 16 Tryz.underlying22 hti hz0 hz1 hz2 rfl (by decide) _ _ _ rfl (hrow3.alloc _) ⟨w3.heap.size,0,none⟩ 1 1 [sv b] rfl rfl (one_new _ _ _ _ (by simp)) (by simp [Value.oneCell']) hml (by omega) (by simp;omega) ?_;intro v' w4 hown' hgrow _)
     | go_in)
    have hb4 : Below W1.heap.size w3 w4 := below_appended (Below.refl _ w3) hz3 hrow3 hgrow
    exact ⟨⟨k + 1,xs ++ [b],by omega,by go_num,HS.out,by rw [List.length_append,List.map_append];exact hown',HA1.out.after HA3.out hb4,HB3.out.then hb4⟩,by simp [intOf];omega⟩
   | succ m =>
    have HS := hid1 (HSt.out (by omega))
    obtain ⟨t,u,et⟩ : ∃ t u,erOf es (m + 1) = .iface t u := ⟨_,_,rfl⟩
    rw [et] at HT
    have HP : Hid (Ending.returned (.tuple #[.string (ba []),.iface t u]) = Ending.returned (.tuple #[.string (ba y.1),erOf es y.2])) := hid1 (by
     have h1 := HY.out
     rw [if_neg (by rw [HS.out];omega),HS.out] at h1
     rw [← h1,et])
    clear HSn HSt et
    go_wp2_with fail
    refine HT.out.mono ?_
    rintro e w3 ⟨rfl,hA3,hO3⟩
    have HB3 := hid1 (HOn.out.trans hO3 fun j hj => .inl hj)
    have HA3 := hid1 hA3
    clear HT hA3 hO3
    go_wp2
    go_ret2
    exact ⟨HP.out,HA3.out,HO1.out.trans HB3.out fun j hj => .inl hj⟩
  ·have k1' : (r.ins.length : Int) ≤ (k : Int) := by omega
   have HG2 : Hid (Bf.winB f r.ins = (xs,0)) := hid1 (by
    have := HG.out
    rwa [List.take_of_length_le (by omega)] at this)
   have hxs : ∀ y ∈ xs,y.length ≤ 3000 := fun y hy => by
    have := Bf.winB_all f (fun z => z.length ≤ 2000) HL.out HG2.out y hy
    omega
   have hya : y = Af.actO r.kind r.word xs := by
    have h1 := HY.out
    rw [HG2.out,if_pos rfl] at h1
    exact h1.symm
   have HRn := hid1 (Run_any (HE.out.a.stays hA.base) r.kind r.word (by omega) u6 xs (TRow.of_owns HRow.out) hxs)
   have e1 := hO.cell k1 (by simp only;omega)
   have e2 := hO.cell k2 (by simp only;omega)
   obtain ⟨pv,cv,rfl⟩ := own_val HRow.out
   clear HG HL HE HF HIn hxs HRow hA hO
   rw [← hya] at HRn
   clear hya HY
   go_wp2_with fail
   refine HRn.out.mono ?_
   rintro e w3 ⟨rfl,g3⟩
   have HP : Hid (Asks es tb fs l uv W0 L w3 ∧ Only (fun j => j = L.dm) W w3) := hid1 ⟨HAs.out.below g3,HO1.out.trans (HOn.out.trans (Only.of g3) fun j hj => .inl hj) fun j hj => .inl hj⟩
   clear HRn
   go_wp2
   go_ret2
   exact ⟨rfl,HP.out.1,HP.out.2⟩
theorem ruF_none {l : List Ru} {uv : Nat → Value} {x : List UInt8} (h : Bf.mkr l x = none) : ruF l uv x = none := by unfold ruF;rw [h];rfl
theorem ruF_some {l : List Ru} {uv : Nat → Value} {x : List UInt8} {i : Nat} (h : Bf.mkr l x = some i) (hi : i < l.length) : ruF l uv x = some (ruV l[i] (uv i)) := by
 unfold ruF;rw [h,Option.map_some,Bf.getD_at hi]
theorem ask_file {es : Nat → Addr} {tb : Nat} {fs : Tf.Fs} {l : List Ru} {uv : Nat → Value} {W0 : World} {L : AskL} (hB : AskB es tb fs l uv W0) (x : List UInt8) (hx : x.length ≤ 1000) (hm : Bf.mkr l x = none) : AskTells es tb fs l uv W0 L x := by
 intro W h
 have hlk := h.maker x hx
 rw [ruF_none hm] at hlk
 simp only [Option.getD_none,Option.isSome_none] at hlk
 obtain ⟨B,o,hT⟩ := hB.tree
 have HA := hid1 h
 have cr := h.cr
 have ct := h.ct
 have hw : Bf.want Af.actO fs l x = ((Tf.get fs x).getD [],if (Tf.get fs x).isSome = true then 0 else 6) := by
  unfold Bf.want Bf.wantF
  rw [hm]
  cases Tf.get fs x <;> rfl
 have HF := hid1 fun V (g : Below W.heap.size W V) => wFile_calls (hT.below (below_then h.base g)) (hB.e.below (below_then h.base g)) x hx
 rw [hw]
 have gA : Below W.heap.size W (W.alloc (.cells #[.string ⟨#[]⟩,.string ⟨#[]⟩,.string ⟨#[]⟩,.slice none 0 0] 36)) := (Below.refl _ W).alloc (Nat.le_refl _) _
 have ct' := cell_below' ct gA
 have HF1 := hid1 (HF.out _ gA)
 have HP : Hid (∀ w',Below (W.alloc (.cells #[.string ⟨#[]⟩,.string ⟨#[]⟩,.string ⟨#[]⟩,.slice none 0 0] 36)).heap.size (W.alloc (.cells #[.string ⟨#[]⟩,.string ⟨#[]⟩,.string ⟨#[]⟩,.slice none 0 0] 36)) w' → Asks es tb fs l uv W0 L w' ∧ Only (fun j => j = L.dm) W w') := hid1 fun w' g => ⟨(HA.out.below gA).below g,Only.of (below_then gA g)⟩
 generalize (Tf.get fs x).getD [] = b at *
 generalize hc : (if (Tf.get fs x).isSome = true then 0 else 6 : Nat) = c at *
 obtain ⟨ev,hev⟩ : ∃ ev,erOf es c = ev := ⟨_,rfl⟩
 rw [hev] at HF1 ⊢
 show Calls Tryz.prog 163 #[.string (ba x),Ptr L.rc,Ptr L.tc,Ptr L.dc,Ptr L.kc] W _
 go_enter Tryz.func163,Tryz.ntmps163
 go_wp2_with fail
 refine HF1.out.mono ?_
 rintro e w1 ⟨rfl,g1⟩
 have HP1 := hid1 (HP.out w1 g1)
 go_wp2
 go_ret2
 exact ⟨rfl,HP1.out.1,HP1.out.2⟩
theorem ask_rule {es : Nat → Addr} {tb : Nat} {fs : Tf.Fs} {l : List Ru} {uv : Nat → Value} {W0 : World} {L : AskL} (hB : AskB es tb fs l uv W0) (x : List UInt8) (hx : x.length ≤ 1000) {i : Nat} (hm : Bf.mkr l x = some i) (hi : i < l.length) (hw : Bf.want Af.actO fs l x = Bf.wrule Af.actO (Bf.want Af.actO fs l) l[i]) (HF : Hid (∀ y ∈ l[i].ins,AskTells es tb fs l uv W0 L y)) : AskTells es tb fs l uv W0 L x := by
 intro W h
 have hlk := h.maker x hx
 rw [ruF_some hm hi] at hlk
 simp only [Option.getD_some,Option.isSome_some] at hlk
 have hms : (Bf.mkr l x).isSome = true := by rw [hm];rfl
 have HA := hid1 h
 have cr := h.cr
 have gA : Below W.heap.size W (W.alloc (.cells #[.string (ba l[i].out),.string (ba l[i].kind),.string (ba l[i].word),uv i] 36)) := (Below.refl _ W).alloc (Nat.le_refl _) _
 have hA1 := h.below gA
 have cd := hA1.cd
 have ck := hA1.ck
 obtain ⟨pu,cu,eu,-⟩ := hB.ins i hi
 have rr := row_newW W (.cells #[.string (ba l[i].out),.string (ba l[i].kind),.string (ba l[i].word),uv i] 36)
 have q0 := cell_of_row (j := 0) rr rfl
 have q1 := cell_of_row (j := 1) rr rfl
 have q2 := cell_of_row (j := 2) rr rfl
 have q3 := cell_of_row (j := 3) rr rfl
 have hz : (W.alloc (.cells #[.string (ba l[i].out),.string (ba l[i].kind),.string (ba l[i].word),uv i] 36)).heap.size = W.heap.size + 1 := by simp
 show Calls Tryz.prog 163 #[.string (ba x),Ptr L.rc,Ptr L.tc,Ptr L.dc,Ptr L.kc] W _
 rcases hA1.known x hx with hkn | hkn
 ·have gB : Below (W.heap.size + 1) (W.alloc (.cells #[.string (ba l[i].out),.string (ba l[i].kind),.string (ba l[i].word),uv i] 36)) ((W.alloc (.cells #[.string (ba l[i].out),.string (ba l[i].kind),.string (ba l[i].word),uv i] 36)).alloc (.cells #[.string ⟨#[]⟩,.nilIface] 240)) := (Below.refl _ _).alloc (by rw [hz];exact Nat.le_refl _) _
  have gB' := gB
  rw [← hz] at gB'
  have hA2 := hA1.below gB'
  have ck2 := hA2.ck
  have p0 := cell_below' q0 gB'
  have p1 := cell_below' q1 gB'
  have p2 := cell_below' q2 gB'
  have p3 := cell_below' q3 gB'
  have HR := hid1 (wRun_calls hB hA2 i hi HF)
  rw [← hw] at HR
  have HKp : Hid (∀ V,Asks es tb fs l uv W0 L V → ∃ w1,(Instr.mapUpdate 237 (.map (some L.dm)) (.string (ba x)) (ansV es (Bf.want Af.actO fs l x))).run Tryz.prog V = .ok () w1 ∧ Asks es tb fs l uv W0 L w1 ∧ Only (fun j => j = L.dm) V w1) := hid1 fun V hV => hV.keep hB.len x hx hms
  have hd1 := h.lt
  have rr2 := row_newW (W.alloc (.cells #[.string (ba l[i].out),.string (ba l[i].kind),.string (ba l[i].word),uv i] 36)) (.cells #[.string ⟨#[]⟩,.nilIface] 240)
  rw [hz] at rr2
  have HRW := hid1 rr2
  have HO2 : Hid (Only (fun j => j = L.dm) W ((W.alloc (.cells #[.string (ba l[i].out),.string (ba l[i].kind),.string (ba l[i].word),uv i] 36)).alloc (.cells #[.string ⟨#[]⟩,.nilIface] 240))) := hid1 (Only.of (below_then gA gB'))
  generalize uv i = uu at *
  subst eu
  generalize l[i] = r at *
  generalize hc0 : Bf.want Af.actO fs l x = y at *
  obtain ⟨b,c⟩ := y
  obtain ⟨ev,hev⟩ : ∃ ev,erOf es c = ev := ⟨_,rfl⟩
  have hevs : (∃ t u,ev = .iface t u) ∨ ev = .nilIface := by
   rw [← hev]
   cases c with
   | zero => exact .inr rfl
   | succ m => exact .inl ⟨_,_,rfl⟩
  simp only [ansV,hev] at HR HKp ⊢
  go_enter Tryz.func163,Tryz.ntmps163
  go_wp2_with fail
  refine HR.out.mono ?_
  rintro e w3 ⟨rfl,hA3,hO3⟩
  have h3 := (hO3.block (W.heap.size + 1) (by simp) (by omega)).trans HRW.out
  have c30 := cell_of_row (j := 0) h3 rfl
  have f30 : w3.frozen? ⟨W.heap.size + 1,0,none⟩ = false := by simp [World.frozen?,h3]
  obtain ⟨w3',hw3⟩ : ∃ w3',w3.setCell ⟨W.heap.size + 1,0,none⟩ (.string (ba b)) = w3' := ⟨_,rfl⟩
  have h3' : w3'.heap[W.heap.size + 1]? = some (.cells #[.string (ba b),.nilIface] 240) := by
   rw [← hw3,heap_setCell_same w3 (W.heap.size + 1) 0 _ _ (.string (ba b)) h3];rfl
  have c31' := cell_of_row (j := 1) h3' rfl
  have f31' : w3'.frozen? ⟨W.heap.size + 1,1,none⟩ = false := by simp [World.frozen?,h3']
  obtain ⟨w4,hw4⟩ : ∃ w4,w3'.setCell ⟨W.heap.size + 1,1,none⟩ ev = w4 := ⟨_,rfl⟩
  have h4 : w4.heap[W.heap.size + 1]? = some (.cells #[.string (ba b),ev] 240) := by
   rw [← hw4,heap_setCell_same w3' (W.heap.size + 1) 1 _ _ ev h3'];rfl
  have c40 := cell_of_row (j := 0) h4 rfl
  have c41 := cell_of_row (j := 1) h4 rfl
  have hb4 : Below (W.heap.size + 1) w3 w4 := by
   rw [← hw4,← hw3]
   exact ((Below.refl _ w3).setCell (p := ⟨W.heap.size + 1,0,none⟩) (Nat.le_refl _) _).setCell (p := ⟨W.heap.size + 1,1,none⟩) (Nat.le_refl _) _
  have hA4 := HA.out.after hA3 (hb4.mono (Nat.le_succ _))
  have cd4 := hA4.cd
  obtain ⟨w5,hr5,hA5,hO5⟩ := HKp.out w4 hA4
  have c50 := hO5.cell c40 (by simp only;omega)
  have c51 := hO5.cell c41 (by simp only;omega)
  have HP : Hid (Asks es tb fs l uv W0 L w5 ∧ Only (fun j => j = L.dm) W w5) := hid1 ⟨hA5,((HO2.out.trans hO3 fun j hj => .inl hj).then (hb4.mono (Nat.le_succ _))).trans hO5 fun j hj => .inl hj⟩
  rcases hevs with ⟨t,u,rfl⟩ | rfl
  all_goals
   go_wp2
   go_region
   go_wp2
   go_ret2
   exact ⟨rfl,HP.out.1.below (below_draws (Below.refl _ w5) 1),HP.out.2.trans (Only.of (below_draws (Below.refl _ w5) 1)) fun j hj => .inl hj⟩
 ·have gB : Below (W.alloc (.cells #[.string (ba l[i].out),.string (ba l[i].kind),.string (ba l[i].word),uv i] 36)).heap.size (W.alloc (.cells #[.string (ba l[i].out),.string (ba l[i].kind),.string (ba l[i].word),uv i] 36)) ((W.alloc (.cells #[.string (ba l[i].out),.string (ba l[i].kind),.string (ba l[i].word),uv i] 36)).alloc (.cells #[.string (ba (Bf.want Af.actO fs l x).1),erOf es (Bf.want Af.actO fs l x).2] 240)) := (Below.refl _ _).alloc (Nat.le_refl _) _
  have HP : Hid (Asks es tb fs l uv W0 L ((W.alloc (.cells #[.string (ba l[i].out),.string (ba l[i].kind),.string (ba l[i].word),uv i] 36)).alloc (.cells #[.string (ba (Bf.want Af.actO fs l x).1),erOf es (Bf.want Af.actO fs l x).2] 240)) ∧ Only (fun j => j = L.dm) W ((W.alloc (.cells #[.string (ba l[i].out),.string (ba l[i].kind),.string (ba l[i].word),uv i] 36)).alloc (.cells #[.string (ba (Bf.want Af.actO fs l x).1),erOf es (Bf.want Af.actO fs l x).2] 240))) := hid1 ⟨hA1.below gB,Only.of (below_then gA gB)⟩
  generalize uv i = uu at *
  subst eu
  generalize l[i] = r at *
  generalize hc0 : Bf.want Af.actO fs l x = y at *
  obtain ⟨b,c⟩ := y
  obtain ⟨ev,hev⟩ : ∃ ev,erOf es c = ev := ⟨_,rfl⟩
  have hevs : (∃ t u,ev = .iface t u) ∨ ev = .nilIface := by
   rw [← hev]
   cases c with
   | zero => exact .inr rfl
   | succ m => exact .inl ⟨_,_,rfl⟩
  simp only [ansV,hev] at hkn HP ⊢
  rcases hevs with ⟨t,u,rfl⟩ | rfl
  all_goals
   go_enter Tryz.func163,Tryz.ntmps163
   go_wp2
   go_region
   go_wp2
   go_ret2
   exact ⟨rfl,HP.out.1.below (below_draws (Below.refl _ _) 1),HP.out.2.trans (Only.of (below_draws (Below.refl _ _) 1)) fun j hj => .inl hj⟩
theorem ask_tells {es : Nat → Addr} {tb : Nat} {fs : Tf.Fs} {l : List Ru} {uv : Nat → Value} {W0 : World} {L : AskL} (hB : AskB es tb fs l uv W0) {o : List Nat} (ht : Ru.Topo l o) (hnd : o.Nodup) (hlt : ∀ i ∈ o,i < l.length) (x : List UInt8) (hx : x.length ≤ 1000) (hin : ∀ i,Bf.mkr l x = some i → i ∈ o) : AskTells es tb fs l uv W0 L x := by
 have hWt := Bf.want_is (act := Af.actO) (fs := fs) ht hnd hlt
 have main : ∀ n (x : List UInt8),x.length ≤ 1000 → (∀ i,Bf.mkr l x = some i → i ∈ o ∧ o.idxOf i < n) → AskTells es tb fs l uv W0 L x := by
  intro n
  induction n with
  | zero =>
   intro x hx h
   cases hm : Bf.mkr l x with
   | none => exact ask_file hB x hx hm
   | some i => have := (h i hm).2;omega
  | succ n ih =>
   intro x hx h
   cases hm : Bf.mkr l x with
   | none => exact ask_file hB x hx hm
   | some i =>
    obtain ⟨hio,hr⟩ := h i hm
    obtain ⟨hi,_⟩ := Bf.mkr_of hm
    have e := hWt.rule x i hm hio
    rw [Bf.getD_at hi] at e
    refine ask_rule hB x hx hm hi e (hid1 fun y hy => ?_)
    have hyl := (hB.small _ (List.getElem_mem hi)).ins y hy
    refine ih y (by omega) fun j hj => ?_
    obtain ⟨hjl,ej⟩ := Bf.mkr_of hj
    have hn : Ru.needs l i j = true := by
     rw [Ru.needs_eq hi hjl,ej]
     exact decide_eq_true hy
    have := Bf.rank_of ht hio hn
    exact ⟨this.1,by omega⟩
 exact main (o.length + 1) x hx fun i hi => ⟨hin i hi,by have : o.idxOf i < o.length := List.idxOf_lt_length_of_mem (hin i hi);omega⟩
end Go.Proofs.YtdljhggillgpfaaGreatDoor
