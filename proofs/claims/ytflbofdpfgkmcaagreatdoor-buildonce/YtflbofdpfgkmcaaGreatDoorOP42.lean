import Derived.Test.YtflbofdpfgkmcaaGreatDoorOP21
import Derived.Test.YtflbofdpfgkmcaaGreatDoorOP41
import Derived.Test.YtflbofdpfgkmcaaGreatDoorOP19
import Derived.Test.YtflbofdpfgkmcaaGreatDoorOP38
import Derived.Test.YtflbofdpfgkmcaaGreatDoorOP39
import Derived.Test.YtflbofdpfgkmcaaGreatDoorOP20
import Derived.Test.YtflbofdpfgkmcaaGreatDoorOP33
import Derived.WalkKit
namespace Go.Proofs.YtflbofdpfgkmcaaGreatDoor
open Go.RowKit Go.Shelf Go.Lib
namespace Bf
theorem run_cases (act : Act) (c : Ca) (d : Bd) (i : Int) : (∃ k : Nat, i = k ∧ k < d.l.length ∧ d.isReady k = true ∧ run act c d i = go act c d k) ∨ ∃ e, e ≠ 0 ∧ run act c d i = ⟨false, e, d, c⟩ := by
  unfold run
  by_cases h : i < 0 ∨ (d.l.length : Int) ≤ i
  · rw [if_pos h]
    exact .inr ⟨6, by omega, rfl⟩
  · rw [if_neg h]
    unfold runN
    split
    · exact .inr ⟨6, by omega, rfl⟩
    · split
      · exact .inr ⟨12, by omega, rfl⟩
      · split
        · exact .inr ⟨11, by omega, rfl⟩
        · rename_i h3
          exact .inl ⟨i.toNat, by omega, by omega, by simpa using h3, rfl⟩
theorem go_code (act : Act) (c : Ca) (d : Bd) (i : Nat) : (go act c d i).code = 0 := by
  unfold go
  split
  · rfl
  · split
    · rfl
    · split <;> rfl
theorem init_all {fs : Tf.Fs} {l : List Ru} (k : Nat) : (init fs l (l.map Ru.out)).st k = if k < l.length then .waits else .no := by
  have hN : Ru.Needed l (l.map Ru.out) (fun k => decide (k < l.length)) := by
    refine ⟨fun k hb => ?_, fun i k _ hn => ?_, fun P h1 _ k hk _ => h1 k ?_⟩
    · unfold Ru.base at hb
      split at hb
      · rename_i r hr
        simpa using (List.getElem?_eq_some_iff.1 hr).1
      · cases hb
    · simpa using (Ru.needs_lt hn).2
    · unfold Ru.base
      rw [List.getElem?_eq_getElem hk]
      simp only [decide_eq_true_eq]
      exact List.mem_map.2 ⟨_, List.getElem_mem hk, rfl⟩
  show (if need l (l.map Ru.out) k = true then St.waits else .no) = _
  by_cases hk : k < l.length
  · rw [if_pos hk, need_eq hN hk, if_pos (by simpa using hk)]
  · rw [if_neg hk, need_out (by omega)]
    rfl
theorem need_all {l : List Ru} {k : Nat} (hk : k < l.length) : need l (l.map Ru.out) k = true := by
  have := init_all (fs := []) (l := l) k
  rw [if_pos hk] at this
  have h2 : (if need l (l.map Ru.out) k = true then St.waits else .no) = .waits := this
  cases h : need l (l.map Ru.out) k with
  | true => rfl
  | false => rw [h] at h2; cases h2
theorem many_none {st : Nat → St} {p : St → Bool} : ∀ {n : Nat}, (∀ k, k < n → p (st k) = false) → many st p n = 0
  | 0, _ => rfl
  | n + 1, h => by
    unfold many
    rw [many_none fun k hk => h k (by omega), h n (by omega)]
    rfl
theorem rank_order {l : List Ru} {o : List Nat} (h : Ru.order l (need l (l.map Ru.out)) = some o) (i k : Nat) (hn : Ru.needs l i k = true) : o.idxOf k < o.idxOf i := by
  obtain ⟨ht, hall⟩ := Ru.order_some h
  have hi := hall i (Ru.needs_lt hn).1 (need_all (Ru.needs_lt hn).1)
  have hlt := List.idxOf_lt_length_of_mem hi
  have hg : o[o.idxOf i] = i := List.getElem_idxOf hlt
  have hm := ht _ hlt k (by rw [hg]; exact hn)
  obtain ⟨j, hj, e⟩ := List.mem_take_iff_getElem.1 hm
  have h1 : o.idxOf k ≤ j := by
    refine Nat.le_of_not_lt fun h2 => ?_
    have := List.not_of_lt_findIdx (p := (· == k)) (xs := o) h2
    rw [e] at this
    simp at this
  omega
theorem init_fit {fs : Tf.Fs} {l : List Ru} {outs : List (List UInt8)} (h : ∀ f ∈ fs, f.2.length ≤ 2000) : Fit (init fs l outs) := by
  have key : ∀ k, (init fs l outs).st k = .waits ∨ (init fs l outs).st k = .no := fun k => by
    show (if need l outs k = true then St.waits else .no) = .waits ∨ (if need l outs k = true then St.waits else .no) = .no
    split
    · exact .inl rfl
    · exact .inr rfl
  refine ⟨h, fun k => ?_, fun k => ?_⟩
  · rcases key k with e | e <;> rw [e] <;> simp [St.out]
  · rcases key k with e | e <;> rw [e] <;> simp [St.why]
def Bd.badTo (d : Bd) (i m : Nat) : Bool := (List.range m).any fun k => Ru.needs d.l i k && ((d.st k).isFailed || (d.st k).isLeft)
theorem badTo_succ (d : Bd) (i m : Nat) : d.badTo i (m + 1) = (d.badTo i m || (Ru.needs d.l i m && ((d.st m).isFailed || (d.st m).isLeft))) := by
  unfold Bd.badTo
  rw [List.range_succ, List.any_append]
  simp
theorem Good.badTo {d : Bd} (h : Good d) {i : Nat} : d.badTo i d.l.length = (d.st i).isLeft := by
  rw [Bool.eq_iff_iff]
  unfold Bd.badTo
  rw [List.any_eq_true]
  constructor
  · rintro ⟨k, _, hk⟩
    rw [Bool.and_eq_true] at hk
    exact h.bad i k hk.1 (by rw [St.bad_eq]; exact hk.2)
  · intro hl
    obtain ⟨j, h1, h2⟩ := h.left i hl
    exact ⟨j, List.mem_range.2 (Ru.needs_lt h1).2, by rw [h1, ← St.bad_eq, h2]; rfl⟩
theorem Good.ends {d : Bd} (h : Good d) (hw : d.waits = 0) {k : Nat} (hk : k < d.l.length) : ((d.st k).isDone = true ∨ (d.st k).isFailed = true ∨ (d.st k).isLeft = true) ∧ (d.st k).ran = !(d.st k).isLeft := by
  have h1 := h.needed k hk
  have h2 := many_zero hw k hk
  cases hs : d.st k with
  | no => rw [hs] at h1; cases h1
  | waits => rw [hs] at h2; cases h2
  | done s b => exact ⟨.inl rfl, rfl⟩
  | failed c => exact ⟨.inr (.inl rfl), rfl⟩
  | left => exact ⟨.inr (.inr rfl), rfl⟩
end Bf
def ZRow (w : World) (v : Value) (l : List Int) : Prop :=
  ∃ p cap, v = .slice p l.length cap ∧ (l ≠ [] → ∃ g o, p = some ⟨g, o, none⟩ ∧ g < w.heap.size ∧ ∀ j (hj : j < l.length), w.cell? ⟨g, o + j, none⟩ = some (.int .i64 l[j]))
structure OnW (es : Nat → Addr) (BAt : (Nat → Prop) → World → Value → Value → Bf.Bd → Prop) (W0 : World) (l : List Ru) (pb : Addr) (gr : Nat) (d : Bf.Bd) (S : Nat → Prop) (wr : World) : Prop where
  bat : BAt S wr (.pointer (some pb)) (.pointer none) d
  low : ∀ j, S j → W0.heap.size ≤ j
  far : ¬ S gr
  own : Own wr 0 gr l.length (fun k => (d.st k).ran)
  base : Below W0.heap.size W0 wr
  lgr : W0.heap.size ≤ gr
  good : Bf.Good d
  fit : Bf.Fit d
  l : d.l = l
theorem OnW.below {es : Nat → Addr} {act : Bf.Act} {At : (Nat → Prop) → World → Value → Nat → Cf.Ens → Prop} {BAt : (Nat → Prop) → World → Value → Value → Bf.Bd → Prop} (HB : Builds es act At BAt) {W0 : World} {l : List Ru} {pb : Addr} {gr : Nat} {d : Bf.Bd} {S : Nat → Prop} {wr w' : World} (h : OnW es BAt W0 l pb gr d S wr) (hb : Below wr.heap.size wr w') : OnW es BAt W0 l pb gr d S w' :=
  ⟨HB.same _ _ _ _ _ _ h.bat hb.size fun k hk => hb.block k (HB.lt _ _ _ _ _ h.bat k hk), h.low, h.far, h.own.below hb, below_then h.base hb, h.lgr, h.good, h.fit, h.l⟩
theorem OnW.still {es : Nat → Addr} {act : Bf.Act} {At : (Nat → Prop) → World → Value → Nat → Cf.Ens → Prop} {BAt : (Nat → Prop) → World → Value → Value → Bf.Bd → Prop} (_ : Builds es act At BAt) {W0 : World} {l : List Ru} {pb : Addr} {gr : Nat} {d : Bf.Bd} {S S' : Nat → Prop} {wr w' : World} (h : OnW es BAt W0 l pb gr d S wr) (hO : Only (fun j => S j ∨ False) wr w') (hB' : BAt S' w' (.pointer (some pb)) (.pointer none) d) (hS : ∀ j, S' j → S j ∨ wr.heap.size ≤ j) : OnW es BAt W0 l pb gr d S' w' := by
  have hgl := h.own.lt.1
  have hblk : w'.heap[gr]? = wr.heap[gr]? := hO.block gr hgl fun e => e.elim h.far id
  refine ⟨hB', fun j hj => ?_, fun e => ?_, own_same h.own fun j hj => ?_, h.base.trans (hO.below (fun j hj => hj.elim (h.low j) False.elim) h.base.size), h.lgr, h.good, h.fit, h.l⟩
  · rcases hS j hj with h1 | h1
    · exact h.low j h1
    · have := h.base.size
      omega
  · rcases hS gr e with h1 | h1
    · exact h.far h1
    · omega
  · have : j = gr := by simpa [Value.ownBlock] using hj
    rw [this]
    exact hblk
theorem OnW.ran {es : Nat → Addr} {act : Bf.Act} {At : (Nat → Prop) → World → Value → Nat → Cf.Ens → Prop} {BAt : (Nat → Prop) → World → Value → Value → Bf.Bd → Prop} (HB : Builds es act At BAt) (HA : Bf.ActFit act) {W0 : World} {l : List Ru} {pb : Addr} {gr : Nat} {d : Bf.Bd} {S S' : Nat → Prop} {wr w' : World} (h : OnW es BAt W0 l pb gr d S wr) {k : Nat} (hk : k < l.length) (hr : d.isReady k = true) (hO : Only (fun j => S j ∨ False) wr w') (hB' : BAt S' w' (.pointer (some pb)) (.pointer none) (Bf.go act none d k).d) (hS : ∀ j, S' j → S j ∨ wr.heap.size ≤ j) :
    w'.cell? ⟨gr, k, none⟩ = some (.bool false) ∧ w'.frozen? ⟨gr, k, none⟩ = false ∧ gr < w'.heap.size ∧ OnW es BAt W0 l pb gr (Bf.go act none d k).d S' (w'.setCell ⟨gr, k, none⟩ (.bool true)) := by
  have hgl := h.own.lt.1
  have hz := hO.size
  have hblk : w'.heap[gr]? = wr.heap[gr]? := hO.block gr hgl fun e => e.elim h.far id
  have hown : Own w' 0 gr l.length (fun k => (d.st k).ran) := own_same h.own fun j hj => by
    have : j = gr := by simpa [Value.ownBlock] using hj
    rw [this]
    exact hblk
  have hw := Bf.ready_waits hr
  have hc := hown.cell hk
  simp only [hw] at hc
  obtain ⟨cur, hrow⟩ := own_in (j := gr) hown rfl
  have hne : ∀ j, S' j → j ≠ gr := fun j hj e => by
    subst e
    rcases hS j hj with h1 | h1
    · exact h.far h1
    · omega
  have hkd : k < d.l.length := by rw [h.l]; exact hk
  refine ⟨hc, by simp [World.frozen?, hrow], by omega, HB.same _ _ _ _ _ _ hB' (by simp) fun j hj => Below.heap_setCell w' _ _ j (hne j hj), fun j hj => ?_, fun e => hne gr e rfl, hown.set k true fun j hj => ?_, ?_, h.lgr, h.good.go act none hr, (Bf.go_fit HA (c := none) trivial h.fit k).1, (Bf.go_less act none d k hkd hr).2.1.trans h.l⟩
  · rcases hS j hj with h1 | h1
    · exact h.low j h1
    · have := h.base.size
      omega
  · rw [Bf.go_ran act none d hr j]
  · exact (h.base.trans (hO.below (fun j hj => hj.elim (h.low j) False.elim) h.base.size)).setCell (p := ⟨gr, k, none⟩) h.lgr _
end Go.Proofs.YtflbofdpfgkmcaaGreatDoor
namespace Go.Proofs.YtflbofdpfgkmcaaGreatDoor
open Go.RowKit Go.Shelf Go.Lib Go.Maps
open Tf (Fs)
structure TErr (w : World) (es : Nat → Value) : Prop where
  bound : w.cell? ⟨6, 0, none⟩ = some (es 2)
  shape : w.cell? ⟨1, 0, none⟩ = some (es 3)
  name : w.cell? ⟨7, 0, none⟩ = some (es 4)
  none6 : w.cell? ⟨2, 0, none⟩ = some (es 6)
  exist : w.cell? ⟨9, 0, none⟩ = some (es 7)
  full : w.cell? ⟨10, 0, none⟩ = some (es 8)
  faces : ∀ k, ∃ t u, es (k + 1) = .iface t u
  nil : es 0 = .nilIface
theorem TErr.below {w w' : World} {es : Nat → Value} (h : TErr w es) (hb : Below w.heap.size w w') : TErr w' es :=
  ⟨cell_below' h.bound hb, cell_below' h.shape hb, cell_below' h.name hb, cell_below' h.none6 hb, cell_below' h.exist hb, cell_below' h.full hb, h.faces, h.nil⟩
theorem invK (key : Value) (kl : Lit) (h : keyOf Tryz.prog 9 key = some kl) : ∃ x, key = encStr x := by
  obtain ⟨x, hx, _⟩ := Maps.keyOf_str Tryz.underlying9 h
  exact ⟨x, hx⟩
theorem invV (v : Value) (y : DataW Unit × List MemPlace) (h : fileElem v = some y) : ∃ c : List UInt8, v = fileV c := by
  obtain ⟨l, rfl, _⟩ := fileElem_inv h
  exact ⟨l, rfl⟩
theorem hasP_of_at {fs : Fs} {x : List UInt8} {y : DataW Unit} (h : ∀ zd, (Tf.datum fs).atKey (.string x) zd = y) : Tf.hasP fs x = true := by
  rw [← Tf.datum_has]
  exact Maps.has_true_of_atKey h
def Clear (fs : Fs) (p : List UInt8) (left : Lit → Bool) : Prop := ∀ f ∈ fs, left (.string f.1) = false → (Tf.above f.1 p || Tf.above p f.1) = false
theorem Clear.start (fs : Fs) (p : List UInt8) : Clear fs p (Maps.has (Tf.datum fs)) := by
  intro f hf h
  rw [Tf.datum_has] at h
  have : Tf.hasP fs f.1 = true := List.any_eq_true.2 ⟨f, hf, by simp⟩
  rw [this] at h
  cases h
theorem Clear.step {fs : Fs} {p x : List UInt8} {left : Lit → Bool} (h : Clear fs p left) (hx : (Tf.above x p || Tf.above p x) = false) : Clear fs p (fun z => left z && !z.sameKey (.string x)) := by
  intro f hf hl
  by_cases e : f.1 = x
  · rw [e]; exact hx
  · refine h f hf ?_
    have : (Lit.string f.1).sameKey (.string x) = false := by simp [Lit.sameKey, e]
    simpa [this] using hl
theorem Clear.done {fs : Fs} {p : List UInt8} {left : Lit → Bool} (h : Clear fs p left) (hl : ∀ kl, left kl = false) : Tf.clash fs p = false := by
  unfold Tf.clash
  rw [List.any_eq_false]
  intro f hf
  have := h f hf (hl _)
  simpa using this
theorem clash_of {fs : Fs} {p x : List UInt8} (hx : Tf.hasP fs x = true) (h : (Tf.above x p || Tf.above p x) = true) : Tf.clash fs p = true := by
  obtain ⟨f, hf, e⟩ := List.any_eq_true.1 hx
  obtain rfl : f.1 = x := by simpa using e
  exact List.any_eq_true.2 ⟨f, hf, h⟩
theorem mayPut_name {B : Nat} {w : World} {tb : Nat} {fs : Fs} {o : Option Nat} {es : Nat → Value} (_h : TreeAt B w tb fs o) (hE : TErr w es) (p b : List UInt8) (hp : p.length ≤ 1000000) (hn : pathB p = false) :
    Calls Tryz.prog 78 #[Ptr tb, .string (ba p), .string (ba b)] w fun e w' => e = .returned (es 4) ∧ Below w.heap.size w w' := by
  obtain ⟨t, u, e4⟩ := hE.faces 3
  have hn4 := hE.name
  rw [e4] at hn4 ⊢
  have HK : Hid (Calls Tryz.prog 130 #[.string (ba p)] w fun e w' => e = .returned (.iface t u) ∧ Below w.heap.size w w') := Check_no p hp hn w t u hn4
  clear hn hE
  go_enter Tryz.func78, Tryz.ntmps78
  go_wp2_with fail
  refine HK.out.mono ?_
  rintro e w1 ⟨rfl, g1⟩
  go_wp2
  go_ret
  exact ⟨rfl, g1⟩
theorem mayPut_bound {B : Nat} {w : World} {tb : Nat} {fs : Fs} {o : Option Nat} {es : Nat → Value} (_h : TreeAt B w tb fs o) (hE : TErr w es) (p b : List UInt8) (hp : p.length ≤ 1000000) (hn : pathB p = true) (hb : 2000 < b.length) :
    Calls Tryz.prog 78 #[Ptr tb, .string (ba p), .string (ba b)] w fun e w' => e = .returned (es 2) ∧ Below w.heap.size w w' := by
  obtain ⟨t, u, e4⟩ := hE.faces 1
  have hn4 := hE.bound
  rw [e4] at hn4 ⊢
  have HK : Hid (Calls Tryz.prog 130 #[.string (ba p)] w fun e w' => e = .returned .nilIface ∧ Below w.heap.size w w') := Check_yes p hp hn w
  have z : (2000 : Int) < (b.length : Int) := by omega
  clear hn hE hb
  go_enter Tryz.func78, Tryz.ntmps78
  go_wp2_with fail
  refine HK.out.mono ?_
  rintro e w1 ⟨rfl, g1⟩
  have hc := cell_below' hn4 g1
  go_wp2
  go_ret
  exact ⟨rfl, g1⟩
set_option maxRecDepth 100000 in
theorem mayPut_there {B : Nat} {w : World} {tb : Nat} {fs : Fs} {o : Option Nat} (h : TreeAt B w tb fs o) (p b : List UInt8) (hp : p.length ≤ 1000000) (hn : pathB p = true) (hb : b.length ≤ 2000) (ht : Tf.hasP fs p = true) :
    Calls Tryz.prog 78 #[Ptr tb, .string (ba p), .string (ba b)] w fun e w' => e = .returned .nilIface ∧ Below w.heap.size w w' := by
  have HK : Hid (Calls Tryz.prog 130 #[.string (ba p)] w fun e w' => e = .returned .nilIface ∧ Below w.heap.size w w') := Check_yes p hp hn w
  have z : (b.length : Int) ≤ 2000 := by omega
  have HL : Hid (∀ w', Below w.heap.size w w' → (Instr.lookup 136 (.map o) (.string (ba p)) true).run Tryz.prog w' = .ok (.tuple #[fileV ((Tf.get fs p).getD []), .bool true]) w') := fun w' g => by
    have := look_tree (h.below g) p hp
    rwa [ht] at this
  have hc := h.cell
  generalize (Tf.get fs p).getD [] = x at *
  clear hn hb ht h
  go_enter Tryz.func78, Tryz.ntmps78
  go_wp2_with fail
  refine HK.out.mono ?_
  rintro e w1 ⟨rfl, g1⟩
  have hl := HL.out w1 g1
  have hc1 := cell_below' hc g1
  go_wp2
  go_ret
  exact ⟨rfl, g1.alloc g1.size _⟩
end Go.Proofs.YtflbofdpfgkmcaaGreatDoor
namespace Go.Proofs.YtflbofdpfgkmcaaGreatDoor
open Go.RowKit Go.Shelf Go.Lib Go.Maps
open Tf (Fs)
def newCode (fs : Fs) (p : List UInt8) : Nat := if Tf.clash fs p then 7 else if 60 ≤ fs.length then 8 else 0
set_option maxRecDepth 100000 in
set_option maxHeartbeats 4000000 in
theorem mayPut_new {B : Nat} {w : World} {tb : Nat} {fs : Fs} {bm : Nat} {es : Nat → Value} (h : TreeAt B w tb fs (some bm)) (hE : TErr w es) (hlen : ∀ f ∈ fs, f.1.length ≤ 1000000) (hfew : fs.length ≤ 1000) (p b : List UInt8) (hp : p.length ≤ 1000000) (hn : pathB p = true) (hb : b.length ≤ 2000) (ht : Tf.hasP fs p = false) :
    Calls Tryz.prog 78 #[Ptr tb, .string (ba p), .string (ba b)] w fun e w' => e = .returned (es (newCode fs p)) ∧ Below w.heap.size w w' := by
  have HK : Hid (Calls Tryz.prog 130 #[.string (ba p)] w fun e w' => e = .returned .nilIface ∧ Below w.heap.size w w') := Check_yes p hp hn w
  have z : (b.length : Int) ≤ 2000 := by omega
  have HL : Hid (∀ w', Below w.heap.size w w' → (Instr.lookup 136 (.map (some bm)) (.string (ba p)) true).run Tryz.prog w' = .ok (.tuple #[fileV ((Tf.get fs p).getD []), .bool false]) w') := fun w' g => by
    have := look_tree (h.below g) p hp
    rwa [ht] at this
  have hc := h.cell
  have hm := h.isMap.2.2
  have HA : Hid (∀ (a c : List UInt8), a.length ≤ 1000000 → ∀ W, Calls Tryz.prog 131 #[.string (ba a), .string (ba c)] W fun e w' => e = .returned (.bool (Tf.above a c)) ∧ w' = W) := fun a c ha W => above_calls a c ha W
  generalize (Tf.get fs p).getD [] = x0 at *
  clear hn hb ht h
  go_enter Tryz.func78, Tryz.ntmps78
  go_wp2_with fail
  refine HK.out.mono ?_
  rintro e w1 ⟨rfl, g1⟩
  have hl := HL.out w1 g1
  have hc1 := cell_below' hc g1
  have hm1 := (ownsMap_below hm g1).alloc (.cells #[.string (ba x0)] 140)
  have g2 := g1.alloc g1.size (.cells #[.string (ba x0)] 140)
  have hc2 := cell_below' hc g2
  clear HK HL
  go_wp2_with (first
    | (at_range; refine wpList_range_own _ rfl _ 136 rfl 9 140 klaw Tryz.underlying136 fileElem bm fs.length (Tf.datum fs) rfl hm1 ?_; intro w0 hrg0 hg0 hs0)
    | go_in)
  go_frame
  have g3 : Below w.heap.size w w0 := g2.grown hg0 (by simp; have := g1.size; omega) (fun _ e => by cases e)
  generalize hr : (w1.alloc (.cells #[.string (ba x0)] 140)).heap.size = r at *
  have hrl : w.heap.size ≤ r := by rw [← hr]; simp; have := g1.size; omega
  clear hr hl hm1 g2 hc2 hg0 hs0 hc1
  go_loopw [10] (fun _ wr => ∃ (left : Lit → Bool) (cnt : Nat), wr.ranges Tryz.prog 9 fileElem bm r fs.length (Tf.datum fs) left cnt ∧ Clear fs p left ∧ Below w.heap.size w wr)
    (fun _ wr => wr.rangeLeft bm r)
  case atStart => exact ⟨_, _, hrg0, Clear.start fs p, g3⟩
  case round =>
    obtain ⟨left, cnt, hrg, hcl, hB⟩ := hrel
    have hE' := hE.below hB
    have hc' := cell_below' hc hB
    go_wp2_with (first
      | (at_next; refine wpList_next_ranges _ rfl _ rfl 9 klaw fileElem (fun x : List UInt8 => Value.string (ba x)) (fun c : List UInt8 => fileV c) (fun key kl hk => invK key kl hk) invV bm r fs.length _ _ _ rfl hrg ?_ ?_)
      | go_in)
    · intro _ hl0
      have hclash := hcl.done hl0
      have hfull := hE'.full
      by_cases h60 : 60 ≤ fs.length
      · have e8 : newCode fs p = 8 := by simp [newCode, hclash, h60]
        obtain ⟨t, u, e4⟩ := hE.faces 7
        rw [e4] at hfull
        have z60 : (60 : Int) ≤ ((Maps.size (Tf.datum fs) : Nat) : Int) := by rw [Tf.datum_size]; omega
        go_wp2_with (first
          | (at_len; refine wpList_len_own _ rfl _ 136 rfl 9 140 Tryz.underlying136 fileElem bm fs.length (Tf.datum fs) rfl hrg.owns ?_)
          | go_in)
        go_ret
        exact ⟨congrArg Ending.returned (show Value.iface t u = es (newCode fs p) by rw [e8, e4]), hB⟩
      · have e0 : newCode fs p = 0 := by simp [newCode, hclash, h60]
        have z60 : ((Maps.size (Tf.datum fs) : Nat) : Int) < 60 := by rw [Tf.datum_size]; omega
        go_wp2_with (first
          | (at_len; refine wpList_len_own _ rfl _ 136 rfl 9 140 Tryz.underlying136 fileElem bm fs.length (Tf.datum fs) rfl hrg.owns ?_)
          | go_in)
        go_ret
        exact ⟨congrArg Ending.returned (show Value.nilIface = es (newCode fs p) by rw [e0, hE.nil]), hB⟩
    · intro x c kl yd yp w2 cnt2 hkey hlk hv hat hrg2 hlt hg2 hs2 hen
      obtain ⟨x', ex, rfl, _⟩ := Maps.keyOf_str Tryz.underlying9 hkey
      obtain rfl : x = x' := encStr_inj ex
      have hxs := hasP_of_at hat
      have hxl : x.length ≤ 1000000 := by
        obtain ⟨f, hf, e⟩ := List.any_eq_true.1 hxs
        obtain rfl : f.1 = x := by simpa using e
        exact hlen f hf
      have hB2 : Below w.heap.size w w2 := hB.grown hg2 hB.size (fun j e => by cases e; exact hrl)
      have hex := (hE.below hB2).exist
      have A1 : Hid (∀ W, Calls Tryz.prog 131 #[.string (ba x), .string (ba p)] W fun e w' => e = .returned (.bool (Tf.above x p)) ∧ w' = W) := HA.out x p hxl
      have A2 : Hid (∀ W, Calls Tryz.prog 131 #[.string (ba p), .string (ba x)] W fun e w' => e = .returned (.bool (Tf.above p x)) ∧ w' = W) := HA.out p x hp
      clear hs2 hkey hv ex
      obtain ⟨t, u, e7⟩ := hE.faces 6
      cases a1 : Tf.above x p with
      | true =>
        have hcc := clash_of (p := p) hxs (by simp [a1])
        have e8 : newCode fs p = 7 := by simp [newCode, hcc]
        rw [a1] at A1
        rw [e7] at hex
        clear A2
        go_wp2_with fail
        refine (A1.out _).mono ?_
        rintro e w' ⟨rfl, rfl⟩
        go_wp2
        go_ret
        exact ⟨congrArg Ending.returned (show Value.iface t u = es (newCode fs p) by rw [e8, e7]), hB2⟩
      | false =>
        rw [a1] at A1
        cases a2 : Tf.above p x with
        | true =>
          have hcc := clash_of (p := p) hxs (by simp [a2])
          have e8 : newCode fs p = 7 := by simp [newCode, hcc]
          rw [a2] at A2
          rw [e7] at hex
          go_wp2_with fail
          refine (A1.out _).mono ?_
          rintro e w' ⟨rfl, rfl⟩
          go_wp2_with fail
          refine (A2.out _).mono ?_
          rintro e w' ⟨rfl, rfl⟩
          go_wp2
          go_ret
          exact ⟨congrArg Ending.returned (show Value.iface t u = es (newCode fs p) by rw [e8, e7]), hB2⟩
        | false =>
          rw [a2] at A2
          go_wp2_with fail
          refine (A1.out _).mono ?_
          rintro e w' ⟨rfl, rfl⟩
          go_wp2_with fail
          refine (A2.out _).mono ?_
          rintro e w' ⟨rfl, rfl⟩
          go_wp2
          go_roundw
          case rel => exact ⟨_, cnt2, hrg2, hcl.step (by simp [a1, a2]), hB2⟩
          case measure => rw [hrg2.left_eq, hrg.left_eq]; exact hlt
end Go.Proofs.YtflbofdpfgkmcaaGreatDoor
namespace Go.Proofs.YtflbofdpfgkmcaaGreatDoor
open Go.RowKit Go.Shelf Go.Lib Go.Maps
open Tf (Fs)
theorem Put_no {B : Nat} {w : World} {tb : Nat} {fs : Fs} {o : Option Nat} (_h : TreeAt B w tb fs o) (p b : List UInt8) (t : TypeId) (u : Value)
    (HM : Hid (Calls Tryz.prog 78 #[Ptr tb, .string (ba p), .string (ba b)] w fun e w' => e = .returned (.iface t u) ∧ Below w.heap.size w w')) :
    Calls Tryz.prog 17 #[Ptr tb, .string (ba p), .string (ba b)] w fun e w' => e = .returned (.iface t u) ∧ Below w.heap.size w w' := by
  go_enter Tryz.func17, Tryz.ntmps17
  go_wp2_with fail
  refine HM.out.mono ?_
  rintro e w1 ⟨rfl, g1⟩
  go_wp2
  go_ret
  exact ⟨rfl, g1⟩
theorem eq_someMap (bm : Nat) (w : World) : (binOp BinOp.eql 136 (.map (some bm)) (.map none)).run Tryz.prog w = .ok (.bool false) w := by kernel_rfl
theorem eq_noMap (w : World) : (binOp BinOp.eql 136 (.map none) (.map none)).run Tryz.prog w = .ok (.bool true) w := by kernel_rfl
theorem below_turned {B : Nat} {a w w' : World} {bm : Nat} (h : Below B a w) (hsz : B ≤ w.heap.size) (hB : B ≤ bm) (ht : w.mapTurned w' bm) : Below B a w' :=
  h.grown ht.grown hsz (fun j e => by cases e; exact hB)
end Go.Proofs.YtflbofdpfgkmcaaGreatDoor
namespace Go.Proofs.YtflbofdpfgkmcaaGreatDoor
open Go.RowKit Go.Shelf Go.Lib Go.Maps
open Tf (Fs)
set_option maxRecDepth 100000 in
set_option maxHeartbeats 2000000 in
theorem mayPut_empty {B : Nat} {w : World} {tb : Nat} {fs : Fs} (h : TreeAt B w tb fs none) (p b : List UInt8) (hp : p.length ≤ 1000000) (hn : pathB p = true) (hb : b.length ≤ 2000) :
    Calls Tryz.prog 78 #[Ptr tb, .string (ba p), .string (ba b)] w fun e w' => e = .returned .nilIface ∧ Below w.heap.size w w' := by
  have HK : Hid (Calls Tryz.prog 130 #[.string (ba p)] w fun e w' => e = .returned .nilIface ∧ Below w.heap.size w w') := Check_yes p hp hn w
  have z : (b.length : Int) ≤ 2000 := by omega
  have hl := fun w' => look_nofile w' p hp
  have hc := h.cell
  clear hn hb h
  go_enter Tryz.func78, Tryz.ntmps78
  go_wp2_with fail
  refine HK.out.mono ?_
  rintro e w1 ⟨rfl, g1⟩
  have hc1 := cell_below' hc g1
  have g2 := g1.alloc g1.size (.cells #[.string (ba [])] 140)
  have hc2 := cell_below' hc g2
  have g3 := g2.alloc g2.size (.mapIter none 0 #[] 0)
  have hc3 := cell_below' hc g3
  have hrg := run_range_nilMap (P := Tryz.prog) (w1.alloc (.cells #[.string (ba [])] 140)) 136 9 140 Tryz.underlying136
  have hnx : ∀ ty, (Instr.next (.pointer (some ⟨(w1.alloc (.cells #[.string (ba [])] 140)).heap.size, 0, none⟩)) false ty).run Tryz.prog ((w1.alloc (.cells #[.string (ba [])] 140)).alloc (.mapIter none 0 #[] 0)) = _ := fun ty => run_next_nilMap (w1.alloc (.cells #[.string (ba [])] 140)) ty 0 0 #[]
  have hln : ∀ W ty, (Builtin.len_ #[136] ty #[.map none]).run Tryz.prog W = .ok (.int .i64 0) W := fun W ty => Maps.len_nil (w := W) Tryz.underlying136 ty
  have e1 : (w1.alloc (.cells #[.string (ba [])] 140)).heap.size = w1.heap.size + 1 := by simp
  rw [e1] at hrg hnx
  clear e1 HK
  go_wp2
  refine wp_loop_rounds 1 ?_
  rw [rounds_succ]
  go_wp2
  go_ret
  exact ⟨rfl, g3⟩
theorem putCode_new (fs : Fs) (p b : List UInt8) (hn : pathB p = true) (hb : b.length ≤ 2000) (ht : Tf.hasP fs p = false) : Tf.putCode pathB fs p b = newCode fs p := by
  unfold Tf.putCode newCode
  rw [if_neg (by simp [hn]), if_neg (by omega), if_neg (by simp [ht])]
theorem mayPut_calls {B : Nat} {w : World} {tb : Nat} {fs : Fs} {o : Option Nat} {es : Nat → Value} (h : TreeAt B w tb fs o) (hE : TErr w es) (hlen : ∀ f ∈ fs, f.1.length ≤ 1000000) (hfew : fs.length ≤ 1000) (p b : List UInt8) (hp : p.length ≤ 1000000) :
    Calls Tryz.prog 78 #[Ptr tb, .string (ba p), .string (ba b)] w fun e w' => e = .returned (es (Tf.putCode pathB fs p b)) ∧ Below w.heap.size w w' := by
  cases hn : pathB p with
  | false =>
    rw [show Tf.putCode pathB fs p b = 4 by simp [Tf.putCode, hn]]
    exact mayPut_name h hE p b hp hn
  | true =>
    rcases Nat.lt_or_ge 2000 b.length with hb | hb
    · rw [show Tf.putCode pathB fs p b = 2 by simp [Tf.putCode, hn, hb]]
      exact mayPut_bound h hE p b hp hn hb
    · cases ht : Tf.hasP fs p with
      | true =>
        rw [show Tf.putCode pathB fs p b = 0 by unfold Tf.putCode; rw [if_neg (by simp [hn]), if_neg (by omega), if_pos ht], hE.nil]
        exact mayPut_there h p b hp hn hb ht
      | false =>
        cases o with
        | none =>
          obtain rfl : fs = [] := h.isMap
          rw [show Tf.putCode pathB [] p b = 0 by rw [putCode_new _ _ _ hn hb ht]; simp [newCode, Tf.clash], hE.nil]
          exact mayPut_empty h p b hp hn hb
        | some bm =>
          rw [putCode_new _ _ _ hn hb ht]
          exact mayPut_new h hE hlen hfew p b hp hn hb ht
end Go.Proofs.YtflbofdpfgkmcaaGreatDoor
