import Derived.Test.YtdljhggillgpfaaGreatDoorSR21
import Derived.Deep.RegionLaw
set_option maxRecDepth 100000
set_option maxHeartbeats 16000000
namespace Go.Proofs.YtdljhggillgpfaaGreatDoor
open Go.RowKit Go.Shelf Go.Lib
theorem ErrV.zero {w : World} {es : Nat → Addr} {v : Value} {f : Nat × Int} (h : ErrV w es v f) (hf : f.1 = 0) : v = .nilIface := by
 rcases h with ⟨_,rfl,_⟩ | ⟨pb,m,_,_,h0,_⟩
 ·rw [hf];rfl
 ·omega
theorem ErrV.iface {w : World} {es : Nat → Addr} {v : Value} {f : Nat × Int} (h : ErrV w es v f) (hf : f.1 ≠ 0) : ∃ t u,v = .iface t u := by
 rcases h with ⟨_,rfl,_⟩ | ⟨pb,m,rfl,_⟩
 ·obtain ⟨c,n⟩ := f
  cases c with
  | zero => exact absurd rfl hf
  | succ k => exact ⟨_,_,rfl⟩
 ·exact ⟨_,_,rfl⟩
def LookTells (es : Nat → Addr) (l : List Ru) (w : World) (u ev : Value) : Prop :=
 ((Ru.fault l).1 ≠ 0 ∧ ErrV w es ev (Ru.fault l) ∧ u = .pointer none ∧ ∃ t x,ev = .iface t x) ∨
 ((Ru.fault l).1 = 0 ∧ ev = .nilIface ∧ ∃ p bm G vals,u = .pointer (some ⟨p,0,none⟩) ∧ ShAt w l p bm G vals)
theorem grlook_calls {w : World} {es : Nat → Addr} (hW : SheetW w es) (v : Value) (l : List Ru) (hrow : RRow w v l) (hn : l.length ≤ 1000) (hS : ∀ x ∈ l,x.Small) :
  Calls Tryz.prog 124 #[v] w fun e w' => ∃ u ev,e = .returned (.tuple #[u,ev]) ∧ Below w.heap.size w w' ∧ LookTells es l w' u ev := by
 have HSh := hid1 (ruSheet_calls hW l (by omega) v hrow hS)
 obtain ⟨pr,cap,rfl,hcap,hnn,hin⟩ := hrow
 have HI := hid1 hin
 have H12 : Hid (∀ i (hi : i < l.length),l[i].ins.length ≤ 12) := hid1 fun i hi => (hS _ (List.getElem_mem hi)).many
 obtain ⟨iT,hT,hT0,hT1,hT2⟩ := info_parts Tryz.infoInts
 obtain ⟨iI,hI,hI0,hI1,hI2⟩ := info_parts Tryz.infoInt
 have hml : l.length ≤ maxLen := by unfold maxLen;omega
 have hbT : iT.bytes * l.length ≤ 281474976710656 := by rw [hT2];omega
 have hmm := @run_makeMap Tryz.prog
 by_cases hf : (Ru.fault l).1 = 0
 ·have HR : Hid (∀ W u,LookTells es l W u .nilIface ↔ ∃ p bm G vals,u = .pointer (some ⟨p,0,none⟩) ∧ ShAt W l p bm G vals) := hid1 fun W u => by
   unfold LookTells
   simp [hf]
  have HZ : Hid (∀ W u,ErrV W es u (Ru.fault l) → u = .nilIface) := hid1 fun W u h => h.zero hf
  have HA := hid1 (Ru.fault_ok hf)
  go_enter Tryz.func124,Tryz.ntmps124
  go_wp2_with fail
  refine HSh.out.mono ?_
  rintro e w1 ⟨u,rfl,g1,hE⟩
  obtain rfl := HZ.out _ _ hE
  go_wp2_with (at_make;refine wpList_make_full _ rfl _ _ 198 rfl w1.heap.size 147 iT (.slice none 0 0) 1 Tryz.underlying198 hT hT0 hT1 .i64 .i64 _ _ l.length rfl rfl (by omega) (by omega) hbT hml (by simp) ?_;intro w2 hown hgrow)
  have HA0 := hid1 (LookA.make hown hgrow)
  generalize hpp : w2.heap.size = pp at *
  generalize hbm : w1.heap.size = bm at *
  go_loopw [27] (fun iv wr => ∃ k : Nat,k ≤ l.length ∧ iv = .int .i64 k ∧ LookA bm w1 wr l pp bm (bm + 1) k) (fun iv _ => l.length - (intOf iv).toNat)
  case atStart => exact ⟨0,Nat.zero_le _,rfl,HA0.out⟩
  case round =>
   obtain ⟨k,hk,rfl,hL⟩ := hrel
   have HL := hid1 hL
   have c0 : (0 : Int) ≤ (k : Int) := by omega
   by_cases hlt : k < l.length
   ·have c1 : (k : Int) < (l.length : Int) := by omega
    obtain ⟨g',o,rfl,hg,hcur⟩ := HI.out (by intro e;rw [e] at hlt;simp at hlt)
    obtain ⟨b0,b1,b2,ui,b3,bx⟩ := hcur k hlt
    have gB : Below w.heap.size w wr := below_then g1 (hbm ▸ HL.out.below)
    have d0 := cell_below' b0 gB
    have d1 := cell_below' b1 gB
    have d2 := cell_below' b2 gB
    have d3 := cell_below' b3 gB
    have e0 := HL.out.c0
    have HN := hid1 (HL.out.next hlt (.cells #[.string (ba l[k].out),.string (ba l[k].kind),.string (ba l[k].word),ui] 36))
    have hbl := (Array.getElem?_eq_some_iff.1 HL.out.map).1
    have hpl := lt_of_cell e0
    simp only at hpl
    have hup : (Instr.mapUpdate 197 (.map (some bm)) (.string (ba l[k].out)) (.int .i64 k)).run Tryz.prog (wr.alloc (.cells #[.string (ba l[k].out),.string (ba l[k].kind),.string (ba l[k].word),ui] 36)).drew = .ok () (setB (wr.alloc (.cells #[.string (ba l[k].out),.string (ba l[k].kind),.string (ba l[k].word),ui] 36)).drew bm (.map (mkF 0 (l.take k) ++ [({ key := .string (ba l[k].out),val := nv k,born := k } : MapEntry)]).toArray (k + 1))) := by
     have hA : Below wr.heap.size wr (wr.alloc (.cells #[.string (ba l[k].out),.string (ba l[k].kind),.string (ba l[k].word),ui] 36)).drew := ((Below.refl _ wr).alloc (Nat.le_refl _) _).drew
     refine run_insert 197 9 3 bm k (mkF 0 (l.take k)) (ba l[k].out) (nv k) Tryz.underlying197 Tryz.underlying9 ((hA.block bm hbl).trans HL.out.map) (mkF_none fun x hx e => ?_)
     obtain ⟨j,hj,ej⟩ := List.getElem_of_mem hx
     rw [List.getElem_take] at ej
     have hjk : j < k := by simp at hj;omega
     have := HA.out.2 j k (by omega) hlt (by rw [ej];exact e)
     omega
    obtain ⟨p3,cap3,rfl,hcap3,-,hin3⟩ := bx
    have hst : ∀ (a : Addr) (m : Mode) (W : World),Sem.run Tryz.prog (store a (.slice p3 l[k].ins.length cap3) m) W = stored Tryz.prog W a (.slice p3 l[k].ins.length cap3) m := fun a m W => run_store _ W a _ m rfl
    generalize l[k] = y at *
    go_wp2
    go_region
    go_wp2
    exact ⟨⟨k + 1,by omega,by go_num,HN.out⟩,by simp [intOf];omega⟩
   ·have c1 : (l.length : Int) ≤ (k : Int) := by omega
    obtain rfl : k = l.length := by omega
    have HB0 := hid1 HL.out.start
    generalize wr = w3 at *
    go_wp2
    go_loopw [42] (fun iv wx => ∃ (i : Nat) (vals : Nat → Value),i ≤ l.length ∧ iv = .int .i64 i ∧ LookB bm w1 wx l pp bm (bm + 1) i vals) (fun iv _ => l.length - (intOf iv).toNat)
    case atStart => exact ⟨0,_,Nat.zero_le _,rfl,HB0.out⟩
    case round =>
     obtain ⟨i,vals,hi,rfl,hL⟩ := hrel
     have HL := hid1 hL
     have i0 : (0 : Int) ≤ (i : Int) := by omega
     by_cases hilt : i < l.length
     ·have i1 : (i : Int) < (l.length : Int) := by omega
      obtain ⟨g',o,rfl,hg,hcur⟩ := HI.out (by intro e;rw [e] at hilt;simp at hilt)
      obtain ⟨b0,b1,b2,ui,b3,bx⟩ := hcur i hilt
      have gB : Below w.heap.size w wr := below_then g1 (hbm ▸ HL.out.below)
      have d0 := cell_below' b0 gB
      have d1 := cell_below' b1 gB
      have d2 := cell_below' b2 gB
      have d3 := cell_below' b3 gB
      have h12 := H12.out i hilt
      obtain ⟨p3,cap3,rfl,hcap3,-,hin3⟩ := bx
      have HI3 := hid1 hin3
      have HC0 := hid1 (HL.out.enter (.cells #[.string (ba l[i].out),.string (ba l[i].kind),.string (ba l[i].word),.slice p3 l[i].ins.length cap3] 36))
      have hst : ∀ (a : Addr) (m : Mode) (W : World),Sem.run Tryz.prog (store a (.slice p3 l[i].ins.length cap3) m) W = stored Tryz.prog W a (.slice p3 l[i].ins.length cap3) m := fun a m W => run_store _ W a _ m rfl
      generalize wr = w4 at *
      obtain ⟨Bk,hBk⟩ : ∃ Bk,Bk = (w4.alloc (.cells #[.string (ba l[i].out),.string (ba l[i].kind),.string (ba l[i].word),.slice p3 l[i].ins.length cap3] 36)).heap.size := ⟨_,rfl⟩
      rw [← hBk] at HC0
      go_wp2
      go_loopw [50] (fun kv wx => ∃ (m : Nat) (vi : Value),m ≤ l[i].ins.length ∧ kv = .int .i64 m ∧ LookC bm Bk w1 wx l pp bm (bm + 1) i vals (Ru.needL l (l[i].ins.take m)) vi) (fun kv _ => l[i].ins.length - (intOf kv).toNat)
      case atStart => exact ⟨0,_,Nat.zero_le _,rfl,HC0.out⟩
      case round =>
       obtain ⟨m,vi,hm,rfl,hC⟩ := hrel
       have HC := hid1 hC
       have m0 : (0 : Int) ≤ (m : Int) := by omega
       by_cases hmlt : m < l[i].ins.length
       ·have m1 : (m : Int) < (l[i].ins.length : Int) := by omega
        obtain ⟨g3,o3,rfl,hg3,hc3⟩ := HI3.out (by intro e;rw [e] at hmlt;simp at hmlt)
        have gB : Below w.heap.size w wr := below_then g1 (hbm ▸ HC.out.below)
        have e3 := (gB.cell (p := ⟨g3,o3 + m,none⟩) hg3).trans (hc3 m hmlt)
        have HS := hid1 (Ru.needL_succ l hmlt)
        have hlk := look_mk HC.out.map l[i].ins[m]
        have e0 := HC.out.c0
        have hrl : (Ru.needL l (l[i].ins.take m)).length ≤ 12 := by
         have := Ru.needL_len l (l[i].ins.take m)
         simp at this
         omega
        generalize hs : l[i].ins[m] = s at *
        cases hmk : Ru.mkr l s with
        | none =>
         rw [hmk] at hlk HS
         simp only [Option.getD_none,Option.isSome_none,Option.toList_none,List.append_nil] at hlk HS
         go_wp2
         exact ⟨⟨m + 1,vi,by omega,by go_num,by rw [HS.out];exact HC.out⟩,by simp [intOf];omega⟩
        | some j =>
         rw [hmk] at hlk HS
         simp only [Option.getD_some,Option.isSome_some,Option.toList_some] at hlk HS
         obtain ⟨a0,f0⟩ := HC.out.at hilt
         have e1 := HC.out.c1
         have hrw : wr.drew.ownsRow Bk 3 1 vi (Ru.needL l (l[i].ins.take m)).length ((Ru.needL l (l[i].ins.take m)).map nv) := HC.out.mine
         have hbz := HC.out.size
         have hltG := HC.out.ltG
         have hltP := HC.out.ltp
         have hG1 : bm + 1 < wr.heap.size := by omega
         have hP1 : pp < wr.heap.size := by omega
         have HAf := hid1 fun (W1 w5 : World) (hb : Below wr.heap.size wr W1) (hgr : W1.grownBy w5 vi.ownBlock) => HC.out.after hilt hb hgr
         have HMo := hid1 fun (W1 w5 : World) (v5 : Value) (hb : Below wr.heap.size wr W1) (hgr : W1.grownBy w5 vi.ownBlock) (ho : w5.ownsRow Bk 3 1 v5 ((Ru.needL l (l[i].ins.take m)).length + 1) ((Ru.needL l (l[i].ins.take m)).map nv ++ [nv j])) (hne : v5.ownBlock ≠ some (bm + 1)) => HC.out.more hb hgr ho hne
         rw [← HS.out] at HMo
         obtain ⟨pv,cv,rfl,-⟩ := NRow.of_owns HC.out.mine
         have hml2 : (Ru.needL l (l[i].ins.take m)).length + 1 ≤ maxLen := by unfold maxLen;omega
         go_wp2
         go_region_law (refine step_append_lies _ rfl (.tmp 75) (.tmp 77) 147 rfl Bk 3 iI (.int .i64 0) 1 8 Tryz.underlying147 hI hI0 hI1 hI2 rfl (by decide) _ _ _ rfl (hrw.alloc _) ⟨wr.heap.size,0,none⟩ 1 1 [nv j] rfl rfl (one_new _ _ _ _ (by simp)) (by simp [Value.oneCell']) (by decide) hml2 (by omega) (by simp;omega) _ rfl ?_;intro g5 cap5 w5 hown5 hgrow5 hat5 hlt5;(obtain ⟨q1,q2,q3⟩ := HAf.out _ _ (by exact ((Below.refl _ wr).alloc (Nat.le_refl _) _).drew) hgrow5);(have HM5 := hid1 (HMo.out _ _ _ (by exact ((Below.refl _ wr).alloc (Nat.le_refl _) _).drew) hgrow5 hown5 (by have := (own_lt hown5 g5 rfl).1;simp [Value.ownBlock];omega))))
         all_goals
          go_wp2
          exact ⟨⟨m + 1,_,by omega,by go_num,HM5.out⟩,by simp [intOf];omega⟩
       ·have m1 : (l[i].ins.length : Int) ≤ (m : Int) := by omega
        obtain rfl : m = l[i].ins.length := by omega
        have HQ : Hid (LookB bm w1 wr l pp bm (bm + 1) (i + 1) (fun j => if j = i then vi else vals j)) := hid1 (by
         have := HC.out
         rw [List.take_length] at this
         exact this.leave hilt)
        go_wp2
        exact ⟨⟨i + 1,_,by omega,by go_num,HQ.out⟩,by simp [intOf];omega⟩
     ·have i1 : (l.length : Int) ≤ (i : Int) := by omega
      obtain rfl : i = l.length := by omega
      have HQ := hid1 HL.out.done
      have gB : Below w.heap.size w wr := below_then g1 (hbm ▸ HL.out.below)
      go_wp2
      go_ret2
      exact ⟨_,_,rfl,gB,(HR.out _ _).2 ⟨_,_,_,_,rfl,HQ.out⟩⟩
 ·have HZ : Hid (∀ W u,ErrV W es u (Ru.fault l) → ∃ t x,u = .iface t x) := hid1 fun W u h => h.iface hf
  have HR : Hid (∀ W t x,ErrV W es (.iface t x) (Ru.fault l) → LookTells es l W (.pointer none) (.iface t x)) := hid1 fun W t x h => .inl ⟨hf,h,rfl,_,_,rfl⟩
  go_enter Tryz.func124,Tryz.ntmps124
  go_wp2_with fail
  refine HSh.out.mono ?_
  rintro e w1 ⟨u,rfl,g1,hE⟩
  obtain ⟨t,x,rfl⟩ := HZ.out _ _ hE
  have HE := hid1 (HR.out _ _ _ hE)
  go_wp2
  go_ret2
  exact ⟨_,_,rfl,g1,HE.out⟩
namespace Ru
inductive Walk (l : List Ru) : Nat → Nat → Nat → Prop
 | zero (i : Nat) : Walk l i i 0
 | step {i j k t : Nat} : needs l i j = true → Walk l j k t → Walk l i k (t + 1)
theorem Walk.inv {l : List Ru} {i k t : Nat} (h : Walk l i k (t + 1)) : ∃ j,needs l i j = true ∧ Walk l j k t := by
 cases h with
 | step hn hw => exact ⟨_,hn,hw⟩
theorem pigeon {n : Nat} {g : Nat → Nat} (h : ∀ t,t ≤ n → g t < n) : ∃ a b,a < b ∧ b ≤ n ∧ g a = g b := by
 refine Classical.byContradiction fun hno => ?_
 have hd : ((List.range (n + 1)).map g).Nodup := by
  rw [List.nodup_iff_pairwise_ne,List.pairwise_map]
  refine List.Pairwise.imp_of_mem ?_ List.pairwise_lt_range
  intro a b _ hb hab e
  exact hno ⟨a,b,hab,by have := List.mem_range.1 hb;omega,e⟩
 have := len_le (n := n) hd (fun i hi => by
  obtain ⟨t,ht,rfl⟩ := List.mem_map.1 hi
  exact h t (by have := List.mem_range.1 ht;omega))
 simp at this
 omega
def Topo (l : List Ru) (o : List Nat) : Prop := ∀ j (hj : j < o.length) k,needs l o[j] k = true → k ∈ o.take j
theorem orderF_some {l : List Ru} {some : Nat → Bool} : ∀ {f : Nat} {o r : List Nat},orderF l some f o = Option.some r → Topo l o → Topo l r ∧ ∀ i,i < l.length → some i = true → i ∈ r
 | 0,_,_,h,_ => by cases h
 | f + 1,o,r,h,ht => by
  unfold orderF at h
  split at h
  ·split at h
   ·cases h
   ·rename_i i hi
    refine orderF_some h ?_
    have hm := (nextTo_some hi).2
    simp only [may,Bool.and_eq_true,freeTo,List.all_eq_true,Bool.or_eq_true,Bool.not_eq_true'] at hm
    intro j hj k hn
    rw [List.length_append,List.length_singleton] at hj
    by_cases e : j < o.length
    ·rw [List.getElem_append_left e] at hn
     rw [List.take_append_of_le_length (by omega)]
     exact ht j e k hn
    ·obtain rfl : j = o.length := by omega
     rw [List.getElem_append_right (Nat.le_refl _)] at hn
     simp only [Nat.sub_self,List.getElem_cons_zero] at hn
     rw [List.take_append_of_le_length (Nat.le_refl _),List.take_length]
     rcases hm.2 k (List.mem_range.2 (needs_lt hn).2) with h1 | h1
     ·simpa [isIn] using h1
     ·rw [hn] at h1
      cases h1
  ·rename_i hl
   cases h
   refine ⟨ht,fun i hi hs => ?_⟩
   simp only [leftTo,List.any_eq_true,Bool.and_eq_true,Bool.not_eq_true'] at hl
   refine Classical.byContradiction fun hno => hl ⟨i,List.mem_range.2 hi,hs,?_⟩
   simpa [isIn] using hno
theorem order_some {l : List Ru} {some : Nat → Bool} {o : List Nat} (h : order l some = Option.some o) : Topo l o ∧ ∀ i,i < l.length → some i = true → i ∈ o :=
 orderF_some h fun j hj => by simp at hj
theorem orderF_nodup {l : List Ru} {some : Nat → Bool} : ∀ {f : Nat} {o r : List Nat},orderF l some f o = Option.some r → o.Nodup → (∀ i ∈ o,i < l.length) → r.Nodup ∧ ∀ i ∈ r,i < l.length
 | 0,_,_,h,_,_ => by cases h
 | f + 1,o,r,h,hd,hb => by
  unfold orderF at h
  split at h
  ·split at h
   ·cases h
   ·rename_i i hi
    obtain ⟨hil,hm⟩ := nextTo_some hi
    have hio : i ∉ o := by
     simp only [may,Bool.and_eq_true,Bool.not_eq_true',isIn,decide_eq_false_iff_not] at hm
     exact hm.1.2
    refine orderF_nodup h ?_ ?_
    ·rw [List.nodup_append]
     exact ⟨hd,by simp,fun a ha b hb => by
      rw [List.mem_singleton.1 hb]
      rintro rfl
      exact hio ha⟩
    ·intro j hj
     rcases List.mem_append.1 hj with h1 | h1
     ·exact hb j h1
     ·rw [List.mem_singleton.1 h1];exact hil
  ·cases h
   exact ⟨hd,hb⟩
theorem order_nodup {l : List Ru} {some : Nat → Bool} {o : List Nat} (h : order l some = Option.some o) : o.Nodup ∧ ∀ i ∈ o,i < l.length :=
 orderF_nodup h List.nodup_nil (by simp)
theorem nodup_sub {α : Type} [DecidableEq α] {a : List α} : ∀ {b : List α},a.Nodup → a ⊆ b → a.length ≤ b.length := by
 induction a with
 | nil => intro b _ _;simp
 | cons x r ih =>
  intro b hd hs
  obtain ⟨hx,hr⟩ := List.nodup_cons.1 hd
  have hxb : x ∈ b := hs (by simp)
  have := ih (b := b.erase x) hr fun y hy => by
   have hne : y ≠ x := fun e => hx (e ▸ hy)
   exact (List.mem_erase_of_ne hne).2 (hs (List.mem_cons_of_mem _ hy))
  rw [List.length_erase_of_mem hxb] at this
  have hp := List.length_pos_of_mem hxb
  simp
  omega
theorem order_len {l : List Ru} {o : List Nat} (h : order l (fun _ => true) = Option.some o) : o.length = l.length := by
 obtain ⟨h1,h2⟩ := order_nodup h
 refine Nat.le_antisymm (len_le h1 h2) ?_
 have := nodup_sub (a := List.range l.length) (b := o) List.nodup_range fun i hi => (order_some h).2 i (List.mem_range.1 hi) rfl
 simpa using this
theorem Topo.none {l : List Ru} {o : List Nat} (h : Topo l o) (i t : Nat) (hi : i ∈ o) : ¬ Walk l i i (t + 1) := by
 have key : ∀ t i j (hj : j < o.length),o[j] = i → ∀ k,Walk l i k (t + 1) → k ∈ o.take j := by
  intro t
  induction t with
  | zero =>
   rintro i j hj rfl k hw
   obtain ⟨m,hn,hw'⟩ := hw.inv
   cases hw'
   exact h j hj _ hn
  | succ t ih =>
   rintro i j hj rfl k hw
   obtain ⟨m,hn,hw'⟩ := hw.inv
   have hm := h j hj m hn
   obtain ⟨q,hq,e⟩ := List.getElem_of_mem hm
   rw [List.getElem_take] at e
   have hqj : q < j := by simp at hq;omega
   exact (List.take_sublist_take_left (Nat.le_of_lt hqj)).subset (ih m q (by omega) e k hw')
 -- the first place of i
 intro hw
 have : ∀ m j (hj : j < o.length),j ≤ m → o[j] = i → False := by
  intro m
  induction m with
  | zero =>
   intro j hj hm e
   obtain rfl : j = 0 := by omega
   have := key t i 0 hj e i hw
   simp at this
  | succ m ih =>
   intro j hj hm e
   have h1 := key t i j hj e i hw
   obtain ⟨q,hq,e'⟩ := List.getElem_of_mem h1
   rw [List.getElem_take] at e'
   exact ih q (by simp at hq;omega) (by simp at hq;omega) e'
 obtain ⟨j,hj,e⟩ := List.getElem_of_mem hi
 exact this j j hj (Nat.le_refl _) e
end Ru
end Go.Proofs.YtdljhggillgpfaaGreatDoor
namespace Go.Proofs.YtdljhggillgpfaaGreatDoor
open Go.RowKit Go.Shelf Go.Lib
def NoRow (v : Value) : Prop := ∃ p cap,v = .slice p 0 cap
abbrev allB1 : Nat → Bool := fun _ => true
def OrderTells (es : Nat → Addr) (l : List Ru) (w : World) (u ev : Value) : Prop :=
 ((Ru.fault l).1 ≠ 0 ∧ ErrV w es ev (Ru.fault l) ∧ NoRow u) ∨
 ((Ru.fault l).1 = 0 ∧ Ru.order l allB1 = none ∧ ev = erOf es 9 ∧ NoRow u) ∨
 ((Ru.fault l).1 = 0 ∧ ∃ o,Ru.order l allB1 = some o ∧ ev = .nilIface ∧ NIRow w u o)
def NeedsTells (es : Nat → Addr) (l : List Ru) (outs : List (List UInt8)) (w : World) (u ev : Value) : Prop :=
 ((Ru.fault l).1 ≠ 0 ∧ ErrV w es ev (Ru.fault l) ∧ NoRow u) ∨
 ((Ru.fault l).1 = 0 ∧ ∃ k,∃ hk : k < outs.length,(∀ x ∈ l,x.out ≠ outs[k]) ∧ (∀ j (hj : j < outs.length),j < k → ∃ x ∈ l,x.out = outs[j]) ∧ ErrV w es ev (6,(k : Int)) ∧ NoRow u) ∨
 ((Ru.fault l).1 = 0 ∧ (∀ j (hj : j < outs.length),∃ x ∈ l,x.out = outs[j]) ∧ ev = .nilIface ∧ ∃ f,Ru.Needed l outs f ∧ NIRow w u ((List.range l.length).filter f))
def LeavesTells (es : Nat → Addr) (l : List Ru) (w : World) (u ev : Value) : Prop :=
 ((Ru.fault l).1 ≠ 0 ∧ ErrV w es ev (Ru.fault l) ∧ NoRow u) ∨
 ((Ru.fault l).1 = 0 ∧ ev = .nilIface ∧ ∃ r,Ru.Leaves l r ∧ IRow w u r)
structure GraphW (w : World) (es : Nat → Addr) : Prop where
 s : SheetW w es
 cyc : w.cell? ⟨8,0,none⟩ = some (erOf es 9)
theorem GraphW.below {w w' : World} {es : Nat → Addr} (h : GraphW w es) (hb : Below w.heap.size w w') : GraphW w' es := ⟨h.s.below hb,cell_below' h.cyc hb⟩
theorem ErrV.some {w : World} {es : Nat → Addr} {v : Value} {f : Nat × Int} (h : ErrV w es v f) (hf : f.1 ≠ 0) : ∃ t u,v = .iface t u := by
 rcases h with ⟨_,rfl,_⟩ | ⟨pb,m,rfl,_⟩
 ·obtain ⟨c,n⟩ := f
  cases c with
  | zero => exact absurd rfl hf
  | succ k => exact ⟨_,_,rfl⟩
 ·exact ⟨_,_,rfl⟩
end Go.Proofs.YtdljhggillgpfaaGreatDoor
namespace Go.Proofs.YtdljhggillgpfaaGreatDoor
open Go.RowKit Go.Shelf Go.Lib
theorem mk_get {l : List Ru} {s : List UInt8} (h : (Ru.mkr l s).isSome = true) : ∃ z ∈ l,z.out = s := by
 cases hm : Ru.mkr l s with
 | none => rw [hm] at h;cases h
 | some k =>
  obtain ⟨hk,h1,_⟩ := Ru.mkr_some hm
  exact ⟨_,List.getElem_mem hk,h1⟩
def NewRow (B : Nat) (u : Value) : Prop := ∀ p n c,u = .slice (some p) n c → B ≤ p.block
def CapRow (u : Value) : Prop := ∀ p n c,u = .slice (some p) n c → n ≤ c
theorem gLeaves_cap {w : World} {es : Nat → Addr} (hW : SheetW w es) (v : Value) (l : List Ru) (hrow : RRow w v l) (hn : l.length ≤ 1000) (hS : ∀ x ∈ l,x.Small) :
  Calls Tryz.prog 85 #[v] w fun e w' => ∃ u ev,e = .returned (.tuple #[u,ev]) ∧ Below w.heap.size w w' ∧ LeavesTells es l w' u ev ∧ NewRow w.heap.size u ∧ CapRow u := by
 have HL := hid1 (grlook_calls hW v l hrow hn hS)
 obtain ⟨pr,cap,rfl,hcap,hnn,hin⟩ := hrow
 have HI := hid1 hin
 have H12 : Hid (∀ i (hi : i < l.length),l[i].ins.length ≤ 12) := hid1 fun i hi => (hS _ (List.getElem_mem hi)).many
 clear hin hnn hS hW
 obtain ⟨i0,hi,hz0,hz1,hz2⟩ := info_parts Tryz.infoStr
 have zn : (l.length : Int) ≤ 1000 := by omega
 go_enter Tryz.func85,Tryz.ntmps85
 go_wp2_with fail
 refine HL.out.mono ?_
 rintro e w1 ⟨u,ev,rfl,g1,hT⟩
 rcases hT with ⟨hf,hE,rfl,t,x,rfl⟩ | ⟨hf,rfl,p,bm,G,vals,rfl,hSh⟩
 ·have HE := hid1 hE
  have HZ := hid1 hf
  clear HL hE hf
  go_wp2
  go_ret2
  exact ⟨_,_,rfl,g1,.inl ⟨HZ.out,HE.out,_,_,rfl⟩,(fun p n c e => by cases e),fun p n c e => by cases e⟩
 ·have HZ := hid1 hf
  have HSh := hid1 hSh
  have HF := hid1 (LeafU.first l)
  have hc0 := hSh.c0
  clear HL hf hSh
  go_wp2
  go_loopw [6,23] (fun ov iv wr => ∃ (i : Nat) (r : List (List UInt8)),i ≤ l.length ∧ iv = .int .i64 i ∧ wr.ownsRow w1.heap.size 9 1 ov r.length (r.map sv) ∧ LeafU l i 0 r ∧ Below w1.heap.size w1 wr) (fun _ iv _ => l.length - (intOf iv).toNat)
  case atStart => exact ⟨0,[],Nat.zero_le _,rfl,World.ownsRow_nil _ _ _ _,HF.out,Below.refl _ _⟩
  case round =>
   obtain ⟨i,r,hil,rfl,hO,hU,B⟩ := hrel
   have HO := hid1 hO
   have HU := hid1 hU
   clear hO hU HF
   have c0 : (0 : Int) ≤ (i : Int) := by omega
   by_cases hlt : i < l.length
   ·have c1 : (i : Int) < (l.length : Int) := by omega
    obtain ⟨g',o,rfl,hg,hcur⟩ := HI.out (by intro e;rw [e] at hlt;simp at hlt)
    obtain ⟨b0,b1,b2,ui,b3,bx⟩ := hcur i hlt
    have gB := below_then g1 B
    have d0 := cell_below' b0 gB
    have d1 := cell_below' b1 gB
    have d2 := cell_below' b2 gB
    have d3 := cell_below' b3 gB
    have h12 := H12.out i hlt
    have z12 : (l[i].ins.length : Int) ≤ 12 := by omega
    obtain ⟨p3,cap3,rfl,hcap3,-,hin3⟩ := bx
    have HI3 := hid1 hin3
    have hst : ∀ (a : Addr) (m : Mode) (W : World),Sem.run Tryz.prog (store a (.slice p3 l[i].ins.length cap3) m) W = stored Tryz.prog W a (.slice p3 l[i].ins.length cap3) m := fun a m W => run_store _ W a _ m rfl
    clear hcur hin3 b0 b1 b2 b3
    generalize wr = w2 at *
    have B3 := B.alloc B.size (.cells #[.string (ba l[i].out),.string (ba l[i].kind),.string (ba l[i].word),.slice p3 l[i].ins.length cap3] 36)
    have HO3 := hid1 (HO.out.alloc (.cells #[.string (ba l[i].out),.string (ba l[i].kind),.string (ba l[i].word),.slice p3 l[i].ins.length cap3] 36))
    go_wp2
    go_loopw [6,30] (fun ov kv wx => ∃ (k : Nat) (r : List (List UInt8)),k ≤ l[i].ins.length ∧ kv = .int .i64 k ∧ wx.ownsRow w1.heap.size 9 1 ov r.length (r.map sv) ∧ LeafU l i k r ∧ Below w1.heap.size w1 wx) (fun _ kv _ => l[i].ins.length - (intOf kv).toNat)
    case atStart => exact ⟨0,r,Nat.zero_le _,rfl,HO3.out,HU.out,B3⟩
    case round =>
     clear HO HU HO3 B3 B gB d0 d1 d2 d3 r hst
     obtain ⟨k,r,hkl,rfl,hO,hU,B⟩ := hrel
     have HO := hid1 hO
     have HU := hid1 hU
     clear hO hU
     have k0 : (0 : Int) ≤ (k : Int) := by omega
     by_cases hklt : k < l[i].ins.length
     ·have k1 : (k : Int) < (l[i].ins.length : Int) := by omega
      obtain ⟨g3,o3,rfl,hg3,hc3⟩ := HI3.out (by intro e;rw [e] at hklt;simp at hklt)
      have gB := below_then g1 B
      have e3 := (gB.cell (p := ⟨g3,o3 + k,none⟩) hg3).trans (hc3 k hklt)
      have HMade := hid1 (HU.out.made hlt hklt)
      have HMore := hid1 (HU.out.more hlt hklt)
      have hfew := HU.out.few
      have hcm := cell_below' hc0 B
      have hlk := look_mk (HSh.out.below B).map l[i].ins[k]
      generalize hs : l[i].ins[k] = s at *
      cases hm : Ru.mkr l s with
      | some j =>
       have HQ := hid1 (HMade.out (mk_get (by rw [hm];rfl)))
       rw [hm] at hlk
       simp only [Option.getD_some,Option.isSome_some] at hlk
       clear HMade HMore hm hfew hc3 HI3
       go_wp2
       exact ⟨⟨k + 1,r,by omega,by go_num,HO.out,HQ.out,B⟩,by simp [intOf];omega⟩
      | none =>
       have HQ := hid1 (HMore.out (Ru.mkr_none hm))
       rw [hm] at hlk
       simp only [Option.getD_none,Option.isSome_none] at hlk
       have hrl : r.length ≤ 12012 := by
        have : i * 12 ≤ 1000 * 12 := Nat.mul_le_mul (by omega) (Nat.le_refl _)
        omega
       have hrow := HO.out
       have hml : r.length + 1 ≤ maxLen := by unfold maxLen;omega
       have hbz := B.size
       clear HMade HMore hm hfew hc3 HI3
       go_wp2_with (at_builtin;refine wpList_append_own _ rfl _ _ 22 rfl w1.heap.size 9 i0 (.string ⟨#[]⟩) 1 16 Tryz.underlying22 hi hz0 hz1 hz2 rfl (by decide) _ _ _ rfl (hrow.alloc _) ⟨wr.heap.size,0,none⟩ 1 1 [.string (ba s)] rfl rfl (cell_one_new _ _ _) (by simp [Value.oneCell']) hml (by omega) (by simp;omega) ?_;intro v' w4 hown' hgrow _)
       exact ⟨⟨k + 1,r ++ [s],by omega,by go_num,by simpa using hown',HQ.out,below_appended B hbz hrow hgrow⟩,by simp [intOf];omega⟩
     ·have k1 : (l[i].ins.length : Int) ≤ (k : Int) := by omega
      obtain rfl : k = l[i].ins.length := by omega
      have HQ := hid1 (HU.out.nextRule hlt h12)
      clear HU HI3
      go_wp2
      exact ⟨⟨i + 1,r,by omega,by go_num,HO.out,HQ.out,B⟩,by simp [intOf];omega⟩
   ·have c1 : (l.length : Int) ≤ (i : Int) := by omega
    obtain rfl : i = l.length := by omega
    have HQ := hid1 HU.out.done
    have hfew := HU.out.few
    have hrl : r.length ≤ 12000 := by
     have : l.length * 12 ≤ 1000 * 12 := Nat.mul_le_mul (by omega) (Nat.le_refl _)
     omega
    have HS := hid1 (sort_calls (HRow.of_owns HO.out) B.size (by omega))
    clear HU hfew HI
    go_wp2_with fail
    refine HS.out.mono ?_
    rintro e w3 ⟨rfl,h3,g3⟩
    have G3 := B.trans g3
    have HC := hid1 (compact_calls h3 G3.size (by rw [Af.srt_len];omega))
    clear HS h3 g3
    go_wp2_with fail
    refine HC.out.mono ?_
    rintro e w4 ⟨v4,rfl,h4,g4⟩
    have HH := hid1 h4.ir
    have HNw : Hid (NewRow w.heap.size v4 ∧ CapRow v4) := hid1 (by
     have hz := g1.size
     rcases h4 with ⟨_,rfl⟩ | ⟨g,cap,rfl,h5,_,h6,_⟩
     ·exact ⟨(fun p n c e => by cases e),fun p n c e => by cases e⟩
     ·exact ⟨(fun p n c e => by cases e;exact Nat.le_trans hz h5),fun p n c e => by cases e;exact h6⟩)
    have G4 := below_then g1 (G3.trans g4)
    clear HC h4 g4
    go_wp2
    go_ret2
    exact ⟨_,_,rfl,G4,.inr ⟨HZ.out,rfl,_,HQ.out,HH.out⟩,HNw.out⟩
end Go.Proofs.YtdljhggillgpfaaGreatDoor
namespace Go.Proofs.YtdljhggillgpfaaGreatDoor
open Go.RowKit Go.Shelf Go.Lib
namespace Sc
def words : List (List UInt8) := [[116,101,120,116],[98,111,117,110,100],[115,104,97,112,101],[110,97,109,101],[107,105,110,100],[110,111,110,101],[101,120,105,115,116],[102,117,108,108],[99,121,99,108,101],[108,111,110,103],[116,117,114,110],[100,111,110,101]]
def errT (c : Nat) : List UInt8 := [107,105,108,110,102,105,101,108,100,58,32] ++ words.getD (c - 1) []
abbrev An := List UInt8 × Nat
def told (a : An) : List UInt8 := if a.2 = 0 then a.1 else errT a.2
def ok : List UInt8 := [111,107]
def inLine (s : List UInt8) : List UInt8 := Lib.replaceAll s [10] [59]
def row (l : List (List UInt8)) : List UInt8 := if l = [] then [110,111,116,104,105,110,103] else Lib.join l [32]
end Sc
structure ErTx (w : World) (es : Nat → Addr) : Prop where
 cell : ∀ k,k < 12 → ∃ b o,es k = ⟨b,o,none⟩ ∧ w.cell? ⟨b,o,none⟩ = some (.string (ba (Sc.errT (k + 1))))
theorem ErTx.below {w w' : World} {es : Nat → Addr} (h : ErTx w es) (hb : Below w.heap.size w w') : ErTx w' es := ⟨fun k hk => by
 obtain ⟨b,o,e,hc⟩ := h.cell k hk
 exact ⟨b,o,e,cell_below' hc hb⟩⟩
theorem notPath_calls {w : World} {es : Nat → Addr} (hE : ES w es) (s : List UInt8) (hs : s.length ≤ 1000000) :
  Calls Tryz.prog 70 #[.string (ba s)] w fun e w' => e = .returned (.bool (!pathB s)) ∧ Below w.heap.size w w' := by
 have HC := hid1 (pCheck_any hE s hs)
 clear hE
 cases hp : pathB s with
 | false =>
  rw [hp] at HC
  simp only [if_true,erOf] at HC
  go_enter Tryz.func70,Tryz.ntmps70
  go_wp2_with fail
  refine HC.out.mono ?_
  rintro e w1 ⟨rfl,g⟩
  go_wp2
  go_ret
  exact ⟨rfl,g⟩
 | true =>
  rw [hp] at HC
  simp only [Bool.true_eq_false,if_false,erOf] at HC
  go_enter Tryz.func70,Tryz.ntmps70
  go_wp2_with fail
  refine HC.out.mono ?_
  rintro e w1 ⟨rfl,g⟩
  go_wp2
  go_ret
  exact ⟨rfl,g⟩
theorem ErrV.face {w : World} {es : Nat → Addr} {v : Value} {f : Nat × Int} (h : ErrV w es v f) (hf : f.1 ≠ 0) : ∃ t u,v = .iface t u := by
 rcases h with ⟨_,h,_⟩ | ⟨_,_,h,_⟩
 ·obtain ⟨c,a⟩ := f
  cases c with
  | zero => exact absurd rfl hf
  | succ c => exact ⟨_,_,h⟩
 ·exact ⟨_,_,h⟩
def CmdV (w : World) (es : Nat → Addr) (a : Sc.An) (t : List UInt8) (ev : Value) : Prop := (∃ p,ErrV w es ev (a.2,p)) ∧ (a.2 = 0 → t = a.1)
theorem CmdV.err {w : World} {es : Nat → Addr} {c : Nat} (h : c < 12) (t : List UInt8) : CmdV w es ([],c + 1) t (erOf es (c + 1)) := ⟨⟨-1,.inl ⟨rfl,rfl,by omega⟩⟩,fun h => by simp at h⟩
theorem CmdV.fine {w : World} {es : Nat → Addr} (t : List UInt8) : CmdV w es (t,0) t .nilIface := ⟨⟨-1,.nil⟩,fun _ => rfl⟩
theorem done_calls {w : World} {es : Nat → Addr} (ev : Value) (c : Nat) (p : Int) (h : ErrV w es ev (c,p)) :
  Calls Tryz.prog 74 #[ev] w fun e w' => ∃ t,e = .returned (.tuple #[.string (ba t),ev]) ∧ w' = w ∧ CmdV w es (if c = 0 then Sc.ok else [],c) t ev := by
 have HV := hid1 h
 by_cases hc : c = 0
 ·have e1 := h.zero hc
  subst e1 hc
  clear h
  go_enter Tryz.func74,Tryz.ntmps74
  go_wp2
  go_ret2
  exact ⟨Sc.ok,rfl,rfl,⟨p,HV.out⟩,fun _ => rfl⟩
 ·obtain ⟨t,u,rfl⟩ := h.face hc
  clear h
  go_enter Tryz.func74,Tryz.ntmps74
  go_wp2
  go_ret2
  exact ⟨[],rfl,rfl,⟨p,HV.out⟩,fun h => absurd h hc⟩
theorem replace_calls (s a b : List UInt8) (hs : s.length ≤ 1000000) (ha : a.length = 1) (hb : b.length = 1) (m : Int) (w : World) (hm : w.cell? ⟨13,0,none⟩ = some (.int .i64 m)) :
  Calls Tryz.prog 65 #[.string (ba s),.string (ba a),.string (ba b)] w fun e w' => e = .returned (.string (ba (Lib.replaceAll s a b))) ∧ Below w.heap.size w w' := by
 have hcount : Lib.countB (ba s) (ba a) ≤ s.length + 1 := Lib.count_le s a
 exact Tryz.strings_ReplaceAll (ba s) (ba a) (ba b) m w (by rw [ba_size];omega) hm (by rw [ba_size];omega) (by
  rw [ba_size,ba_size,hb]
  omega)
theorem inLine_calls (s : List UInt8) (hs : s.length ≤ 1000000) (m : Int) (w : World) (hm : w.cell? ⟨13,0,none⟩ = some (.int .i64 m)) :
  Calls Tryz.prog 78 #[.string (ba s)] w fun e w' => e = .returned (.string (ba (Sc.inLine s))) ∧ Below w.heap.size w w' := by
 have HR := hid1 (replace_calls s [10] [59] hs rfl rfl m w hm)
 go_enter Tryz.func78,Tryz.ntmps78
 go_wp2_with fail
 refine HR.out.mono ?_
 rintro e w1 ⟨rfl,g⟩
 go_wp2
 go_ret
 exact ⟨rfl,g⟩
theorem row_calls (v : Value) (l : List (List UInt8)) (hn : l.length ≤ 100000) (hl : ∀ x ∈ l,x.length ≤ 100000) (w : World) (hr : IRow w v l) (hk : CapRow v) :
  Calls Tryz.prog 54 #[v] w fun e w' => e = .returned (.string (ba (Sc.row l))) ∧ Below w.heap.size w w' := by
 obtain ⟨p,cap,rfl,hin⟩ := hr
 by_cases h0 : l = []
 ·subst h0
  have HQ : Hid (Sc.row [] = [110,111,116,104,105,110,103]) := hid1 rfl
  rw [HQ.out]
  go_enter Tryz.func54,Tryz.ntmps54
  go_wp2
  go_ret
  exact ⟨rfl,Below.refl _ _⟩
 ·have hq : Sc.row l = Lib.join l [32] := by unfold Sc.row;rw [if_neg h0]
  rw [hq]
  obtain ⟨g,o,rfl,hg,hc⟩ := hin h0
  have hcap := hk _ _ _ rfl
  have hpos : 0 < l.length := List.length_pos_iff.2 h0
  have HJ : Hid (Calls Tryz.prog 80 #[.slice (some ⟨g,o,none⟩) l.length cap,.string (ba [32])] w fun e w' => e = .returned (.string (ba (Lib.join l [32]))) ∧ Below w.heap.size w w') := hid1 (by
   have hj := join_len [32] l
   have hs : ∀ k : List (List UInt8),(∀ x ∈ k,x.length ≤ 100000) → (k.map List.length).sum ≤ k.length * 100000 := fun k => by
    induction k with
    | nil => intro _;simp
    | cons x k ih =>
     intro h
     have h1 := h x (by simp)
     have h2 := ih fun y hy => h y (by simp [hy])
     simp only [List.map_cons,List.sum_cons,List.length_cons]
     omega
   have h3 := hs l hl
   have e : (l.map ba).map (·.data.toList) = l := by
    rw [List.map_map]
    exact (List.map_congr_left fun x _ => rfl).trans (List.map_id l)
   have := Tryz.strings_Join g o cap (l.map ba) (ba [32]) w (fun j x hx => by
    rw [List.getElem?_map,Option.map_eq_some_iff] at hx
    obtain ⟨y,hy,rfl⟩ := hx
    obtain ⟨hj,rfl⟩ := List.getElem?_eq_some_iff.1 hy
    exact hc j hj) hg (by simp;omega) (by simpa using hcap) (by
    rw [e]
    show (Lib.join l [32]).length ≤ _
    simp at hj
    omega)
   rw [e,List.length_map] at this
   exact this)
  have z : ((l.length : Int) == 0) = false := by rw [beq_eq_false_iff_ne];omega
  clear hc hin hq hl
  generalize l.length = n at *
  go_enter Tryz.func54,Tryz.ntmps54
  go_wp2_with fail
  refine HJ.out.mono ?_
  rintro e w1 ⟨rfl,gb⟩
  go_wp2
  go_ret
  exact ⟨rfl,gb⟩
end Go.Proofs.YtdljhggillgpfaaGreatDoor
