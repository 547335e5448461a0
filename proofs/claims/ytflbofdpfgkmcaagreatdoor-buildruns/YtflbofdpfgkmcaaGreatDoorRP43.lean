import Derived.Test.YtflbofdpfgkmcaaGreatDoorRP42
set_option maxRecDepth 100000
set_option maxHeartbeats 8000000
namespace Go.Proofs.YtflbofdpfgkmcaaGreatDoor
open Go.RowKit Go.Shelf Go.Lib
namespace Bf
theorem go_code0 (act : Act) (c : Ca) (d : Bd) (i : Nat) : (go act c d i).code = 0 := by
 unfold go
 split
 ·rfl
 ·split
  ·rfl
  ·split <;> rfl
theorem run_code (act : Act) (c : Ca) (d : Bd) (i : Int) : (run act c d i).code = 0 ∨ ∃ k,k < 12 ∧ (run act c d i).code = k + 1 := by
 unfold run
 split
 ·exact .inr ⟨5,by omega,rfl⟩
 ·unfold runN
  split
  ·exact .inr ⟨5,by omega,rfl⟩
  ·split
   ·exact .inr ⟨11,by omega,rfl⟩
   ·split
    ·exact .inr ⟨10,by omega,rfl⟩
    ·exact .inl (go_code0 act c d _)
theorem allF_keeps {act : Act} (ha : ActFit act) : ∀ (f : Nat) (c : Ca) (d : Bd),Fit d → CFit c → (allF act f c d).1.l = d.l ∧ (allF act f c d).1.fs = d.fs ∧ Fit (allF act f c d).1 ∧ CFit (allF act f c d).2
 | 0,c,d,h1,h2 => ⟨rfl,rfl,h1,h2⟩
 | f + 1,c,d,h1,h2 => by
  unfold allF
  cases hq : d.ready with
  | nil => exact ⟨rfl,rfl,h1,h2⟩
  | cons i q =>
   have hm := mem_ready.1 (show i ∈ d.ready by rw [hq];simp)
   have hl := go_less act c d i hm.1 hm.2
   have hg := go_fit ha h2 h1 i
   obtain ⟨a1,a2,a3,a4⟩ := allF_keeps ha f (go act c d i).c (go act c d i).d hg.1 hg.2
   exact ⟨a1.trans hl.2.1,a2.trans hl.2.2,a3,a4⟩
end Bf
def TBlk (Tt Mm : Nat) (o : Option Nat) (u : Value) (j : Nat) : Prop := j = Tt ∨ o = some j ∨ j = Mm ∨ u.ownBlock = some j
theorem Both.same {B : Nat} {w w' : World} {T M : Nat} {fs : Tf.Fs} {o : Option Nat} {v : Value} (h : Both B w T M fs o v) (hz : w.heap.size ≤ w'.heap.size) (hb : ∀ j,TBlk T M o v j → w'.heap[j]? = w.heap[j]?) : Both B w' T M fs o v := by
 have hk : Kept (fun j => ¬ TBlk T M o v j) w w' := ⟨hz,fun j _ hj => hb j (Classical.byContradiction hj)⟩
 exact ⟨h.t.kept hk (fun hx => hx (.inl rfl)) (fun j hj hx => hx (.inr (.inl hj))),h.m.kept hk (fun hx => hx (.inr (.inr (.inl rfl)))) (fun j hj hx => hx (.inr (.inr (.inr hj)))),h.well,h.tm,h.om,h.vt,h.ov⟩
theorem Both.lt {B : Nat} {w : World} {T M : Nat} {fs : Tf.Fs} {o : Option Nat} {v : Value} (h : Both B w T M fs o v) : ∀ j,TBlk T M o v j → j < w.heap.size := by
 rintro j (rfl | hj | rfl | hj)
 ·exact h.t.lt
 ·exact h.t.map_lt hj
 ·exact h.m.lt
 ·exact h.m.row_lt hj
theorem Both.mono {B : Nat} {w : World} {T M : Nat} {fs : Tf.Fs} {o : Option Nat} {v : Value} (h : Both B w T M fs o v) : Both 0 w T M fs o v := by
 refine ⟨⟨Nat.zero_le _,h.t.cell,h.t.free,?_⟩,h.m.mono (Nat.zero_le _),h.well,h.tm,h.om,h.vt,h.ov⟩
 have hm := h.t.isMap
 cases o with
 | none => exact hm
 | some bm => exact ⟨Nat.zero_le _,hm.2.1,hm.2.2⟩
theorem new_fault {es : Nat → Addr} {BAt : (Nat → Prop) → World → Value → Value → Bf.Bd → Prop} {n : Nat} {fs : Tf.Fs} {l : List Ru} {outs : List (List UInt8)} {cv : Value} {w : World} {bv ev : Value} {f : Nat × Int} (h : NewTells es BAt n fs l outs cv w bv ev) (hf : NewFault l outs f) :
  (f.1 ≠ 0 ∧ bv = .pointer none ∧ ErrV w es ev f) ∨ (f.1 = 0 ∧ (Ru.fault l).1 = 0 ∧ (∀ j (hj : j < outs.length),∃ x ∈ l,x.out = outs[j]) ∧ ev = .nilIface ∧ ∃ p S,bv = .pointer (some p) ∧ BAt S w bv cv (Bf.init fs l outs) ∧ ∀ k,S k → n ≤ k) := by
 rcases hf with ⟨h1,rfl⟩ | ⟨h1,k,hk,h2,h3,rfl⟩ | ⟨h1,h2,h3,rfl⟩ | ⟨h1,h2,h3,rfl⟩
 ·rcases h with ⟨e,⟨_,b⟩ | ⟨a,_⟩ | ⟨a,_⟩⟩ | ⟨a,_⟩
  ·exact .inl ⟨h1,e,b⟩
  ·exact absurd a h1
  ·exact absurd a h1
  ·exact absurd a h1
 ·rcases h with ⟨e,⟨a,_⟩ | ⟨_,k',hk',a2,a3,a4⟩ | ⟨_,a,_⟩⟩ | ⟨_,a,_⟩
  ·exact absurd h1 a
  ·have : k = k' := by
    rcases Nat.lt_trichotomy k k' with x | x | x
    ·obtain ⟨r,hr,er⟩ := a3 k hk x
     exact absurd er (h2 r hr)
    ·exact x
    ·obtain ⟨r,hr,er⟩ := h3 k' hk' x
     exact absurd er (a2 r hr)
   subst this
   exact .inl ⟨by simp,e,a4⟩
  ·obtain ⟨r,hr,er⟩ := a k hk
   exact absurd er (h2 r hr)
  ·obtain ⟨r,hr,er⟩ := a k hk
   exact absurd er (h2 r hr)
 ·rcases h with ⟨e,⟨a,_⟩ | ⟨_,k',hk',a2,_⟩ | ⟨_,_,_,a⟩⟩ | ⟨_,_,a,_⟩
  ·exact absurd h1 a
  ·obtain ⟨r,hr,er⟩ := h2 k' hk'
   exact absurd er (a2 r hr)
  ·exact .inl ⟨by simp,e,.inl ⟨rfl,a,by decide⟩⟩
  ·rw [h3] at a
   cases a
 ·rcases h with ⟨e,⟨a,_⟩ | ⟨_,k',hk',a2,_⟩ | ⟨_,_,a,_⟩⟩ | ⟨_,_,_,a4,⟨p,a5⟩,S,a6,a7⟩
  ·exact absurd h1 a
  ·obtain ⟨r,hr,er⟩ := h2 k' hk'
   exact absurd er (a2 r hr)
  ·rw [a] at h3
   cases h3
  ·exact .inr ⟨rfl,h1,h2,a4,p,S,a5,a6,a7⟩
theorem MB.rebase {w0 w1 W : World} {mb tb : Nat} {tv lv cv : Value} {gs go gh gw : Nat} {d : Bf.Bd} (h : MB w1 W mb tb tv lv cv gs go gh gw d) (hb : Below w0.heap.size w0 w1) (hr : RRow w0 lv d.l) : MB w0 W mb tb tv lv cv gs go gh gw d := by
 have hz := hb.size
 obtain ⟨l1,l2,l3,l4,l5⟩ := h.low
 exact ⟨hb.trans (h.base.mono hz),hr,⟨by omega,by omega,by omega,by omega,by omega⟩,h.c0,h.c1,h.c2,h.c3,h.c4,h.c5,h.c6,h.rs,h.ro,h.rh,h.rw,h.tree.mono hz,h.n1,h.nm,h.nt⟩
theorem MAt.new2 (W : World) (m : Nat) : MAt (fun k => k = W.heap.size) (W.alloc (.cells #[.int .i64 m,.slice none 0 0] 111)) (.pointer (some ⟨W.heap.size,0,none⟩)) m [] := by
 refine ⟨⟨W.heap.size,.slice none 0 0,rfl,rfl,by simp,by simp,by simp,none,0,rfl,Nat.le_refl _,fun h => absurd rfl h⟩,fun k hk => by subst hk;simp⟩
structure Co (At : (Nat → Prop) → World → Value → Nat → Cf.Ens → Prop) (W0 : World) (Tt Mm : Nat) (fs : Tf.Fs) (o : Option Nat) (u cv mcv : Value) (cP cM : Bf.Ca) (SC T : Nat → Prop) (wr : World) : Prop where
 base : Below W0.heap.size W0 wr
 both : Both 0 wr Tt Mm fs o u
 ca : CaAt At SC wr cv cP
 mca : MCa T wr mcv cM
 lowC : ∀ j,SC j → W0.heap.size ≤ j
 lowT : ∀ j,T j → W0.heap.size ≤ j
 ltC : ∀ j,SC j → j < wr.heap.size
 ct : ∀ j,SC j → ¬ T j
 tc : ∀ j,TBlk Tt Mm o u j → ¬ SC j ∧ ¬ T j
structure Rn (At : (Nat → Prop) → World → Value → Nat → Cf.Ens → Prop) (BAt : (Nat → Prop) → World → Value → Value → Bf.Bd → Prop) (W0 : World) (Tt Mm : Nat) (fs : Tf.Fs) (o : Option Nat) (u cv mcv : Value) (cP cM : Bf.Ca) (SC T : Nat → Prop) (bp : Addr) (mb tb : Nat) (tv lv : Value) (gs go gh gw : Nat) (dP dM : Bf.Bd) (S : Nat → Prop) (wr : World) : Prop where
 co : Co At W0 Tt Mm fs o u cv mcv cP cM SC T wr
 bat : BAt S wr (.pointer (some bp)) cv dP
 mbd : MB W0 wr mb tb tv lv mcv gs go gh gw dM
 lowS : ∀ j,S j → W0.heap.size ≤ j
 ltS : ∀ j,S j → j < wr.heap.size
 far : ∀ j,S j → ¬ SC j ∧ ¬ T j ∧ ¬ MBlk mb tb tv gs go gh gw j ∧ ¬ TBlk Tt Mm o u j
 farM : ∀ j,MBlk mb tb tv gs go gh gw j → ¬ SC j ∧ ¬ T j ∧ ¬ TBlk Tt Mm o u j
section
variable {es : Nat → Addr} {act : Bf.Act} {At : (Nat → Prop) → World → Value → Nat → Cf.Ens → Prop} {BAt : (Nat → Prop) → World → Value → Value → Bf.Bd → Prop} {W0 : World} {Tt Mm : Nat} {fs : Tf.Fs} {o : Option Nat} {u cv mcv : Value} {cP cM : Bf.Ca} {SC T : Nat → Prop} {bp : Addr} {mb tb : Nat} {tv lv : Value} {gs go gh gw : Nat} {dP dM : Bf.Bd} {S : Nat → Prop} {wr w' : World}
theorem CaAt.sameG (HC : Caches0 es At) {SC : Nat → Prop} {W W' : World} {cv : Value} {c : Bf.Ca} (h : CaAt At SC W cv c) (hz : W.heap.size ≤ W'.heap.size) (hb : ∀ k,SC k → W'.heap[k]? = W.heap[k]?) : CaAt At SC W' cv c := by
 cases c with
 | none => exact h
 | some x => exact ⟨h.1,HC.same _ _ _ _ _ _ h.2 hz hb⟩
theorem CaAt.ltG (HC : Caches0 es At) {SC : Nat → Prop} {W : World} {cv : Value} {c : Bf.Ca} (h : CaAt At SC W cv c) : ∀ k,SC k → k < W.heap.size := by
 cases c with
 | none => exact fun k hk => absurd hk (h.2 k)
 | some x => exact HC.lt _ _ _ _ _ h.2
theorem Co.below (HC : Caches0 es At) (h : Co At W0 Tt Mm fs o u cv mcv cP cM SC T wr) (hb : Below wr.heap.size wr w') : Co At W0 Tt Mm fs o u cv mcv cP cM SC T w' :=
 ⟨below_then h.base hb,h.both.below hb,h.ca.sameG HC hb.size fun k hk => hb.block k (h.ltC k hk),h.mca.below hb,h.lowC,h.lowT,fun j hj => Nat.lt_of_lt_of_le (h.ltC j hj) hb.size,h.ct,h.tc⟩
theorem Rn.below (HB : Builds es act At BAt) (HC : Caches0 es At) (h : Rn At BAt W0 Tt Mm fs o u cv mcv cP cM SC T bp mb tb tv lv gs go gh gw dP dM S wr) (hb : Below wr.heap.size wr w') : Rn At BAt W0 Tt Mm fs o u cv mcv cP cM SC T bp mb tb tv lv gs go gh gw dP dM S w' :=
 ⟨h.co.below HC hb,HB.same _ _ _ _ _ _ h.bat hb.size fun k hk => hb.block k (h.ltS k hk),h.mbd.below hb,h.lowS,fun j hj => Nat.lt_of_lt_of_le (h.ltS j hj) hb.size,h.far,h.farM⟩
theorem Rn.prog (HB : Builds es act At BAt) (HC : Caches0 es At) (h : Rn At BAt W0 Tt Mm fs o u cv mcv cP cM SC T bp mb tb tv lv gs go gh gw dP dM S wr) {S' SC' : Nat → Prop} {dP' : Bf.Bd} {cP' : Bf.Ca} (hO : Only (fun j => S j ∨ SC j) wr w') (hB : BAt S' w' (.pointer (some bp)) cv dP') (hC : CaAt At SC' w' cv cP') (hd : ∀ j,S' j → ¬ SC' j) (hS : ∀ j,S' j → S j ∨ wr.heap.size ≤ j) (hSC : ∀ j,SC' j → SC j ∨ wr.heap.size ≤ j) :
  Rn At BAt W0 Tt Mm fs o u cv mcv cP' cM SC' T bp mb tb tv lv gs go gh gw dP' dM S' w' := by
 have hz := hO.size
 have hbz := h.co.base.size
 have hlow : ∀ j,(S j ∨ SC j) → W0.heap.size ≤ j := fun j hj => hj.elim (h.lowS j) (h.co.lowC j)
 have hbase : Below W0.heap.size W0 w' := h.co.base.trans (hO.below hlow hbz)
 have ltT := h.co.mca.lt
 have ltM := h.mbd.lt
 have ltB := h.co.both.lt
 refine ⟨⟨hbase,h.co.both.same hz fun j hj => hO.block j (ltB j hj) fun e => e.elim (fun e => (h.far j e).2.2.2 hj) fun e => (h.co.tc j hj).1 e,hC,h.co.mca.same hz fun j hj => hO.block j (ltT j hj) fun e => e.elim (fun e => (h.far j e).2.1 hj) fun e => h.co.ct j e hj,fun j hj => ?_,h.co.lowT,hC.ltG HC,fun j hj ht => ?_,fun j hj => ⟨fun hx => ?_,(h.co.tc j hj).2⟩⟩,hB,h.mbd.same hbase hz fun j hj => hO.block j (ltM j hj) fun e => e.elim (fun e => (h.far j e).2.2.1 hj) fun e => (h.farM j hj).1 e,fun j hj => ?_,HB.lt _ _ _ _ _ hB,fun j hj => ⟨hd j hj,fun hx => ?_,fun hx => ?_,fun hx => ?_⟩,fun j hj => ⟨fun hx => ?_,(h.farM j hj).2⟩⟩
 ·rcases hSC j hj with h1 | h1
  ·exact h.co.lowC j h1
  ·omega
 ·rcases hSC j hj with h1 | h1
  ·exact h.co.ct j h1 ht
  ·have := ltT j ht;omega
 ·rcases hSC j hx with h1 | h1
  ·exact (h.co.tc j hj).1 h1
  ·have := ltB j hj;omega
 ·rcases hS j hj with h1 | h1
  ·exact h.lowS j h1
  ·omega
 ·rcases hS j hj with h1 | h1
  ·exact (h.far j h1).2.1 hx
  ·have := ltT j hx;omega
 ·rcases hS j hj with h1 | h1
  ·exact (h.far j h1).2.2.1 hx
  ·have := ltM j hx;omega
 ·rcases hS j hj with h1 | h1
  ·exact (h.far j h1).2.2.2 hx
  ·have := ltB j hx;omega
 ·rcases hSC j hx with h1 | h1
  ·exact (h.farM j hj).1 h1
  ·have := ltM j hj;omega
theorem Rn.doc (HB : Builds es act At BAt) (HC : Caches0 es At) (h : Rn At BAt W0 Tt Mm fs o u cv mcv cP cM SC T bp mb tb tv lv gs go gh gw dP dM S wr) {T' : Nat → Prop} {dM' : Bf.Bd} {cM' : Bf.Ca} (hM : MB W0 w' mb tb tv lv mcv gs go gh gw dM') (hO : Only (fun j => MBlk mb tb tv gs go gh gw j ∨ T j) wr w') (hc : MCa T' w' mcv cM') (hT : ∀ j,T' j → T j ∨ wr.heap.size ≤ j) :
  Rn At BAt W0 Tt Mm fs o u cv mcv cP cM' SC T' bp mb tb tv lv gs go gh gw dP dM' S w' := by
 have hz := hO.size
 have hbz := h.co.base.size
 have ltM := h.mbd.lt
 have ltB := h.co.both.lt
 refine ⟨⟨hM.base,h.co.both.same hz fun j hj => hO.block j (ltB j hj) fun e => e.elim (fun e => (h.farM j e).2.2 hj) fun e => (h.co.tc j hj).2 e,h.co.ca.sameG HC hz fun j hj => hO.block j (h.co.ltC j hj) fun e => e.elim (fun e => (h.farM j e).1 hj) fun e => h.co.ct j hj e,hc,h.co.lowC,fun j hj => ?_,fun j hj => Nat.lt_of_lt_of_le (h.co.ltC j hj) hz,fun j hj hx => ?_,fun j hj => ⟨(h.co.tc j hj).1,fun hx => ?_⟩⟩,HB.same _ _ _ _ _ _ h.bat hz fun j hj => hO.block j (h.ltS j hj) fun e => e.elim (fun e => (h.far j hj).2.2.1 e) fun e => (h.far j hj).2.1 e,hM,h.lowS,fun j hj => Nat.lt_of_lt_of_le (h.ltS j hj) hz,fun j hj => ⟨(h.far j hj).1,fun hx => ?_,(h.far j hj).2.2⟩,fun j hj => ⟨(h.farM j hj).1,fun hx => ?_,(h.farM j hj).2.2⟩⟩
 ·rcases hT j hj with h1 | h1
  ·exact h.co.lowT j h1
  ·omega
 ·rcases hT j hx with h1 | h1
  ·exact h.co.ct j hj h1
  ·have := h.co.ltC j hj;omega
 ·rcases hT j hx with h1 | h1
  ·exact (h.co.tc j hj).2 h1
  ·have := ltB j hj;omega
 ·rcases hT j hx with h1 | h1
  ·exact (h.far j hj).2.1 h1
  ·have := h.ltS j hj;omega
 ·rcases hT j hx with h1 | h1
  ·exact (h.farM j hj).2.1 h1
  ·have := ltM j hj;omega
end
end Go.Proofs.YtflbofdpfgkmcaaGreatDoor
namespace Go.Proofs.YtflbofdpfgkmcaaGreatDoor
open Go.RowKit Go.Shelf Go.Lib
theorem mbMany_calls {w0 W : World} {mb tb : Nat} {tv lv cv : Value} {gs go gh gw : Nat} {d : Bf.Bd} (h : MB w0 W mb tb tv lv cv gs go gh gw d) (hn : d.l.length ≤ 1000) (nm : List UInt8) (hit : Bool) :
  Calls Tryz.prog 123 #[.pointer (some ⟨mb,0,none⟩),.string (ba nm),.bool hit] W fun e w' => e = .returned (.int .i64 (Bf.many d.st (fun s => (s.name == nm) && (s.hit == hit)) d.l.length : Nat)) ∧ Below W.heap.size W w' := by
 have HH := hid1 h
 obtain ⟨p,cap,rfl,-⟩ := h.row
 have c1 := h.c1
 have c2 := h.c2
 have c4 := h.c4
 have zn : (d.l.length : Int) ≤ 1000 := by omega
 clear h
 go_enter Tryz.func123,Tryz.ntmps123
 go_wp2
 clear c1 c2 c4
 go_loopw [7,8] (fun nv' iv wr => ∃ k : Nat,k ≤ d.l.length ∧ iv = .int .i64 k ∧ nv' = .int .i64 (Bf.many d.st (fun s => (s.name == nm) && (s.hit == hit)) k : Nat) ∧ Below W.heap.size W wr) (fun _ iv _ => d.l.length - (intOf iv).toNat)
 case atStart => exact ⟨0,Nat.zero_le _,rfl,rfl,Below.refl _ _⟩
 case round =>
  obtain ⟨k,hk,rfl,rfl,hB⟩ := hrel
  have hM := HH.out.below hB
  have c1 := hM.c1
  have c2 := hM.c2
  have c4 := hM.c4
  have k0 : (0 : Int) ≤ (k : Int) := by omega
  have hml := Bf.many_le d.st (fun s => (s.name == nm) && (s.hit == hit)) k
  by_cases hlt : k < d.l.length
  ·have k1 : (k : Int) < (d.l.length : Int) := by omega
   have ck := (hM.rs.2 k hlt).1
   have ch := (hM.rh.2 k hlt).1
   have HS : Hid (Bf.many d.st (fun s => (s.name == nm) && (s.hit == hit)) (k + 1) = Bf.many d.st (fun s => (s.name == nm) && (s.hit == hit)) k + (if ((d.st k).name == nm && (d.st k).hit == hit) = true then 1 else 0)) := hid1 rfl
   clear hM
   generalize Bf.many d.st (fun s => (s.name == nm) && (s.hit == hit)) k = mk at *
   have hmz : (mk : Int) ≤ 1000 := by omega
   cases h1 : (d.st k).name == nm with
   | false =>
    rw [h1] at HS
    go_wp2
    exact ⟨⟨k + 1,by omega,by go_num,by rw [HS.out];simp,hB⟩,by simp [intOf];omega⟩
   | true =>
    rw [h1] at HS
    cases h2 : (d.st k).hit == hit with
    | false =>
     rw [h2] at HS
     go_wp2
     exact ⟨⟨k + 1,by omega,by go_num,by rw [HS.out];simp,hB⟩,by simp [intOf];omega⟩
    | true =>
     rw [h2] at HS
     go_wp2
     exact ⟨⟨k + 1,by omega,by go_num,by rw [HS.out];go_num,hB⟩,by simp [intOf];omega⟩
  ·have k1 : (d.l.length : Int) ≤ (k : Int) := by omega
   obtain rfl : k = d.l.length := by omega
   clear hM
   go_wp2
   go_ret
   exact ⟨rfl,hB⟩
end Go.Proofs.YtflbofdpfgkmcaaGreatDoor
namespace Go.Proofs.YtflbofdpfgkmcaaGreatDoor
open Go.RowKit Go.Shelf Go.Lib
theorem LongRules_any {w : World} (v : Value) (l : List Ru) (many : Nat) (hmany : many ≤ 40) (hrow : RRow w v l) :
  Calls Tryz.prog 36 #[v,.int .i64 many] w fun e w' => ∃ r : Int,e = .returned (.int .i64 r) ∧ w' = w ∧ (r = 1 ∨ (r = 0 ∧ (l.length ≤ many ∨ l.length = 41) ∧ ∀ x ∈ l,x.Small)) := by
 obtain ⟨p,cap,rfl,hcap,hnn,hin⟩ := hrow
 have HI := hid1 hin
 clear hin hnn
 have zM : (many : Int) ≤ 40 := by omega
 by_cases hm : l.length ≤ many ∨ l.length = 41
 ·have HM := hid1 hm
  have hm' : (l.length : Int) ≤ (many : Int) ∨ ((many : Int) < (l.length : Int) ∧ ((l.length : Int) != 41) = false) := by
   rcases hm with h | h
   ·exact .inl (by omega)
   ·exact .inr ⟨by omega,by simp [h]⟩
  have hl : l.length ≤ 41 := by omega
  have zl : (l.length : Int) ≤ 41 := by omega
  clear hm
  rcases hm' with hm' | ⟨hm',hm2⟩
  all_goals
   go_enter Tryz.func36,Tryz.ntmps36
   go_wp2
   go_loopw [5] (fun i wr => ∃ k : Nat,k ≤ l.length ∧ i = .int .i64 k ∧ (∀ j (hj : j < l.length),j < k → l[j].Small) ∧ w = wr) (fun i _ => l.length - (intOf i).toNat)
   case atStart => exact ⟨0,Nat.zero_le _,rfl,fun j hj h => by omega,rfl⟩
   case round =>
    obtain ⟨k,hk,rfl,hz,rfl⟩ := hrel
    have HZ := hid1 hz
    clear hz
    have c0 : (0 : Int) ≤ (k : Int) := by omega
    by_cases hlt : k < l.length
    ·have c1 : (k : Int) < (l.length : Int) := by omega
     obtain ⟨g',o,rfl,hg,hcur⟩ := HI.out (by intro e;rw [e] at hlt;simp at hlt)
     obtain ⟨u0,u1,u2,u,u3,ux⟩ := hcur k hlt
     have HT := hid1 (LongTexts_any u l[k].ins 12 300 (by omega) (by omega) ux.irow)
     have HN : Hid (l[k].Small → ∀ j (hj : j < l.length),j < k + 1 → l[j].Small) := hid1 fun hs j hj hjk => by
      rcases Nat.lt_or_ge j k with h | h
      ·exact HZ.out j hj h
      ·obtain rfl : j = k := by omega
       exact hs
     have HU := hid1 ux
     clear hcur HI HZ ux
     generalize l[k] = y at *
     obtain ⟨p3,cap3,rfl,_⟩ := HU.out
     by_cases h1 : 100 < y.out.length
     ·have z1 : (100 : Int) < (y.out.length : Int) := by omega
      clear HT HN
      go_wp2
      go_ret
      exact ⟨1,rfl,rfl,.inl rfl⟩
     by_cases h2 : 60 < y.kind.length
     ·have z1 : (y.out.length : Int) ≤ (100 : Int) := by omega
      have z2 : (60 : Int) < (y.kind.length : Int) := by omega
      clear HT HN
      go_wp2
      go_ret
      exact ⟨1,rfl,rfl,.inl rfl⟩
     by_cases h3 : 150 < y.word.length
     ·have z1 : (y.out.length : Int) ≤ (100 : Int) := by omega
      have z2 : (y.kind.length : Int) ≤ (60 : Int) := by omega
      have z3 : (150 : Int) < (y.word.length : Int) := by omega
      clear HT HN
      go_wp2
      go_ret
      exact ⟨1,rfl,rfl,.inl rfl⟩
     have z1 : (y.out.length : Int) ≤ (100 : Int) := by omega
     have z2 : (y.kind.length : Int) ≤ (60 : Int) := by omega
     have z3 : (y.word.length : Int) ≤ (150 : Int) := by omega
     go_wp2_with fail
     refine HT.out.mono ?_
     rintro e w1 ⟨r,rfl,rfl,rfl | ⟨rfl,hy1,hy2⟩⟩
     ·clear HT HN
      go_wp2
      go_ret
      exact ⟨1,rfl,rfl,.inl rfl⟩
     ·have HNN := hid1 (HN.out ⟨by omega,by omega,by omega,hy1,hy2⟩)
      clear HT HN hy2
      go_wp2
      exact ⟨⟨k + 1,by omega,by go_num,HNN.out,trivial⟩,by simp [intOf];omega⟩
    ·have c1 : (l.length : Int) ≤ (k : Int) := by omega
     have HN : Hid (∀ x ∈ l,x.Small) := hid1 fun x hx => by
      obtain ⟨j,hj,rfl⟩ := List.getElem_of_mem hx
      exact HZ.out j hj (by omega)
     clear HI HZ
     go_wp2
     go_ret
     exact ⟨0,rfl,rfl,.inr ⟨rfl,HM.out,HN.out⟩⟩
 ·have z1 : (many : Int) < (l.length : Int) := by omega
  have z2 : ((l.length : Int) != 41) = true := by simp;omega
  clear hm HI
  go_enter Tryz.func36,Tryz.ntmps36
  go_wp2
  go_ret
  exact ⟨1,rfl,rfl,.inl rfl⟩
end Go.Proofs.YtflbofdpfgkmcaaGreatDoor
namespace Go.Proofs.YtflbofdpfgkmcaaGreatDoor
open Go.RowKit Go.Shelf Go.Lib
theorem coded2_nil (c : Int) (w : World) : Calls Tryz.prog 61 #[.nilIface,.int .i64 c] w fun e w' => e = .returned (.bool (decide (0 = c))) ∧ w' = w := by
 by_cases h : 0 = c
 ·subst h
  go_enter Tryz.func61,Tryz.ntmps61
  go_wp2_with fail
  refine (Code_nil _).mono ?_
  rintro e w' ⟨rfl,rfl⟩
  go_wp2
  go_ret
  exact ⟨rfl,rfl⟩
 ·have hb : ((0 : Int) == c) = false := by simpa using h
  have hd : decide (0 = c) = false := by simpa using h
  rw [hd]
  go_enter Tryz.func61,Tryz.ntmps61
  go_wp2_with fail
  refine (Code_nil _).mono ?_
  rintro e w' ⟨rfl,rfl⟩
  go_wp2
  go_ret
  exact ⟨rfl,rfl⟩
theorem coded2_ptr (c : Int) (x : Addr) (es : Nat → Addr) (cx : Array Value) (tx : TypeId) (w : World) (hE : E12 w es) (hx : w.heap[x.block]? = some (.cells cx tx (0,0))) :
  Calls Tryz.prog 61 #[.iface 380 (.pointer (some x)),.int .i64 c] w fun e w' => e = .returned (.bool (decide (codeOf es x = c))) ∧ Below w.heap.size w w' := by
 have HC : Hid (Calls Tryz.prog 73 #[.iface 380 (.pointer (some x))] w fun e w' => e = .returned (.tuple #[.int .i64 (codeOf es x),.int .i64 (-1)]) ∧ Below w.heap.size w w') := Code_ptr x es cx tx w hE hx
 generalize codeOf es x = y at *
 clear hE hx
 by_cases h : y = c
 ·subst h
  have hd : decide (y = y) = true := by simp
  rw [hd]
  go_enter Tryz.func61,Tryz.ntmps61
  go_wp2_with fail
  refine HC.out.mono ?_
  rintro e w' ⟨rfl,hb⟩
  go_wp2
  go_ret
  exact ⟨rfl,hb⟩
 ·have hb : (y == c) = false := by simpa using h
  have hd : decide (y = c) = false := by simpa using h
  rw [hd]
  go_enter Tryz.func61,Tryz.ntmps61
  go_wp2_with fail
  refine HC.out.mono ?_
  rintro e w' ⟨rfl,hb⟩
  go_wp2
  go_ret
  exact ⟨rfl,hb⟩
theorem coded2_es (k : Nat) (hk : k < 12) (es : Nat → Addr) (w : World) (hE : E12 w es) :
  Calls Tryz.prog 61 #[.iface 380 (.pointer (some (es k))),.int .i64 ((k : Int) + 1)] w fun e w' => e = .returned (.bool true) ∧ Below w.heap.size w w' := by
 obtain ⟨c,t,hr⟩ := hE.rows k hk
 have := coded2_ptr ((k : Int) + 1) (es k) es c t w hE hr
 rwa [codeOf_es hE k hk,show decide ((k : Int) + 1 = (k : Int) + 1) = true from decide_eq_true rfl] at this
theorem coded2_none (w : World) : Calls Tryz.prog 61 #[.nilIface,.int .i64 0] w fun e w' => e = .returned (.bool true) ∧ Below w.heap.size w w' :=
 (coded2_nil 0 w).mono fun _ _ ⟨he,hw⟩ => ⟨he,hw ▸ Below.refl _ _⟩
theorem coded2_er (c : Nat) (hc : c = 0 ∨ ∃ k,k < 12 ∧ c = k + 1) (es : Nat → Addr) (w : World) (hE : E12 w es) :
  Calls Tryz.prog 61 #[erOf es c,.int .i64 (c : Int)] w fun e w' => e = .returned (.bool true) ∧ Below w.heap.size w w' := by
 rcases hc with rfl | ⟨k,hk,rfl⟩
 ·exact coded2_none w
 ·exact coded2_es k hk es w hE
theorem faulted2_calls {w : World} {es : Nat → Addr} (hE : E12 w es) (v : Value) (f : Nat × Int) (h : ErrV w es v f) :
  Calls Tryz.prog 64 #[v,.agg #[.int .i64 f.1,.int .i64 f.2]] w fun e w' => e = .returned (.bool true) ∧ Below w.heap.size w w' := by
 obtain ⟨c,n⟩ := f
 have hB0 : Below w.heap.size w (w.alloc (.cells #[.int .i64 c,.int .i64 n] 75)) := (Below.refl _ w).alloc (Nat.le_refl _) _
 have hc0 : (w.alloc (.cells #[.int .i64 c,.int .i64 n] 75)).cell? ⟨w.heap.size,0,none⟩ = some (.int .i64 c) := by simp
 have hc1 : (w.alloc (.cells #[.int .i64 c,.int .i64 n] 75)).cell? ⟨w.heap.size,1,none⟩ = some (.int .i64 n) := by simp
 have HC : Hid (∀ W,Below w.heap.size w W → Calls Tryz.prog 73 #[v] W fun e w' => ∃ n',e = .returned (.tuple #[.int .i64 (c : Int),.int .i64 n']) ∧ (c = 0 ∨ n' = n) ∧ Below W.heap.size W w') := hid1 fun W hW => by
  rcases h with ⟨h1,rfl,h2⟩ | ⟨pb,m,rfl,hm,h0,h1,h2⟩
  ·simp only at h1 h2 ⊢
   subst h1
   cases c with
   | zero => exact (Code_nil W).mono fun e w' ⟨p,q⟩ => ⟨_,p,.inl rfl,q ▸ Below.refl _ _⟩
   | succ k =>
    obtain ⟨cc,t,hr⟩ := (hE.below hW).rows k (by omega)
    have := Code_ptr (es k) es cc t W (hE.below hW) hr
    rw [codeOf_es hE k (by omega)] at this
    exact this.mono fun e w' ⟨p,q⟩ => ⟨_,p,.inr rfl,q⟩
  ·simp only at h0 h1 h2
   subst h0
   exact (Code_fault pb n m hm es W (hE.below hW) (cell_below' h1 hW) (cell_below' h2 hW)).mono fun e w' ⟨p,q⟩ => ⟨n,p,.inr rfl,q⟩
 clear hE h
 simp only
 generalize hci : (c : Int) = ci at *
 go_enter Tryz.func64,Tryz.ntmps64
 go_wp2_with fail
 refine (HC.out _ hB0).mono ?_
 rintro e w1 ⟨n',rfl,hd,g⟩
 have g1 := below_then hB0 g
 have d0 := cell_below' hc0 g
 have d1 := cell_below' hc1 g
 clear HC hB0 hc0 hc1 g
 by_cases h0 : ci = 0
 ·subst h0
  go_wp2
  go_ret
  exact ⟨rfl,g1⟩
 ·have e0 : (ci == 0) = false := by simpa using h0
  obtain rfl : n' = n := hd.resolve_left (by intro e;apply h0;rw [← hci,e];rfl)
  go_wp2
  go_ret
  exact ⟨rfl,g1⟩
end Go.Proofs.YtflbofdpfgkmcaaGreatDoor
namespace Go.Proofs.YtflbofdpfgkmcaaGreatDoor
open Go
section
variable {P : Program} {ops : Array Oper} {Q : Exit → Act → World → Prop} {md : Region.Mode}
def valAt (l : List Value) (i : Nat) : Value := l.getD i undef
def wantV (l : List Value) (o : Oper) : Bool :=
 match o.guard with
 | none => true
 | some (j,b) => match valAt l j with
  | .bool c => c == b
  | _ => false
inductive Does (P : Program) (K : World → Prop) (l : List Value) (o : Oper) (i : Nat) (a : Act) (w : World) : Prop
 | no (h : wantV l o = false) (hv : valAt l i = undef)
 | val (h : wantV l o = true) (hv : (execOp a.eval o).run P w = .ok (.value (valAt l i)) w)
 | call (f : Nat) (args : Array Value) (h : wantV l o = true) (hv : (execOp a.eval o).run P w = .ok (.enter f args) w) (hc : Calls P f args w fun e w' => e = .returned (valAt l i) ∧ K w')
def layL : List Value → Nat → List Value → List Value
 | [],_,_ => []
 | x :: t,0,[] => x :: t
 | _ :: t,0,v :: l => v :: layL t 0 l
 | x :: t,b + 1,l => x :: layL t b l
def lays (t : Array Value) (b : Nat) (l : List Value) : Array Value := ⟨layL t.toList b l⟩
theorem layL_len : ∀ (t : List Value) (b : Nat) (l : List Value),(layL t b l).length = t.length
 | [],_,_ => by unfold layL;rfl
 | x :: t,0,[] => by unfold layL;rfl
 | x :: t,0,v :: l => by
  unfold layL
  rw [List.length_cons,List.length_cons,layL_len t 0 l]
 | x :: t,b + 1,l => by
  unfold layL
  rw [List.length_cons,List.length_cons,layL_len t b l]
theorem lays_size (l : List Value) (t : Array Value) (b : Nat) : (lays t b l).size = t.size := layL_len t.toList b l
theorem layL_get : ∀ (t : List Value) (b : Nat) (l : List Value) (j : Nat),j < t.length → (layL t b l)[j]? = if b ≤ j ∧ j < b + l.length then l[j - b]? else t[j]?
 | [],b,l,j,h => absurd h (Nat.not_lt_zero _)
 | x :: t,0,[],j,h => by
  unfold layL
  rw [if_neg (by simp only [List.length_nil];omega)]
 | x :: t,0,v :: l,0,h => by
  unfold layL
  rw [if_pos (by simp only [List.length_cons];omega)]
  rfl
 | x :: t,0,v :: l,j + 1,h => by
  unfold layL
  rw [List.getElem?_cons_succ,layL_get t 0 l j (by simpa using h)]
  by_cases c : 0 ≤ j ∧ j < 0 + l.length
  ·rw [if_pos c,if_pos (by simp only [List.length_cons];omega)]
   rfl
  ·rw [if_neg c,if_neg (by simp only [List.length_cons];omega)]
   rfl
 | x :: t,b + 1,l,0,h => by
  unfold layL
  rw [if_neg (by omega)]
  rfl
 | x :: t,b + 1,l,j + 1,h => by
  unfold layL
  rw [List.getElem?_cons_succ,layL_get t b l j (by simpa using h)]
  by_cases c : b ≤ j ∧ j < b + l.length
  ·rw [if_pos c,if_pos (by omega),show j + 1 - (b + 1) = j - b by omega]
  ·rw [if_neg c,if_neg (by omega)]
   rfl
theorem lays_get (l : List Value) (t : Array Value) (b j : Nat) (hj : j < t.size) : (lays t b l)[j]? = if b ≤ j ∧ j < b + l.length then l[j - b]? else t[j]? := by
 have := layL_get t.toList b l j hj
 rw [Array.getElem?_toList (xs := t)] at this
 rw [← this,← Array.getElem?_toList]
 rfl
theorem ev_putSame {a : Act} {i : Nat} {v : Value} (h : i < a.tmps.size) : (a.put (some i) v).eval (.tmp i) = v := by
 simp [Act.put,Act.eval,Array.getD_eq_getD_getElem?,h]
theorem ev_putOther {a : Act} {i j : Nat} {v : Value} (h : j ≠ i) : (a.put (some i) v).eval (.tmp j) = a.eval (.tmp j) := by
 have h' : i ≠ j := fun e => h e.symm
 simp [Act.put,Act.eval,Array.getD_eq_getD_getElem?,h']
theorem wanted_val {l : List Value} {o : Oper} {a : Act} {b : Nat} (hj : ∀ j c,o.guard = some (j,c) → (ops[j]?).bind (·.dst) = some (b + j) ∧ b + j < a.tmps.size ∧ a.eval (.tmp (b + j)) = valAt l j) : Region.wanted o (yielded ops a.tmps) = wantV l o := by
 unfold Region.wanted wantV
 cases hg : o.guard with
 | none => rfl
 | some jc =>
  obtain ⟨j,c⟩ := jc
  obtain ⟨h1,h2,h3⟩ := hj j c hg
  have h4 : a.tmps[b + j]? = some (valAt l j) := by
   simp only [Act.eval,Array.getD_eq_getD_getElem?,Array.getElem?_eq_getElem h2,Option.getD_some] at h3
   rw [Array.getElem?_eq_getElem h2,h3]
  simp only [yielded,h1,Option.bind_some,h4]
  cases valAt l j <;> simp
def shaped (md : Region.Mode) (b : Nat) (ops : Array Oper) : Bool :=
 (List.range ops.size).all fun i => match ops[i]? with
  | none => true
  | some o => o.dst == some (b + i) && o.after.all (fun e => Nat.blt e.on i) && (match o.guard with
   | none => true
   | some (j,_) => o.after.toList.any fun e => e.on == j && Region.binds md e)
theorem shaped_spec {b : Nat} (h : shaped md b ops = true) (i : Nat) (o : Oper) (ho : ops[i]? = some o) : o.dst = some (b + i) ∧ (∀ e ∈ o.after.toList,e.on < i) ∧ ∀ j c,o.guard = some (j,c) → (o.after.toList.any fun e => e.on == j && Region.binds md e) = true := by
 unfold shaped at h
 rw [List.all_eq_true] at h
 have hi : i < ops.size := by
  by_cases hx : i < ops.size
  ·exact hx
  ·rw [Array.getElem?_eq_none (by omega)] at ho
   cases ho
 have := h i (List.mem_range.2 hi)
 rw [ho] at this
 simp only [Bool.and_eq_true,beq_iff_eq] at this
 obtain ⟨⟨h1,h2⟩,h3⟩ := this
 refine ⟨h1,fun e he => ?_,fun j c hg => ?_⟩
 ·rw [Array.all_eq_true_iff_forall_mem] at h2
  exact Nat.blt_eq ▸ h2 e (by simpa using he)
 ·rw [hg] at h3
  exact h3
theorem wpAny_det (b : Nat) (l : List Value) (K : World → Prop) {a0 : Act} {w0 : World} {L : Array Bool} (hL : L = Array.replicate ops.size false) (hn : ops.size = l.length) (hb : b + l.length ≤ a0.tmps.size)
  (hshaped : shaped md b ops = true)
  (hstep : ∀ (i : Nat) (o : Oper) (a : Act) (w : World),ops[i]? = some o → K w → (∀ s,s < b → a.eval (.tmp s) = a0.eval (.tmp s)) → (∀ j,(o.after.toList.any fun e => e.on == j && Region.binds md e) = true → a.eval (.tmp (b + j)) = valAt l j) → Does P K l o i a w)
  (hK : K w0) (hend : ∀ w,K w → Q .normal { tmps := lays a0.tmps b l,defers := a0.defers } w) :
  wpAny P md ops Q ops.size L a0 w0 := by
 have hshape := shaped_spec hshaped
 have hlt : ∀ {i : Nat} {o : Oper},ops[i]? = some o → i < l.length := fun {i o} h => by
  rw [← hn]
  by_cases hx : i < ops.size
  ·exact hx
  ·rw [Array.getElem?_eq_none (by omega)] at h
   cases h
 have hl0 : flags L = fun _ => false := by
  funext j
  rw [hL]
  unfold flags
  rw [Array.getD_eq_getD_getElem?,Array.getElem?_replicate]
  split <;> rfl
 refine wpAny_inv (n := ops.size) rfl (fun i o ho => (hshape i o ho).2.1) (fun F a w => a.tmps.size = a0.tmps.size ∧ a.defers = a0.defers ∧ (∀ s,s < b ∨ b + l.length ≤ s → a.eval (.tmp s) = a0.eval (.tmp s)) ∧ (∀ i,i < l.length → F i = true → a.eval (.tmp (b + i)) = valAt l i) ∧ K w) ?_ ?_ _ _ _ _ (by rw [hL];simp) ?_ ⟨rfl,rfl,fun _ _ => rfl,fun i _ hf => (by rw [hl0] at hf;cases hf),hK⟩
 ·rintro F a w i o ho ⟨hs,hd,hbase,hval,hk⟩ hf hedge
  have hi := hlt ho
  obtain ⟨h1,h2,h3⟩ := hshape i o ho
  have hE : ∀ j,(o.after.toList.any fun e => e.on == j && Region.binds md e) = true → j < i ∧ a.eval (.tmp (b + j)) = valAt l j := by
   intro j hj
   rw [List.any_eq_true] at hj
   obtain ⟨e,he,hje⟩ := hj
   rw [Bool.and_eq_true,beq_iff_eq] at hje
   have hlj := h2 e he
   rw [← hje.1]
   exact ⟨hlj,hval _ (by omega) (hedge e he hje.2)⟩
  have hput : ∀ (v : Value) (w' : World),v = valAt l i → K w' → (fun (a' : Act) (w' : World) => a'.tmps.size = a0.tmps.size ∧ a'.defers = a0.defers ∧ (∀ s,s < b ∨ b + l.length ≤ s → a'.eval (.tmp s) = a0.eval (.tmp s)) ∧ (∀ j,j < l.length → setF F i j = true → a'.eval (.tmp (b + j)) = valAt l j) ∧ K w') (a.put o.dst v) w' := by
   intro v w' hv hk'
   rw [h1]
   refine ⟨by simpa [Act.put] using hs,by simpa [Act.put] using hd,fun s hs' => ?_,fun j hj hfj => ?_,hk'⟩
   ·rw [ev_putOther (by omega)]
    exact hbase s hs'
   ·by_cases e : j = i
    ·subst e
     rw [ev_putSame (by omega),hv]
    ·rw [ev_putOther (by omega)]
     unfold setF at hfj
     rw [if_neg e] at hfj
     exact hval j hj hfj
  have hw : Region.wanted o (yielded ops a.tmps) = wantV l o := wanted_val (b := b) fun j c hg => by
   obtain ⟨hji,hv⟩ := hE j (h3 j c hg)
   obtain ⟨oj,hoj⟩ : ∃ oj,ops[j]? = some oj := ⟨_,Array.getElem?_eq_getElem (by omega)⟩
   refine ⟨by rw [hoj];exact (hshape j oj hoj).1,by omega,hv⟩
  unfold wpOp
  rw [ho]
  simp only [hw]
  cases hstep i o a w ho hk (fun s hs' => hbase s (.inl hs')) (fun j hj => (hE j hj).2) with
  | no h hv =>
   rw [h,if_neg (by simp)]
   exact hput undef w hv.symm hk
  | val h hv =>
   rw [h,if_pos rfl]
   refine .inl ?_
   unfold Oper.wp
   rw [hv]
   exact hput _ w rfl hk
  | call f args h hv hc =>
   rw [h,if_pos rfl]
   refine .inl ?_
   unfold Oper.wp
   rw [hv]
   refine Calls.mono hc ?_
   rintro e w' ⟨rfl,hk'⟩
   exact hput _ w' rfl hk'
 ·rintro F a w ⟨hs,hd,hbase,hval,hk⟩ hall
  have : a = { tmps := lays a0.tmps b l,defers := a0.defers } := by
   obtain ⟨t,df⟩ := a
   simp only at hs hd
   subst hd
   congr 1
   refine Array.ext_getElem? fun j => ?_
   by_cases hj : j < a0.tmps.size
   ·have hjt : j < t.size := by omega
    rw [lays_get _ _ _ _ hj]
    by_cases hm : b ≤ j ∧ j < b + l.length
    ·rw [if_pos hm]
     have := hval (j - b) (by omega) (hall _ (by omega))
     rw [show b + (j - b) = j by omega] at this
     simp only [Act.eval,Array.getD_eq_getD_getElem?,Array.getElem?_eq_getElem hjt,Option.getD_some,valAt,List.getD_eq_getElem?_getD,List.getElem?_eq_getElem (show j - b < l.length by omega)] at this
     rw [Array.getElem?_eq_getElem hjt,this,List.getElem?_eq_getElem (show j - b < l.length by omega)]
    ·rw [if_neg hm]
     have := hbase j (by omega)
     simp only [Act.eval,Array.getD_eq_getD_getElem?,Array.getElem?_eq_getElem hjt,Array.getElem?_eq_getElem hj,Option.getD_some] at this
     rw [Array.getElem?_eq_getElem hjt,Array.getElem?_eq_getElem hj,this]
   ·rw [Array.getElem?_eq_none (by omega),Array.getElem?_eq_none (by rw [lays_size];omega)]
  rw [this]
  exact hend w hk
 ·rw [hl0]
  refine (?_ : ∀ m,unl (fun _ => false) m ≤ m) _
  intro m
  induction m with
  | zero => exact Nat.le_refl _
  | succ m ih =>
   unfold unl
   simp only [Bool.false_eq_true,if_false]
   omega
end
end Go.Proofs.YtflbofdpfgkmcaaGreatDoor
