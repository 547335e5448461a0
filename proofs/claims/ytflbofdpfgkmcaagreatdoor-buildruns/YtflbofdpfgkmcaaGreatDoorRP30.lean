import Derived.Test.YtflbofdpfgkmcaaGreatDoorRP29
set_option maxRecDepth 100000
set_option maxHeartbeats 16000000
namespace Go.Proofs.YtflbofdpfgkmcaaGreatDoor
open Go.RowKit Go.Shelf Go.Lib Go.Maps
open Go.Sort (putRow)
theorem CBox.turned {W w1 : World} {cb eb : Nat} {u : Value} {m : Nat} {ks : List (List UInt8)} {l l' : Cf.Ens} (h : CBox W cb eb u m ks l) (ht : W.mapTurned w1 eb) (hm : CMap w1 eb l') : CBox w1 cb eb u m ks l' := by
 have hb : ∀ j,j < W.heap.size → j ≠ eb → w1.heap[j]? = W.heap[j]? := fun j hj hn => ht.grown.block j hj (by simpa using hn)
 have bc := hb cb (lt_of_cell h.c0) h.ne1
 exact ⟨(World.cell?_of_block (a := ⟨cb,0,none⟩) bc).trans h.c0,(World.cell?_of_block (a := ⟨cb,1,none⟩) bc).trans h.c1,(World.cell?_of_block (a := ⟨cb,2,none⟩) bc).trans h.c2,(World.frozen?_of_block (a := ⟨cb,2,none⟩) bc).trans h.f2,h.row.same (fun j hj => hb j (h.row.lt hj) fun e => h.ne3 (e ▸ hj)),hm,h.ne1,h.ne2,h.ne3⟩
theorem Only.turned {S : Nat → Prop} {W w1 : World} {eb : Nat} (ht : W.mapTurned w1 eb) (hS : S eb) : Only S W w1 := by
 refine ⟨ht.grown.os,ht.grown.tape,ht.grown.output,ht.grown.size,fun j hj hs => ht.grown.block j hj fun e => hs ?_⟩
 have : j = eb := by simpa using e
 rw [this]
 exact hS
theorem CBox.put {W : World} {cb eb : Nat} {u : Value} {m : Nat} {ks : List (List UInt8)} {l : Cf.Ens} (h : CBox W cb eb u m ks l) (ho : (Cf.keys l).Nodup) (hl : l.length ≤ 1000) (k b : List UInt8) (hk : k.length ≤ 100000) :
  ∃ w1,(Instr.mapUpdate 197 (.map (some eb)) (.string (ba k)) (.agg #[.string (ba b)])).run Tryz.prog W = .ok () w1 ∧ CBox w1 cb eb u m ks (Cf.rm l k ++ [(k,b)]) ∧ Only (CBlk cb eb u) W w1 := by
 obtain ⟨D,h1,h2,h3,h4⟩ := h.isMap
 obtain ⟨w1,hr,ho1,ht⟩ := h1.store (t := 197) (e := 303) claw Tryz.underlying197 (by unfold maxLen;omega) (ckey k (by omega)) (centElem_mk b)
 exact ⟨w1,hr,h.turned ht (CMap.laid ho (h1.tidy claw) ho1 h2 h3 h4),Only.turned ht (.inr (.inl rfl))⟩
theorem CBox.drop {W : World} {cb eb : Nat} {u : Value} {m : Nat} {ks : List (List UInt8)} {e : Cf.En} {l : Cf.Ens} (h : CBox W cb eb u m ks (e :: l)) (ho : (Cf.keys (e :: l)).Nodup) (hk : e.1.length ≤ 100000) (ty : TypeId) :
  ∃ w1,(Builtin.delete_ #[197,9] ty #[.map (some eb),.string (ba e.1)]).run Tryz.prog W = .ok (.tuple #[]) w1 ∧ CBox w1 cb eb u m ks l ∧ Only (CBlk cb eb u) W w1 := by
 obtain ⟨D,h1,h2,h3,h4⟩ := h.isMap
 obtain ⟨w1,hr,ho1,ht⟩ := h1.drop (t := 197) (e := 303) claw Tryz.underlying197 (ckey e.1 (by omega)) ty
 exact ⟨w1,hr,h.turned ht (CMap.cut ho (h1.tidy claw) ho1 h2 h3 h4),Only.turned ht (.inr (.inl rfl))⟩
theorem delFirst_calls {W : World} {g cap : Nat} {x : List UInt8} {ks : List (List UInt8)} (hrow : KRow W (.slice (some ⟨g,0,none⟩) (ks.length + 1) cap) (x :: ks)) :
  Calls Tryz.prog 240 #[.slice (some ⟨g,0,none⟩) (ks.length + 1) cap,.int .i64 0,.int .i64 1] W fun e w' => e = .returned (.slice (some ⟨g,0,none⟩) ks.length cap) ∧ KRow w' (.slice (some ⟨g,0,none⟩) ks.length cap) ks ∧ W.grownBy w' (some g) := by
 obtain ⟨g',cap',e,-,hg,hcap,hm,-,hH⟩ := Lib.holds_of_ownsRow hrow (by simp)
 cases e
 have key := Tryz.slices_Delete_string g 0 cap 0 1 (x :: ks) W hH hcap (by unfold maxLen at hm;omega) (by omega) (by simp)
 refine key.mono ?_
 rintro e w' ⟨rfl,q,rfl⟩
 have h1 := Lib.ownsRow_putRow (q := q) (k := ks.length) (ys := (x :: ks).take 0 ++ (x :: ks).drop 1 ++ List.replicate (1 - 0) []) hrow (by simp) (by simp)
 have e1 : ((x :: ks).take 0 ++ (x :: ks).drop 1 ++ List.replicate (1 - 0) []).take ks.length = ks := by simp
 rw [e1] at h1
 refine ⟨rfl,h1,⟨rfl,rfl,rfl,by rw [Go.Sort.size_putRow];exact Nat.le_refl _,fun j _ hj => ?_⟩⟩
 have : g ≠ j := fun e => hj (by rw [e])
 simp [putRow,Go.Sort.mapBlock,Go.Sort.ahead,Array.getElem?_modify,this]
theorem cPut_calls {S : Nat → Prop} {W : World} {v : Value} {m : Nat} {l : Cf.Ens} (h : CAt S W v m l) (hO : Cf.Ok m l) (hm1 : 1 ≤ m) (hm : m ≤ 100) (k b : List UInt8) (hk : k.length ≤ 100000) :
  Calls Tryz.prog 163 #[v,.string (ba k),.string (ba b)] W fun e w' => e = .returned (.tuple #[]) ∧ Only S W w' ∧ ∃ S',CAt S' w' v m (Cf.put m l k b) ∧ ∀ j,S' j → S j ∨ W.heap.size ≤ j := by
 obtain ⟨cb,eb,u,rfl,hS,h,hks⟩ := h
 have c0 := h.c0
 have c1 := h.c1
 have z0 : ((m : Int) == 0) = false := by simp;omega
 have hl := hO.few
 obtain ⟨w1,hst,hB1,hon1⟩ := h.put hO.once (by omega) k b hk
 have HL := hid1 (makeLast_calls hB1 (by rw [Cf.keys_len];omega) k)
 have HS := hid1 hS
 have HPut : Hid (Cf.put m l k b = if m < (Cf.rm l k ++ [(k,b)]).length then (Cf.rm l k ++ [(k,b)]).drop 1 else Cf.rm l k ++ [(k,b)]) := hid1 rfl
 have hks' : (Cf.keys l).filter (fun x => !(x == k)) ++ [k] = Cf.keys (Cf.rm l k ++ [(k,b)]) := by
  unfold Cf.keys
  rw [List.map_append]
  show _ = Cf.keys (Cf.rm l k) ++ _
  rw [Cf.keys_rm]
  rfl
 rw [hks'] at HL
 have HN := hid1 (Cf.put_once hO.once k b)
 have HK := hid1 fun (e : Cf.En) (he : e ∈ Cf.rm l k ++ [(k,b)]) => (show e.1.length ≤ 100000 by
  rcases List.mem_append.1 he with h1 | h1
  ·exact hks _ (Cf.mem_rm.1 h1).1
  ·rw [List.mem_singleton.1 h1];exact hk)
 have hrl := Cf.rm_le l k
 have HLen : Hid ((Cf.rm l k ++ [(k,b)]).length ≤ 101) := hid1 (by simp;omega)
 have HO1 := hid1 hon1
 have zs1 := hon1.size
 clear h hB1 hS hks hks' hO hon1
 generalize Cf.rm l k ++ [(k,b)] = L at *
 go_enter Tryz.func163,Tryz.ntmps163
 go_wp2_with fail
 refine HL.out.mono ?_
 rintro e w2 ⟨rfl,hon2,u2,hB2,hu2⟩
 have HR2 := hid1 (And.intro hon2 (And.intro hB2 hu2))
 have HO2 := hid1 (HO1.out.trans hon2 fun j hj => .inl hj)
 have zs2 := HO2.out.size
 have q0 := hB2.c0
 have q1 := hB2.c1
 have q2 := hB2.c2
 have f2 := hB2.f2
 obtain ⟨g,cap,rfl⟩ : ∃ p c,u2 = .slice p L.length c := by
  have hr := hB2.row
  unfold KRow at hr
  rw [Cf.keys_len] at hr
  rcases hr.2 with ⟨rfl,h0⟩ | ⟨g,cap,cur,rfl,_⟩
  ·exact ⟨none,0,by rw [h0]⟩
  ·exact ⟨_,_,rfl⟩
 clear HL hon2 hu2
 have zl := HLen.out
 by_cases hbig : m < L.length
 ·rw [if_pos hbig] at HPut
  cases L with
  | nil => simp at hbig
  | cons e L =>
  rw [List.length_cons] at hbig zl q2 hB2 HR2
  have zb : (m : Int) < (L.length : Int) + 1 := by omega
  have hr2 := hB2.row
  obtain ⟨g,rfl⟩ : ∃ g',g = some ⟨g',0,none⟩ := by
   rcases hr2.2 with ⟨h0,_⟩ | ⟨g',cap',cur,h0,_⟩
   ·cases h0
   ·simp only [Value.slice.injEq] at h0
    exact ⟨_,h0.1⟩
  have hH := (Lib.holds_of_ownsRow hr2 (by simp))
  obtain ⟨g',cap',e0,-,hg,hcap,hmx,-,hH⟩ := hH
  simp only [Value.slice.injEq,Option.some.injEq,Addr.mk.injEq,and_true] at e0
  obtain ⟨rfl,-,rfl⟩ := e0
  have d0 : w2.cell? ⟨g,0,none⟩ = some (.string (ba e.1)) := (hH 0 (by simp [Cf.keys])).1
  have hB3 : CBox w2.drew cb eb (.slice (some ⟨g,0,none⟩) (L.length + 1) cap) m (Cf.keys (e :: L)) (e :: L) := hB2.same fun _ _ => rfl
  have hB4 : CBox w2.drew.drew cb eb (.slice (some ⟨g,0,none⟩) (L.length + 1) cap) m (Cf.keys (e :: L)) (e :: L) := hB2.same fun _ _ => rfl
  obtain ⟨w5,hdel,hB5,hon5⟩ := hB4.drop HN.out (HK.out e (by simp)) 0
  have HB5 := hid1 hB5
  have HO5 := hid1 hon5
  have r1 := hB3.c1
  have r2 := hB3.c2
  have d1 : w2.drew.cell? ⟨g,0,none⟩ = some (.string (ba e.1)) := d0
  have HO3 : Hid (Only (CBlk cb eb u) W w2.drew) := hid1 ⟨HO2.out.os,HO2.out.tape,HO2.out.output,HO2.out.size,HO2.out.block⟩
  have s2 := hB5.c2
  have fz := hB5.f2
  have hr5 : KRow w5 (.slice (some ⟨g,0,none⟩) ((Cf.keys L).length + 1) cap) (e.1 :: Cf.keys L) := by
   rw [Cf.keys_len]
   exact hB5.row
  have HDl := delFirst_calls hr5
  rw [Cf.keys_len] at HDl
  have HDe := hid1 HDl
  have hgc : some cb ≠ some g := hB5.ne2
  have hcl5 : cb < w5.heap.size := lt_of_cell hB5.c0
  clear hB2 hr2 hH hB3 hB4 hB5 hon5 HDl hr5
  go_wp2
  go_region
  clear q0 q1 q2 d0 f2 HO2
  generalize w2.drew = w3 at *
  go_wp2
  go_region
  go_wp2_with fail
  refine HDe.out.mono ?_
  rintro e6 w6 ⟨rfl,hk6,hg6⟩
  have t2 := (World.grownBy.cell_far hg6 ⟨cb,2,none⟩ hcl5 hgc).trans s2
  have ft := (World.grownBy.frozen_far hg6 ⟨cb,2,none⟩ hcl5 hgc).trans fz
  have HK6 := hid1 (And.intro hk6 hg6)
  clear HDe hk6 hg6
  go_wp2
  go_end0
  obtain ⟨hk6,hg6⟩ := HK6.out
  obtain ⟨-,-,hu2⟩ := HR2.out
  have hB6 := HB5.out.stored (ks' := Cf.keys L) (w2 := w6.setCell ⟨cb,2,none⟩ (.slice (some ⟨g,0,none⟩) L.length cap)) (fun j hj hn => hg6.block j hj hn) hk6 (.inl rfl) rfl
  have hO5 := HO5.out
  have hO3 := HO3.out
  have z5 := hO5.size
  have z3 := hO3.size
  have z6 := hg6.size
  have zd : w3.drew.heap.size = w3.heap.size := rfl
  have hS2 : ∀ j,CBlk cb eb (.slice (some ⟨g,0,none⟩) (L.length + 1) cap) j → S j ∨ W.heap.size ≤ j := fun j hj => by
   rcases CBlk.step hu2 j hj with h1 | h1
   ·exact .inl ((HS.out j).2 h1)
   ·exact .inr (by omega)
  refine ⟨rfl,⟨?_,?_,?_,by simp;omega,fun j hj hs => ?_⟩,CBlk cb eb (.slice (some ⟨g,0,none⟩) L.length cap),⟨cb,eb,.slice (some ⟨g,0,none⟩) L.length cap,rfl,fun j => Iff.rfl,?_,?_⟩,?_⟩
  ·exact hg6.os.trans (hO5.os.trans hO3.os)
  ·exact hg6.tape.trans (hO5.tape.trans hO3.tape)
  ·exact hg6.output.trans (hO5.output.trans hO3.output)
  ·have h1 : ¬ CBlk cb eb (.slice (some ⟨g,0,none⟩) (L.length + 1) cap) j := fun x => by
    rcases hS2 j x with h2 | h2
    ·exact hs h2
    ·omega
   have h2 : j ≠ cb := fun x => h1 (.inl x)
   have h3 : some j ≠ some g := fun x => h1 (.inr (.inr x))
   refine (Below.heap_setCell w6 ⟨cb,2,none⟩ _ j h2).trans ((hg6.block j (by omega) h3).trans ((hO5.block j (by omega) h1).trans ?_))
   exact hO3.block j hj fun x => hs ((HS.out j).2 x)
  ·rw [HPut.out]
   exact hB6
  ·rw [HPut.out]
   exact fun x hx => HK.out x (List.mem_cons_of_mem _ hx)
  ·exact fun j hj => hS2 j hj
 ·rw [if_neg hbig] at HPut
  have zb : (L.length : Int) ≤ (m : Int) := by omega
  clear hB2
  go_wp2
  go_region
  go_wp2
  go_end0
  obtain ⟨hon2,hB2,hu2⟩ := HR2.out
  refine ⟨rfl,⟨HO2.out.os,HO2.out.tape,HO2.out.output,HO2.out.size,fun j hj hs => HO2.out.block j hj fun x => hs ((HS.out j).2 x)⟩,CBlk cb eb (.slice g L.length cap),⟨cb,eb,.slice g L.length cap,rfl,fun j => Iff.rfl,?_,?_⟩,?_⟩
  ·rw [HPut.out]
   exact hB2.same fun _ _ => rfl
  ·rw [HPut.out]
   exact HK.out
  ·intro j hj
   rcases CBlk.step hu2 j hj with h1 | h1
   ·exact .inl ((HS.out j).2 h1)
   ·exact .inr (by omega)
theorem caches0 (es : Nat → Addr) : Caches0 es CAt where
 same := fun S W W' v m l h _ hb => by
  obtain ⟨cb,eb,u,e,hS,h,hk⟩ := h
  exact ⟨cb,eb,u,e,hS,h.same fun j hj => hb j ((hS j).2 hj),hk⟩
 lt := fun S W v m l h k hk => by
  obtain ⟨cb,eb,u,e,hS,h,-⟩ := h
  exact h.lt k ((hS k).1 hk)
 make := cNew_yes
 no := fun W m _ _ hm hE => cNew_no W m hm hE
 put := fun S W p m l k b h h1 h2 hO hk _ => cPut_calls h hO h1 h2 k b hk
 get := fun S W p m l k h _ h2 hO hk => cGet_calls h hO h2 k hk
end Go.Proofs.YtflbofdpfgkmcaaGreatDoor
namespace Go.Proofs.YtflbofdpfgkmcaaGreatDoor
open Go.RowKit Go.Shelf Go.Lib
theorem Run_good (nm word : ByteArray) (p : Option Addr) (len cap : Nat) (a b : Int) (tv : Value) (gr : Nat) (cr : Array Value) (out : ByteArray) (el : Value) (w : World)
  (hel : w.cell? ⟨3,0,none⟩ = some el) (h6 : 20 < w.heap.size) (htv : ∃ g c,tv = tfn g c)
  (eg : ∀ args w,(callFunc gr args).run Tryz.prog w = .ok (.enter gr args) w)
  (hfind : Hid (Calls Tryz.prog 88 #[.string nm,.string word,.int .i64 len] w fun e w' => e = .returned (.tuple #[kd a b tv (tfn gr cr),.nilIface]) ∧ Below w.heap.size w w' ∧ Objs w' (w.heap.size + 1)))
  (HR : Hid (∀ W,Below w.heap.size w W → Objs W (w.heap.size + 1) → Calls Tryz.prog gr (#[.string word,.slice p len cap] ++ cr) W fun e w' => e = .returned (.string out) ∧ Below W.heap.size W w')) :
  Calls Tryz.prog 30 #[.string nm,.string word,.slice p len cap] w fun e w' => e = .returned (if 2000 < out.size then .tuple #[.string ⟨#[]⟩,el] else .tuple #[.string out,.nilIface]) ∧ Below w.heap.size w w' := by
 obtain ⟨g,c,rfl⟩ := htv
 generalize hr : (if 2000 < out.size then Value.tuple #[.string ⟨#[]⟩,el] else .tuple #[.string out,.nilIface]) = r
 have HQ : Hid ((if 2000 < out.size then Value.tuple #[.string ⟨#[]⟩,el] else .tuple #[.string out,.nilIface]) = r) := hr
 clear hr
 have hnf : ∀ (a : Addr) (m : Mode) (W : World),Sem.run Tryz.prog (store a .nilFunc m) W = stored Tryz.prog W a .nilFunc m := fun a m W => run_store _ W a _ m rfl
 have hnt : ∀ (a : Addr) (m : Mode) (W : World),Sem.run Tryz.prog (store a (tfn g c) m) W = stored Tryz.prog W a (tfn g c) m := fun a m W => run_store _ W a _ m rfl
 have hnr : ∀ (a : Addr) (m : Mode) (W : World),Sem.run Tryz.prog (store a (tfn gr cr) m) W = stored Tryz.prog W a (tfn gr cr) m := fun a m W => run_store _ W a _ m rfl
 go_enter Tryz.func30,Tryz.ntmps30
 go_wp2_with fail
 refine hfind.out.mono ?_
 rintro e w2 ⟨rfl,hb2,hO2⟩
 have gC : Below w2.heap.size w2 (w2.alloc (.cells #[.int .i64 a,.int .i64 b,tfn g c,tfn gr cr] 153)) := (Below.refl _ w2).alloc (Nat.le_refl _) _
 have HC := HR.out _ (below_then hb2 gC) (hO2.stays gC)
 go_wp2_with fail
 refine HC.mono ?_
 rintro e w3 ⟨rfl,hb3⟩
 have g3 := below_then (below_then hb2 gC) hb3
 have ke : w3.cell? ⟨3,0,none⟩ = some el := (cell_below2 g3 (by omega)).trans hel
 clear HC gC hb2 hO2 hb3
 by_cases hl : 2000 < out.size
 ·have d3 : decide ((2000 : Int) < (out.size : Int)) = true := by simp;omega
  go_wp2
  go_region
  all_goals go_wp2
  go_ret2
  exact ⟨ret_eq (by rw [← HQ.out,if_pos hl];rfl),below_draws g3 1⟩
 ·have d3 : decide ((2000 : Int) < (out.size : Int)) = false := by simp;omega
  go_wp2
  go_ret2
  exact ⟨ret_eq (by rw [← HQ.out,if_neg hl];rfl),g3⟩
theorem Run_bad (nm word : ByteArray) (p : Option Addr) (len cap : Nat) (t : TypeId) (u : Value) (w : World)
  (hfind : Hid (Calls Tryz.prog 88 #[.string nm,.string word,.int .i64 len] w fun e w' => e = .returned (.tuple #[zkd,.iface t u]) ∧ Below w.heap.size w w')) :
  Calls Tryz.prog 30 #[.string nm,.string word,.slice p len cap] w fun e w' => e = .returned (.tuple #[.string ⟨#[]⟩,.iface t u]) ∧ Below w.heap.size w w' := by
 have hnf : ∀ (a : Addr) (m : Mode) (W : World),Sem.run Tryz.prog (store a .nilFunc m) W = stored Tryz.prog W a .nilFunc m := fun a m W => run_store _ W a _ m rfl
 go_enter Tryz.func30,Tryz.ntmps30
 go_wp2_with fail
 refine hfind.out.mono ?_
 rintro e w2 ⟨rfl,hb2⟩
 have g3 := hb2.alloc hb2.size (.cells #[.int .i64 0,.int .i64 0,.nilFunc,.nilFunc] 153)
 go_wp2
 go_ret2
 exact ⟨rfl,g3⟩
end Go.Proofs.YtflbofdpfgkmcaaGreatDoor
namespace Go.Proofs.YtflbofdpfgkmcaaGreatDoor
open Go.RowKit Go.Shelf Go.Lib
open Go.Sort (grow Holds putRow)
open Af (Kd)
def Af.actO (nm wd : List UInt8) (ls : List (List UInt8)) : List UInt8 × Nat :=
 if Af.actE nm wd ls.length = 0 then
  (match Af.kindOf nm with
   | some k => if 2000 < (k.out wd ls).length then ([],10) else (k.out wd ls,0)
   | none => ([],5))
 else ([],Af.actE nm wd ls.length)
theorem Run_any {w : World} {er : Nat → Value} (h : AE w er) (nm wd : List UInt8) (hl : wd.length ≤ 1000000) (v : Value) (ls : List (List UInt8)) (hrow : TRow w v ls) (hx : ∀ x ∈ ls,x.length ≤ 3000) :
  Calls Tryz.prog 30 #[.string (ba nm),.string (ba wd),v] w fun e w' => e = .returned (.tuple #[.string (ba (Af.actO nm wd ls).1),er (Af.actO nm wd ls).2]) ∧ Below w.heap.size w w' := by
 obtain ⟨pa,cap,rfl,hcap,hin⟩ := hrow
 have hrow : TRow w (.slice pa ls.length cap) ls := ⟨pa,cap,rfl,hcap,hin⟩
 rcases find_any h nm wd ls.length hl with ⟨e0,k,hk,h1,h2,h3,h4,hf⟩ | ⟨e0,hf⟩
 ·have eO : Af.actO nm wd ls = if 2000 < (k.out wd ls).length then ([],10) else (k.out wd ls,0) := by
   unfold Af.actO
   rw [if_pos e0,hk]
  have := Run_good (ba nm) (ba wd) pa ls.length cap k.least k.most _ (Af.rf k) (Af.rc (w.heap.size + 1) k) (ba (k.out wd ls)) (er 10) w h.aw.long h.aw.big ⟨_,_,rfl⟩ (rf_enters k) (hid1 hf)
   (hid1 fun W hW hO => run_calls h.aw wd h4 pa cap ls hrow hx k (by omega) (by omega) h3 W hW hO)
  refine this.mono ?_
  rintro e w' ⟨rfl,g⟩
  refine ⟨?_,g⟩
  rw [eO,ba_size]
  split
  ·rfl
  ·rw [h.zero]
 ·have eO : Af.actO nm wd ls = ([],Af.actE nm wd ls.length) := by
   unfold Af.actO
   rw [if_neg e0]
  rw [eO]
  obtain ⟨c,hc⟩ : ∃ c,Af.actE nm wd ls.length = c + 1 := ⟨Af.actE nm wd ls.length - 1,by omega⟩
  obtain ⟨t,u,hu⟩ := h.iface c
  simp only [hc,hu] at hf ⊢
  exact Run_bad (ba nm) (ba wd) pa ls.length cap t u w (hid1 hf)
end Go.Proofs.YtflbofdpfgkmcaaGreatDoor
namespace Go.Proofs.YtflbofdpfgkmcaaGreatDoor
open Go.RowKit Go.Shelf Go.Lib Go.Maps
theorem cGet_nil (k : List UInt8) (W : World) : Calls Tryz.prog 162 #[.pointer none,.string (ba k)] W fun e w' => e = .returned (.tuple #[.string (ba []),.bool false]) ∧ w' = W := by
 go_enter Tryz.func162,Tryz.ntmps162
 go_wp2
 go_ret2
 exact ⟨rfl,rfl⟩
theorem cPut_nil (k b : List UInt8) (W : World) : Calls Tryz.prog 163 #[.pointer none,.string (ba k),.string (ba b)] W fun e w' => e = .returned (.tuple #[]) ∧ w' = W := by
 go_enter Tryz.func163,Tryz.ntmps163
 go_wp2
 exact bodyPost_ret (results_none rfl _ _ _) rfl ⟨rfl,rfl⟩
theorem caGet {es : Nat → Addr} {SC : Nat → Prop} {W : World} {cv : Value} {c : Bf.Ca} (h : CaAt CAt SC W cv c) (hf : Bf.CFit c) (k : List UInt8) (hk : k.length ≤ 100000) :
  Calls Tryz.prog 162 #[cv,.string (ba k)] W fun e w' => e = .returned (.tuple #[.string (ba ((Bf.cfind c k).getD [])),.bool (Bf.cfind c k).isSome]) ∧ Only SC W w' ∧ ∃ SC',CaAt CAt SC' w' cv (Bf.cget c k) ∧ ∀ j,SC' j → SC j ∨ W.heap.size ≤ j := by
 cases c with
 | none =>
  obtain ⟨rfl,hn⟩ := h
  refine (cGet_nil k W).mono ?_
  rintro e w' ⟨rfl,rfl⟩
  exact ⟨rfl,Only.refl _ _,SC,⟨rfl,hn⟩,fun j hj => .inl hj⟩
 | some x =>
  obtain ⟨m,l⟩ := x
  obtain ⟨⟨p,rfl⟩,hA⟩ := h
  obtain ⟨h1,h2,h3,_⟩ := hf
  refine ((caches0 es).get SC W p m l k hA h1 h2 h3 hk).mono ?_
  rintro e w' ⟨rfl,ho,SC',hA',hS⟩
  exact ⟨rfl,ho,SC',⟨⟨p,rfl⟩,hA'⟩,hS⟩
theorem caPut {es : Nat → Addr} {SC : Nat → Prop} {W : World} {cv : Value} {c : Bf.Ca} (h : CaAt CAt SC W cv c) (hf : Bf.CFit c) (k b : List UInt8) (hk : k.length ≤ 100000) (hb : b.length ≤ 100000) :
  Calls Tryz.prog 163 #[cv,.string (ba k),.string (ba b)] W fun e w' => e = .returned (.tuple #[]) ∧ Only SC W w' ∧ ∃ SC',CaAt CAt SC' w' cv (Bf.cput c k b) ∧ ∀ j,SC' j → SC j ∨ W.heap.size ≤ j := by
 cases c with
 | none =>
  obtain ⟨rfl,hn⟩ := h
  refine (cPut_nil k b W).mono ?_
  rintro e w' ⟨rfl,rfl⟩
  exact ⟨rfl,Only.refl _ _,SC,⟨rfl,hn⟩,fun j hj => .inl hj⟩
 | some x =>
  obtain ⟨m,l⟩ := x
  obtain ⟨⟨p,rfl⟩,hA⟩ := h
  obtain ⟨h1,h2,h3,_⟩ := hf
  refine ((caches0 es).put SC W p m l k b hA h1 h2 h3 hk hb).mono ?_
  rintro e w' ⟨rfl,ho,SC',hA',hS⟩
  exact ⟨rfl,ho,SC',⟨⟨p,rfl⟩,hA'⟩,hS⟩
theorem CaAt.ptr {SC : Nat → Prop} {W : World} {cv : Value} {c : Bf.Ca} (h : CaAt CAt SC W cv c) : ∃ o,cv = .pointer o := by
 cases c with
 | none => exact ⟨none,h.1⟩
 | some x =>
  obtain ⟨⟨p,rfl⟩,_⟩ := h
  exact ⟨_,rfl⟩
theorem CaAt.same {SC : Nat → Prop} {W W' : World} {cv : Value} {c : Bf.Ca} (h : CaAt CAt SC W cv c) (hz : W.heap.size ≤ W'.heap.size) (hb : ∀ k,SC k → W'.heap[k]? = W.heap[k]?) : CaAt CAt SC W' cv c := by
 cases c with
 | none => exact h
 | some x => exact ⟨h.1,(caches0 (fun _ => default)).same _ _ _ _ _ _ h.2 hz hb⟩
theorem CaAt.lt {SC : Nat → Prop} {W : World} {cv : Value} {c : Bf.Ca} (h : CaAt CAt SC W cv c) : ∀ k,SC k → k < W.heap.size := by
 cases c with
 | none => exact fun k hk => absurd hk (h.2 k)
 | some x => exact (caches0 (fun _ => default)).lt _ _ _ _ _ h.2
theorem CaAt.below {SC : Nat → Prop} {W W' : World} {cv : Value} {c : Bf.Ca} (h : CaAt CAt SC W cv c) (hb : Below W.heap.size W W') : CaAt CAt SC W' cv c := h.same hb.size fun k hk => hb.block k (h.lt k hk)
theorem cget_none {c : Bf.Ca} {k : List UInt8} (h : Bf.cfind c k = none) : Bf.cget c k = c := by
 cases c with
 | none => rfl
 | some x =>
  obtain ⟨m,l⟩ := x
  have h' : Cf.find l k = none := h
  show some (m,Cf.get m l k) = some (m,l)
  unfold Cf.get
  rw [h']
def RunPost (es : Nat → Addr) (L : Lay) (d d' : Bf.Bd) (c' : Bf.Ca) (SC : Nat → Prop) (W : World) (cv : Value) (w' : World) : Prop :=
 Steps w' es d.dom L d.rule (insOf d) d'.st ∧ Only (fun j => PBlk d.dom L j ∨ SC j) W w' ∧ ∃ SC',CaAt CAt SC' w' cv c' ∧ ∀ j,SC' j → SC j ∨ W.heap.size ≤ j
theorem key_le (kind word : List UInt8) (xs : List (List UInt8)) (h1 : kind.length ≤ 200) (h2 : word.length ≤ 200) (h3 : xs.length ≤ 12) (h4 : ∀ x ∈ xs,x.length ≤ 2000) : (Kp.key kind word xs).length ≤ 100000 := by
 have hp : ∀ s : List UInt8,s.length ≤ 2000 → (Kp.piece s).length ≤ 2022 := fun s hs => by
  have := digits_len2 s.length (by omega)
  unfold Kp.piece
  simp
  omega
 have hf : ∀ l : List (List UInt8),(∀ x ∈ l,x.length ≤ 2000) → (l.flatMap Kp.piece).length ≤ l.length * 2022 := fun l => by
  induction l with
  | nil => intro _;simp
  | cons x r ih =>
   intro h
   have a := ih fun y hy => h y (List.mem_cons_of_mem _ hy)
   have b := hp x (h x (by simp))
   rw [List.flatMap_cons,List.length_append,List.length_cons]
   omega
 have a := hp kind (by omega)
 have b := hp word (by omega)
 have c := hf xs h4
 unfold Kp.key
 rw [List.length_append,List.length_append]
 omega
end Go.Proofs.YtflbofdpfgkmcaaGreatDoor
namespace Go.Proofs.YtflbofdpfgkmcaaGreatDoor
open Go.RowKit Go.Shelf Go.Lib Go.Maps
theorem Steps.only {W W' : World} {es : Nat → Addr} {dom : Nat → Prop} {L : Lay} {ru : Nat → Ru} {ins : Nat → List Inp} {st : Nat → Bf.St} {S : Nat → Prop} (h : Steps W es dom L ru ins st) (ho : Only S W W') (hS : ∀ j,SBlk dom L j → ¬ S j) : Steps W' es dom L ru ins st := h.same fun j hj => ho.block j (h.lt j hj) (hS j hj)
theorem actFit : Bf.ActFit Af.actO := fun k w xs => by
 unfold Af.actO
 split
 ·split
  ·split
   ·exact ⟨by simp,fun h => by cases h⟩
   ·rename_i h
    exact ⟨by simp,fun _ => by simpa using h⟩
  ·exact ⟨by simp,fun h => by cases h⟩
 ·rename_i h
  refine ⟨?_,fun e => absurd e h⟩
  show Af.actE k w xs.length ≤ 12
  unfold Af.actE
  split
  ·omega
  ·split
   ·omega
   ·split <;> omega
theorem Steps.dones {W : World} {es : Nat → Addr} {dom : Nat → Prop} {L : Lay} {ru : Nat → Ru} {ins : Nat → List Inp} {st : Nat → Bf.St} (h : Steps W es dom L ru ins st) {u : Nat} (hu : dom u) (hw : st u = .waits) (s : List UInt8) (b : Bool) : Steps ((W.setCell ⟨L.sp u,4,none⟩ (.int .i64 (if b then 2 else 1))).setCell ⟨L.sp u,5,none⟩ (.string (ba s))) es dom L ru ins (Bf.setS st u (.done s b)) := by
 refine h.turn hu (.done s b) ?_ fun j hj _ => ?_
 ·have r1 := heap_setCell_same W (L.sp u) 4 _ _ (.int .i64 (if b then 2 else 1)) (h.step u hu)
  rw [heap_setCell_same _ _ _ _ _ _ r1,hw]
  cases b <;> rfl
 ·rw [Below.heap_setCell _ _ _ j hj,Below.heap_setCell _ _ _ j hj]
theorem RunPost.done {es : Nat → Addr} {L : Lay} {d : Bf.Bd} {c' : Bf.Ca} {SC SC' : Nat → Prop} {W w3 : World} {cv : Value} {i : Nat} (hS : Steps w3 es d.dom L d.rule (insOf d) d.st) (hi : d.dom i) (hw : d.st i = .waits) (s : List UInt8) (b : Bool) (hO : Only SC W w3) (hC : CaAt CAt SC' w3 cv c') (hSC : ∀ j,SC' j → SC j ∨ W.heap.size ≤ j) (hap : ∀ j,SBlk d.dom L j → ¬ SC' j) :
  RunPost es L d (d.set i (.done s b)) c' SC W cv ((w3.setCell ⟨L.sp i,4,none⟩ (.int .i64 (if b then 2 else 1))).setCell ⟨L.sp i,5,none⟩ (.string (ba s))) := by
 have hp : PBlk d.dom L (L.sp i) := ⟨i,hi,rfl⟩
 have o1 : Only (fun j => PBlk d.dom L j ∨ SC j) w3 ((w3.setCell ⟨L.sp i,4,none⟩ (.int .i64 (if b then 2 else 1))).setCell ⟨L.sp i,5,none⟩ (.string (ba s))) := (Only.setCell _ _ (.inl hp)).trans (Only.setCell _ _ (.inl hp)) fun j hj => .inl hj
 have o0 : Only (fun j => PBlk d.dom L j ∨ SC j) W w3 := ⟨hO.os,hO.tape,hO.output,hO.size,fun j hj hn => hO.block j hj fun h => hn (.inr h)⟩
 refine ⟨hS.dones hi hw s b,o0.trans o1 fun j hj => .inl hj,SC',hC.same (by simp) fun k hk => ?_,hSC⟩
 have hne : k ≠ L.sp i := fun e => hap k (by rw [e];exact hp.s) hk
 rw [Below.heap_setCell _ _ _ k hne,Below.heap_setCell _ _ _ k hne]
theorem RunPost.fails {es : Nat → Addr} {L : Lay} {d : Bf.Bd} {c : Bf.Ca} {SC SC' : Nat → Prop} {W w1 w2 : World} {cv : Value} {i : Nat} {st' : Nat → Bf.St} {e : Nat} (hI : Bf.Inv d) (hU : Bf.UsOk d L.us) (hr : d.isReady i = true) (hS : Steps w2 es d.dom L d.rule (insOf d) st') (hL : Bf.Leave L.us i (L.us i) (Bf.setS d.st i (.failed e)) st') (hO : Only SC W w1) (hC : CaAt CAt SC' w1 cv c) (hSC : ∀ j,SC' j → SC j ∨ W.heap.size ≤ j) (hap : ∀ j,SBlk d.dom L j → ¬ SC' j) (hO2 : Only (PBlk d.dom L) w1 w2) :
  RunPost es L d (d.fail i e) c SC W cv w2 := by
 have o0 : Only (fun j => PBlk d.dom L j ∨ SC j) W w1 := ⟨hO.os,hO.tape,hO.output,hO.size,fun j hj hn => hO.block j hj fun h => hn (.inr h)⟩
 refine ⟨hS.congr fun k hk => (hL.spread hI hU hr k (Bf.Bd.dom_no hk)).symm,o0.trans hO2 fun j hj => .inl (.inl hj),SC',hC.same hO2.size fun k hk => hO2.block k (hC.lt k hk) fun h => hap k h.s hk,hSC⟩
theorem strun_calls {es : Nat → Addr} {W : World} {bb bm n B : Nat} {L : Lay} {cv : Value} {d : Bf.Bd} {c : Bf.Ca} {SC : Nat → Prop} {i : Nat} (hM : BuM es W bb bm n L cv d) (hi : d.dom i) (hr : d.isReady i = true) (hC : CaAt CAt SC W cv c) (hap : ∀ j,SBlk d.dom L j → ¬ SC j) (hW : BuildB B W es) (hSC : ∀ j,SC j → B ≤ j) (hfit : Bf.Fit d) (hcf : Bf.CFit c) (hk1 : (d.rule i).kind.length ≤ 200) (hk2 : (d.rule i).word.length ≤ 200) (hk3 : (d.rule i).ins.length ≤ 12) :
  Calls Tryz.prog 112 #[Ptr (L.sp i),cv] W fun e w' => e = .returned (.tuple #[]) ∧ RunPost es L d (Bf.go Af.actO c d i).d (Bf.go Af.actO c d i).c SC W cv w' := by
 have HG := hid1 (stgather_calls hM.steps i hi (hM.few i hi))
 rw [gat_insOf] at HG
 have hwt := Bf.ready_waits hr
 have HM := hid1 hM
 have HR := hid1 hr
 have HC := hid1 hC
 have HAp := hid1 hap
 have HW := hid1 hW
 have HSC := hid1 hSC
 have HUp : Hid (∀ e k,Bf.Up L.us i k → Bf.setS d.st i (.failed e) k = .waits ∨ Bf.setS d.st i (.failed e) k = .left) := hid1 fun e k hk => by
  have h1 := hM.inv.up hM.us hwt hk
  by_cases ek : k = i
  ·subst ek
   exfalso
   have : ∃ j,(d.st j).isDone = false ∧ Ru.needs d.l k j = true := by
    cases hk with
    | one h2 => exact ⟨k,by rw [hwt];rfl,((hM.us k (by rw [hwt];rfl) k).1 h2).2⟩
    | @more j _ hj h2 =>
     have h0 := hM.inv.up hM.us hwt hj
     exact ⟨j,by rcases h0.2 with e | e <;> rw [e] <;> rfl,((hM.us j h0.1 k).1 h2).2⟩
   obtain ⟨j,h2,h3⟩ := this
   rw [Bf.ready_free hr (Ru.needs_lt h3).2 h3] at h2
   cases h2
  ·rw [Bf.setS_other ek]
   exact h1.2
 have HFail := hid1 fun (V : World) (hS : Steps V es d.dom L d.rule (insOf d) d.st) (e : Nat) => stfail_calls (fun k hk => hM.lo hk) hM.usl hS hi hwt e (HUp.out e)
 have HFx := hid1 fun xs (hx : d.ins i = some xs) => hfit.ins hx
 have HCf := hid1 hcf
 obtain ⟨oc,rfl⟩ := hC.ptr
 have HGo : Hid (Bf.go Af.actO c d i = match d.ins i with
   | none => ⟨false,0,d.fail i 6,c⟩
   | some xs =>
    match Bf.cfind c (Kp.key (d.rule i).kind (d.rule i).word xs) with
    | some s => ⟨true,0,d.set i (.done s true),Bf.cget c (Kp.key (d.rule i).kind (d.rule i).word xs)⟩
    | none =>
     if (Af.actO (d.rule i).kind (d.rule i).word xs).2 = 0 then ⟨false,0,d.set i (.done (Af.actO (d.rule i).kind (d.rule i).word xs).1 false),Bf.cput c (Kp.key (d.rule i).kind (d.rule i).word xs) (Af.actO (d.rule i).kind (d.rule i).word xs).1⟩
     else ⟨false,0,d.fail i (Af.actO (d.rule i).kind (d.rule i).word xs).2,c⟩) := hid1 rfl
 generalize Bf.go Af.actO c d i = G at *
 clear hM hC hap hW hSC hr hfit hcf HUp
 go_enter Tryz.func112,Tryz.ntmps112
 go_wp2_with fail
 refine HG.out.mono ?_
 rintro e w1 ⟨g1,hg⟩
 have HS1 := hid1 (HM.out.steps.below g1)
 have HC1 := hid1 (HC.out.below g1)
 have HW1 := hid1 (HW.out.below g1)
 have HO1 : Hid (Only SC W w1) := hid1 (Only.of g1)
 rcases hg with ⟨hnone,rfl⟩ | ⟨xs,v,hsome,rfl,hrow⟩
 ·rw [hnone] at HGo
  simp only at HGo
  have HF1 := hid1 (HFail.out w1 HS1.out 6)
  have cN := HW1.out.w.none
  clear HFail HG hnone g1
  go_wp2_with fail
  refine HF1.out.mono ?_
  rintro e w2 ⟨rfl,st',hS2,hL2,hO2⟩
  have HP := hid1 (RunPost.fails HM.out.inv HM.out.us HR.out hS2 hL2 HO1.out HC1.out (fun j hj => .inl hj) HAp.out hO2)
  clear HF1 hS2 hL2 hO2
  go_wp2
  exact bodyPost_ret (results_none rfl _ _ _) rfl ⟨rfl,by rw [HGo.out];exact HP.out⟩
 ·rw [hsome] at HGo
  simp only at HGo
  obtain ⟨hx1,hx2⟩ := HFx.out xs hsome
  have hX1 := XRow.of_owns hrow
  have HKy := hid1 fun V (g : Below w1.heap.size w1 V) => HW1.out.w.k V g (d.rule i).kind (d.rule i).word v xs (hX1.below g) hk1 hk2 (by omega) (fun x hx => by have := hx2 x hx;omega)
  have hkl := key_le (d.rule i).kind (d.rule i).word xs hk1 hk2 (by omega) hx2
  have hA := HS1.out.at hi
  have c0 := hA.c0
  have c1 := hA.c1
  obtain ⟨pv,cap,ev⟩ := own_val hrow
  rw [ev] at HKy
  have HRow := hid1 hrow
  have HEv := hid1 ev
  clear hA HG hX1 hrow hx1 HFx
  subst ev
  generalize Kp.key (d.rule i).kind (d.rule i).word xs = key at *
  go_wp2
  go_region_held3 (fun w' => w'.cell? ⟨L.sp i,0,none⟩ = some (.string (ba (d.rule i).kind)) ∧ w'.cell? ⟨L.sp i,1,none⟩ = some (.string (ba (d.rule i).word))) (first | go_keep | fail)
   (first | (go_at_call 161;refine (HKy.out _ (by exact (Below.refl _ w1).drew)).mono ?_;rintro e w2 ⟨rfl,g2⟩;have e0 := cell_below' (w := w1.drew) c0 g2;have e1 := cell_below' (w := w1.drew) c1 g2) | fail)
  all_goals
   have G2 := below_then ((Below.refl _ w1).drew) g2
   have HS2 := hid1 (HS1.out.below G2)
   have HC2 := hid1 (HC1.out.below G2)
   have HW2 := hid1 (HW1.out.below G2)
   have HO2 : Hid (Only SC W w2) := hid1 (HO1.out.trans (Only.of G2) fun j hj => .inl hj)
   have HRow2 := hid1 (own_below HRow.out G2)
   have HGt := hid1 (caGet (es := es) HC2.out HCf.out key hkl)
   clear HS1 HC1 HW1 HO1 HRow HKy G2 g2 g1 e0 e1 c0 c1
   go_wp2_with fail
   refine HGt.out.mono ?_
   rintro e w3 ⟨rfl,hO3,SC3,hC3,hSC3⟩
   have hz2 := HO2.out.size
   have HS3 := hid1 (HS2.out.only hO3 HAp.out)
   have HC3 := hid1 hC3
   have HW3 := hid1 (HW2.out.only hO3 HSC.out)
   have HO3 : Hid (Only SC W w3) := hid1 (HO2.out.trans hO3 fun j hj => .inl hj)
   have HSC3 : Hid (∀ j,SC3 j → SC j ∨ W.heap.size ≤ j) := hid1 fun j hj => (hSC3 j hj).imp_right fun h => Nat.le_trans hz2 h
   have HAp3 : Hid (∀ j,SBlk d.dom L j → ¬ SC3 j) := hid1 fun j hj h => by
    rcases hSC3 j h with h1 | h1
    ·exact HAp.out j hj h1
    ·have := HS2.out.lt j hj
     omega
   have HFar : Hid (∀ j,some j = (Value.slice pv xs.length cap).ownBlock → ¬ SC j) := hid1 fun j hj h => by
    have h1 := HM.out
    have h2 := HC.out.lt j h
    have h3 := (own_lt HRow2.out j hj.symm).1
    omega
   have HRow3 := hid1 (own_same HRow2.out fun j hj => hO3.block j (own_lt HRow2.out j hj.symm).2 (HFar.out j hj))
   have hA3 := HS3.out.at hi
   have a0 := hA3.c0
   have a1 := hA3.c1
   have a4 := hA3.c4
   have a5 := hA3.c5
   have f4 := hA3.fr 4
   have f5 := hA3.fr 5
   rw [hwt] at a4 a5
   clear hA3 HGt HS2 HC2 HW2 HO2 HRow2 hO3 hC3 hSC3 hz2 HFar
   cases hfd : Bf.cfind c key with
   | some s =>
    rw [hfd] at HGo
    simp only at HGo
    have HP := hid1 (RunPost.done HS3.out hi hwt s true HO3.out HC3.out HSC3.out HAp3.out)
    clear HS3 HC3 HW3 HO3 HSC3 HAp3 HRow3 HFail HM HC
    go_wp2
    exact bodyPost_ret (results_none rfl _ _ _) rfl ⟨rfl,by rw [HGo.out];exact HP.out⟩
   | none =>
    rw [hfd] at HGo
    simp only at HGo
    rw [cget_none hfd] at HC3
    have HRn := hid1 fun V (g : Below w3.heap.size w3 V) => Run_any (HW3.out.below g).w.g.s.a (d.rule i).kind (d.rule i).word (by omega) (.slice pv xs.length cap) xs (TRow.of_owns (own_below HRow3.out g)) (fun x hx => by have := hx2 x hx;omega)
    have HCd := hid1 (actFit (d.rule i).kind (d.rule i).word xs)
    clear hfd
    generalize hao : Af.actO (d.rule i).kind (d.rule i).word xs = ao at *
    obtain ⟨out,code⟩ := ao
    simp only at HGo HRn HCd
    clear hao
    go_wp2
    go_region_held3 (fun w' => w'.cell? ⟨L.sp i,0,none⟩ = some (.string (ba (d.rule i).kind)) ∧ w'.cell? ⟨L.sp i,1,none⟩ = some (.string (ba (d.rule i).word))) (first | go_keep | fail)
     (first | (go_at_call 30;refine (HRn.out _ (by exact (Below.refl _ w3).drew)).mono ?_;rintro e w4 ⟨rfl,g4⟩;have e0 := cell_below' (w := w3.drew) a0 g4;have e1 := cell_below' (w := w3.drew) a1 g4) | fail)
    all_goals
     have G4 := below_then ((Below.refl _ w3).drew) g4
     have HS4 := hid1 (HS3.out.below G4)
     have HC4 := hid1 (HC3.out.below G4)
     have HO4 : Hid (Only SC W w4) := hid1 (HO3.out.trans (Only.of G4) fun j hj => .inl hj)
     clear HS3 HC3 HW3 HO3 HRow3 HRn G4 g4 e0 e1 a0 a1 a4 a5 f4 f5
     by_cases hcode : code = 0
     ·subst hcode
      rw [if_pos rfl] at HGo
      have hol := HCd.out.2 rfl
      have HPt := hid1 (caPut (es := es) HC4.out HCf.out key out hkl (by omega))
      rw [show erOf es 0 = Value.nilIface from rfl]
      clear HFail HCd
      go_wp2_with fail
      refine HPt.out.mono ?_
      rintro e w5 ⟨rfl,hO5,SC5,hC5,hSC5⟩
      have hz4 := HO4.out.size
      have HS5 := hid1 (HS4.out.only hO5 HAp3.out)
      have HO5 : Hid (Only SC W w5) := hid1 (HO4.out.trans hO5 HSC3.out)
      have HSC5 : Hid (∀ j,SC5 j → SC j ∨ W.heap.size ≤ j) := hid1 fun j hj => by
       rcases hSC5 j hj with h1 | h1
       ·exact HSC3.out j h1
       ·exact .inr (by omega)
      have HAp5 : Hid (∀ j,SBlk d.dom L j → ¬ SC5 j) := hid1 fun j hj h => by
       rcases hSC5 j h with h1 | h1
       ·exact HAp3.out j hj h1
       ·have := HS4.out.lt j hj
        omega
      have hA5 := HS5.out.at hi
      have a4 := hA5.c4
      have a5 := hA5.c5
      have f4 := hA5.fr 4
      have f5 := hA5.fr 5
      rw [hwt] at a4 a5
      have HP := hid1 (RunPost.done HS5.out hi hwt out false HO5.out hC5 HSC5.out HAp5.out)
      clear hA5 HPt HS5 HO5 HSC5 HAp5 HS4 HC4 HO4 hO5 hC5 hSC5 HM HC HSC3 HAp3
      go_wp2
      go_end0
      exact ⟨rfl,by rw [HGo.out];exact HP.out⟩
     ·rw [if_neg hcode] at HGo
      have HF4 := hid1 (HFail.out w4 HS4.out code)
      rcases erOf_iface es code with ⟨e9,-⟩ | ⟨t9,x9,e9⟩
      ·exact absurd e9 hcode
      ·rw [e9] at HF4 ⊢
       clear HFail e9 HCd
       go_wp2_with fail
       refine HF4.out.mono ?_
       rintro e w5 ⟨rfl,st',hS5,hL5,hO5⟩
       have HP := hid1 (RunPost.fails HM.out.inv HM.out.us HR.out hS5 hL5 HO4.out HC4.out HSC3.out HAp3.out hO5)
       clear HF4 hS5 hL5 hO5
       go_wp2
       exact bodyPost_ret (results_none rfl _ _ _) rfl ⟨rfl,by rw [HGo.out];exact HP.out⟩
end Go.Proofs.YtflbofdpfgkmcaaGreatDoor
